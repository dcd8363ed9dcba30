import Derived.Test.YtjhgjohnfkgleaaRng2
import Derived.Test.YtjhgjohnfkgleaaSrt
import Derived.Test.YtjhgjohnfkgleaaRord
namespace Go.Proofs.Ytjhgjohnfkgleaa
open Go.RowKit
set_option maxRecDepth 20000

/-- The places, each under its key, the turns from some number on. -/
def itsO (z : Nat) (keys : List Int) : List (It Int) := (List.range keys.length).map fun i => ⟨keys.getD i 0, (z + i : Nat), i⟩

theorem itsO_len (z : Nat) (keys : List Int) : (itsO z keys).length = keys.length := by simp [itsO]

theorem itsO_take {z : Nat} {keys : List Int} {k : Nat} (h : k < keys.length) : (itsO z keys).take (k + 1) = (itsO z keys).take k ++ [It.mk (keys.getD k 0) ((z + k : Nat) : Int) (k : Int)] := by
  rw [List.take_succ_eq_append_getElem (by rw [itsO_len]; exact h)]
  simp [itsO]

theorem itsO_tlen (z : Nat) (keys : List Int) {k : Nat} (h : k ≤ keys.length) : ((itsO z keys).take k).length = k := by rw [List.length_take, itsO_len]; omega

theorem itsO_all (z : Nat) (keys : List Int) : (itsO z keys).take keys.length = itsO z keys := List.take_of_length_le (by rw [itsO_len]; exact Nat.le_refl _)

theorem itsO_pt {z : Nat} {keys : List Int} {i : Nat} (h : i < keys.length) : pt (itsO z keys) i = ⟨keys.getD i 0, (z + i : Nat), i⟩ := by
  rw [pt_eq (by rw [itsO_len]; exact h)]
  simp [itsO]

theorem itsO_asc (z : Nat) (keys : List Int) : Asc (itsO z keys) := by
  intro i j hij hj
  rw [itsO_len] at hj
  rw [itsO_pt (by omega), itsO_pt hj]
  show ((z + i : Nat) : Int) < ((z + j : Nat) : Int)
  omega

/-- An item that says its key. -/
def Good (keys : List Int) (x : It Int) : Prop := 0 ≤ x.val ∧ x.val < keys.length ∧ x.key = keys.getD x.val.toNat 0

theorem itsO_mem {z : Nat} {keys : List Int} {x : It Int} (h : x ∈ itsO z keys) : ∃ i : Nat, i < keys.length ∧ x = ⟨keys.getD i 0, (z + i : Nat), i⟩ := by
  obtain ⟨i, hi, e⟩ := exists_pt h
  rw [itsO_len] at hi
  exact ⟨i, hi, by rw [← e, itsO_pt hi]⟩

theorem itsO_good {z : Nat} {keys : List Int} : ∀ x ∈ itsO z keys, Good keys x := by
  intro x hx
  obtain ⟨i, hi, rfl⟩ := itsO_mem hx
  refine ⟨?_, ?_, ?_⟩
  · show (0 : Int) ≤ i; omega
  · show (i : Int) < keys.length; omega
  · simp

theorem itsO_order (z : Nat) (keys : List Int) : (drainAll (itsO z keys)).map (·.val) = orderOf keys := by
  refine order_unique ?_ ?_
  · rw [List.pairwise_map]
    refine (drain_sorted _ (itsO_asc z keys)).imp_of_mem ?_
    intro a b ha hb h
    obtain ⟨i, hi, rfl⟩ := itsO_mem ((drainAll_perm _).mem_iff.1 ha)
    obtain ⟨j, hj, rfl⟩ := itsO_mem ((drainAll_perm _).mem_iff.1 hb)
    unfold Lt at h
    unfold Ah
    simp only [Int.toNat_natCast]
    simp only at h
    omega
  · refine ((drainAll_perm _).map _).trans ?_
    have : (itsO z keys).map (·.val) = places 0 keys.length := by
      unfold itsO places
      rw [List.map_map]
      apply List.map_congr_left
      intro i _
      simp
    rw [this]

/-- What is left to be drained is the rest of the order. -/
def Left' (keys : List Int) (R : List (It Int)) (t : Nat) : Prop := (drainAll R).map (·.val) = (orderOf keys).drop t ∧ (∀ x ∈ R, Good keys x) ∧ R.length + t = keys.length

theorem Left'.start (z : Nat) (keys : List Int) : Left' keys (itsO z keys) 0 := ⟨by rw [itsO_order]; rfl, itsO_good, by rw [itsO_len]; rfl⟩

theorem Left'.step {keys : List Int} {R : List (It Int)} {t : Nat} (h : Left' keys R t) (hn : R ≠ []) : Left' keys (rest R) (t + 1) ∧ t < keys.length ∧ ∃ p : Nat, pkV R = p ∧ p < keys.length ∧ (orderOf keys).getD t 0 = p ∧ pkK R = keys.getD p 0 := by
  obtain ⟨h1, h2, h3⟩ := h
  have hl := rest_len hn
  have hpos : 0 < R.length := List.length_pos_iff.2 hn
  have ht : t < (orderOf keys).length := by rw [orderOf_len]; omega
  have hf := fstTo_lt R R.length hpos
  rw [drainAll_step hn, List.map_cons, List.drop_eq_getElem_cons ht] at h1
  obtain ⟨g1, g2, g3⟩ := h2 _ (mem_pt hf)
  have e1 : (pt R (fstTo R R.length)).val = (orderOf keys)[t] := (List.cons.inj h1).1
  refine ⟨⟨(List.cons.inj h1).2, fun x hx => h2 x (List.mem_of_mem_eraseIdx hx), by omega⟩, by omega, (pkV R).toNat, ?_, ?_, ?_, ?_⟩
  · rw [pkV_eq hn]; omega
  · rw [pkV_eq hn]; omega
  · rw [pkV_eq hn]
    have : (orderOf keys).getD t 0 = (orderOf keys)[t] := by simp [ht]
    rw [this, ← e1]; omega
  · rw [pkK_eq hn, pkV_eq hn]; exact g3

/-- The things of a pass. -/
def agX (br g B bl : Nat) (lo : Obj) (G : List ((Nat → Nat) × Thing)) (bk : Nat) (kv : Value) (bpl : Nat) (pv : Value) (keys : List Int) (ba : Nat) (Kr K KB Kl Kk Kp Kb Ka : Nat → Nat) (R : List (It Int)) (n t : Nat) : List ((Nat → Nat) × Thing) :=
  [(Kr, tb br (.cells #[.bool false] 4)), (K, tq g R n), (KB, tb B (.cells #[.pointer (some ⟨g, 0, none⟩)] 46)), (Kl, tb bl lo)] ++ G ++ [(Kk, tb bk (.cells #[kv] 22)), (Kp, tl pv (orderOf keys)), (Kb, tb bpl (.cells #[pv] 22)), (Ka, tb ba (.cells #[.int .i64 (t : Nat)] 3))]

def AgI (br g B bl : Nat) (lo : Obj) (G : List ((Nat → Nat) × Thing)) (bk : Nat) (kv : Value) (bpl : Nat) (pv : Value) (keys : List Int) (ba n m : Nat) (xs : List ((Nat → Nat) × Thing)) : Prop :=
  ∃ Kr K KB Kl Kk Kp Kb Ka R t, xs = agX br g B bl lo G bk kv bpl pv keys ba Kr K KB Kl Kk Kp Kb Ka R n t ∧ m = R.length ∧ Left' keys R t

def AgE (br g B bl : Nat) (lo : Obj) (G : List ((Nat → Nat) × Thing)) (bk : Nat) (kv : Value) (bpl : Nat) (pv : Value) (keys : List Int) (ba n : Nat) (xs : List ((Nat → Nat) × Thing)) : Prop :=
  ∃ Kr K KB Kl Kk Kp Kb Ka, xs = agX br g B bl lo G bk kv bpl pv keys ba Kr K KB Kl Kk Kp Kb Ka [] n keys.length

def AgY (br g B bl : Nat) (lo : Obj) (G : List ((Nat → Nat) × Thing)) (bk : Nat) (kv : Value) (bpl : Nat) (pv : Value) (keys : List Int) (ba n m : Nat) (x : Int × Int) (xs : List ((Nat → Nat) × Thing)) : Prop :=
  ∃ Kr K KB Kl Kk Kp Kb Ka R t, xs = agX br g B bl lo G bk kv bpl pv keys ba Kr K KB Kl Kk Kp Kb Ka R n t ∧ m = R.length + 1 ∧ Left' keys R (t + 1) ∧ t < keys.length ∧ ∃ p : Nat, x = (keys.getD p 0, (p : Int)) ∧ p < keys.length ∧ (orderOf keys).getD t 0 = p

theorem ag_turn {W0 W : World} {br g B bl : Nat} {lo : Obj} {G : List ((Nat → Nat) × Thing)} {bk : Nat} {kv : Value} {bpl : Nat} {pv : Value} {keys : List Int} {ba n m d lb : Nat} {o : Obj} (hN : keys.length ≤ 1048576) (h : InH W0 d lb (AgI br g B bl lo G bk kv bpl pv keys ba n m) o W) :
    Turn g B (fun x W => InH W0 d lb (AgY br g B bl lo G bk kv bpl pv keys ba n m x) o W) (fun W => InH W0 d lb (AgE br g B bl lo G bk kv bpl pv keys ba n) o W) W := by
  obtain ⟨xs, Kd, Kl2, ⟨Kr, K, KB, Kl, Kk, Kp, Kb, Ka, R, t, rfl, hm, hL⟩, H⟩ := h
  have h3 := hL.2.2
  refine ⟨W0, _, 1, 2, K, KB, R, n, H, rfl, rfl, by omega, fun W' H' => ⟨fun hn => ?_, fun hn => ?_⟩⟩
  · subst hn
    have ht : t = keys.length := by simpa using h3
    subst ht
    exact ⟨agX br g B bl lo G bk kv bpl pv keys ba Kr K KB Kl Kk Kp Kb Ka [] n keys.length, Kd, Kl2, ⟨Kr, K, KB, Kl, Kk, Kp, Kb, Ka, rfl⟩, H'⟩
  · obtain ⟨q1, q2, p, q3, q4, q5, q6⟩ := hL.step hn
    have hl := rest_len hn
    exact ⟨agX br g B bl lo G bk kv bpl pv keys ba Kr K KB Kl Kk Kp Kb Ka (rest R) n t, Kd, Kl2, ⟨Kr, K, KB, Kl, Kk, Kp, Kb, Ka, rest R, t, rfl, by omega, q1, q2, p, by rw [q3, q6], q4, q5⟩, H'⟩

end Go.Proofs.Ytjhgjohnfkgleaa
