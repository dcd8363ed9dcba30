import Derived.Test.YtncniahpglgkmaaG13Ibs
namespace Go.Proofs.Ytncniahpglgkmaa
open Go.RowKit Go.Maps
set_option maxRecDepth 20000

theorem take_snoc6 {l : List Int} {k : Nat} (h : k < l.length) : l.take (k + 1) = l.take k ++ [l.getD k 0] := by
  rw [List.take_succ_eq_append_getElem h]
  simp [h]

/-- One more behind an owned row. -/
theorem grow_one {w wr w3 : World} {u v3 : Value} {D : List Int} {o : Obj} (hB : Below w.heap.size w wr) (hO : OI wr w.heap.size u D) (hg : Grew (wr.alloc o) w3 u v3) : Below w.heap.size w w3 :=
  (hB.alloc hB.size _).grown hg.by (by have := hB.size; simp; omega) (fun j hj => by have := hO.lt j hj; omega)

theorem copied_any (v : Value) (l : List Int) (w : World) (h : SI w v l) (hr : l.length ≤ 17592186043904) :
    Calls Try.prog 7 #[v] w fun e w' => ∃ a c, e = .returned (.slice a l.length c) ∧ OI w' w.heap.size (.slice a l.length c) l ∧ Below w.heap.size w w' := by
  have HS := hide h
  obtain ⟨ao, cap, rfl, hlc, hcm⟩ := h.open
  clear h
  go_enter Try.func7, Try.ntmps7
  go_wp2
  go_loopw [3, 4] (fun u i wr => ∃ k : Nat, k ≤ l.length ∧ i = .int .i64 k ∧ Hid (OI wr w.heap.size u (l.take k)) ∧ Hid (Below w.heap.size w wr)) (fun _ i _ => l.length - (intOf i).toNat)
  case atStart => exact ⟨0, Nat.zero_le _, rfl, World.ownsRow_nil _ _ _ _, Below.refl _ _⟩
  case round =>
    obtain ⟨k, hk, rfl, HO, HB⟩ := hrel
    by_cases hlt : k < l.length
    · have hlt' : (k : Int) < (l.length : Int) := by omega
      obtain ⟨b, o, rfl, hc⟩ := HS.out.get HB.out hlt
      have HD := hide (take_snoc6 hlt)
      obtain ⟨y, HY⟩ : ∃ y, Hid (y = l.getD k 0) := ⟨_, rfl⟩
      rw [← HY.out] at hc HD
      obtain ⟨D, HDD⟩ : ∃ D, Hid (D = l.take k) := ⟨_, rfl⟩
      have hDl : D.length ≤ k := by rw [HDD.out, List.length_take]; omega
      rw [← HDD.out] at HO HD
      have hBw := HB.out.size
      obtain ⟨a1, p1, hu⟩ := HO.out.shape
      subst hu
      have HALC : Hid (OI (wr.alloc (.cells #[.int .i64 y] 3)) w.heap.size (.slice a1 D.length p1) D) := HO.out.alloc _
      have HSR : Hid (Src Try.prog 1 23 (.slice (some ⟨wr.heap.size, 0, none⟩) 1 1) ([y] : List Int).length (([y] : List Int).map (Value.int .i64)) (wr.alloc (.cells #[.int .i64 y] 3))) := built_srcI wr [y]
      go_wp2_with (at_builtin; refine wpList_appI rfl _ _ 23 rfl w.heap.size _ _ D [y] rfl HALC.out rfl HSR.out (by simp; omega) (by simp; omega) ?_)
      intro v3 w3 ho3 hgr3
      have HN : Hid (OI w3 w.heap.size v3 (l.take (k + 1)) ∧ Below w.heap.size w w3) := ⟨by rw [HD.out]; exact ho3, grow_one HB.out HO.out hgr3⟩
      clear ho3 hgr3
      go_wp2
      go_roundw
      case rel => exact ⟨k + 1, by omega, by go_num, HN.out.1, HN.out.2⟩
      case measure => simp [intOf]; omega
    · obtain rfl : k = l.length := by omega
      have hlt' : ¬ (l.length : Int) < (l.length : Int) := by omega
      have HF : Hid (OI wr w.heap.size u3 l) := by have := HO.out; rwa [List.take_of_length_le (Nat.le_refl _)] at this
      clear HO
      obtain ⟨a1, p1, hu⟩ := HF.out.shape
      subst hu
      go_wp2
      go_ret
      exact ⟨_, _, rfl, HF.out, HB.out⟩

def mk8 : List Int := List.replicate 8 (-77)

/-- A list with eight marks behind it. -/
def Lent6 (w : World) (base g c : Nat) (l : List Int) : Prop := OI w base (.slice (some ⟨g, 0, none⟩) (l.length + 8) c) (l ++ mk8)

theorem length_l8 (l : List Int) : (l ++ mk8).length = l.length + 8 := by rw [List.length_append]; rfl

theorem Lent6.cap {w : World} {base g c : Nat} {l : List Int} (h : Lent6 w base g c l) : l.length + 8 ≤ c ∧ c ≤ 9223372036854775807 := by
  obtain ⟨g', c', hv, h1, h2, h3, h4⟩ := OI.form h (by rw [length_l8]; omega)
  simp only [Value.slice.injEq] at hv
  obtain ⟨-, -, rfl⟩ := hv
  rw [length_l8] at h3
  exact ⟨h3, h4⟩

theorem Lent6.si {w : World} {base g c : Nat} {l : List Int} (h : Lent6 w base g c l) : SI w (.slice (some ⟨g, 0, none⟩) l.length c) l := OI.front (r := mk8) (by rw [length_l8]; exact h)

theorem Lent6.below {w w' : World} {base g c B : Nat} {l : List Int} (h : Lent6 w base g c l) (hb : Below B w w') (hB : w.heap.size ≤ B) : Lent6 w' base g c l := OI.below h hb hB

theorem rep_snoc (l : List Int) (k : Nat) : l ++ List.replicate (k + 1) (-77 : Int) = (l ++ List.replicate k (-77)) ++ [-77] := by
  rw [List.replicate_succ', List.append_assoc]

end Go.Proofs.Ytncniahpglgkmaa

namespace Go.Proofs.Ytncniahpglgkmaa
open Go.RowKit Go.Maps
set_option maxRecDepth 20000

/-- The first so many lie within 0 and hi. -/
def bnd (l : List Int) (hi : Int) (k : Nat) : Prop := ∀ i, i < k → 0 ≤ l.getD i 0 ∧ l.getD i 0 ≤ hi

def bnb (l : List Int) (hi : Int) : Bool := l.all fun x => decide (0 ≤ x) && decide (x ≤ hi)

theorem bnb_iff {l : List Int} {hi : Int} : bnb l hi = true ↔ bnd l hi l.length := by
  unfold bnb bnd
  simp only [List.all_eq_true, Bool.and_eq_true, decide_eq_true_eq]
  constructor
  · intro h i hi
    rw [show l.getD i 0 = l[i] by simp [hi]]
    exact h _ (List.getElem_mem hi)
  · intro h x hx
    obtain ⟨i, hi, rfl⟩ := List.getElem_of_mem hx
    have := h i hi
    rwa [show l.getD i 0 = l[i] by simp [hi]] at this

theorem bnd_succ {l : List Int} {hi : Int} {k : Nat} (h : bnd l hi k) (hk : 0 ≤ l.getD k 0 ∧ l.getD k 0 ≤ hi) : bnd l hi (k + 1) := fun i hi => by
  by_cases e : i = k
  · subst e; exact hk
  · exact h i (by omega)

theorem bnb_no {l : List Int} {hi : Int} {k : Nat} (hk : k < l.length) (h : ¬ (0 ≤ l.getD k 0 ∧ l.getD k 0 ≤ hi)) : bnb l hi = false := by
  cases e : bnb l hi with
  | false => rfl
  | true => exact absurd (bnb_iff.1 e k hk) h

theorem weighable_any (v : Value) (l : List Int) (w : World) (h : SI w v l) :
    Calls Try.prog 12 #[v] w fun e w' => e = .returned (.bool (bnb l 4294967296)) ∧ w' = w := by
  have HS := hide h
  obtain ⟨ao, cap, rfl, hlc, hcm⟩ := h.open
  clear h
  go_enter Try.func12, Try.ntmps12
  go_wp2
  go_loopw [7] (fun i wr => ∃ k : Nat, k ≤ l.length ∧ i = .int .i64 k ∧ wr = w ∧ Hid (bnd l 4294967296 k)) (fun i _ => l.length - (intOf i).toNat)
  case atStart => exact ⟨0, Nat.zero_le _, rfl, rfl, fun i hi => by omega⟩
  case round =>
    obtain ⟨k, hk, rfl, rfl, HT⟩ := hrel
    by_cases hlt : k < l.length
    · have hlt' : (k : Int) < (l.length : Int) := by omega
      obtain ⟨b, o, rfl, hc⟩ := HS.out.get (Below.refl _ _) hlt
      obtain ⟨x, HX⟩ : ∃ x, Hid (x = l.getD k 0) := ⟨_, rfl⟩
      rw [← HX.out] at hc
      by_cases hb : 0 ≤ x ∧ x ≤ 4294967296
      · have HN : Hid (bnd l 4294967296 (k + 1)) := bnd_succ HT.out (by rw [← HX.out]; exact hb)
        obtain ⟨b0, b1⟩ := hb
        have b0' : ¬ x < 0 := by omega
        have b1' : ¬ 4294967296 < x := by omega
        clear HT
        go_wp2
        go_roundw
        case rel => exact ⟨k + 1, by omega, by go_num, by trivial, HN⟩
        case measure => simp [intOf]; omega
      · have HE : Hid (bnb l 4294967296 = false) := bnb_no hlt (by rw [← HX.out]; exact hb)
        by_cases b0 : x < 0
        · clear hb
          go_wp2
          go_ret
          rw [HE.out]
          exact ⟨rfl, rfl⟩
        · have b1 : 4294967296 < x := by omega
          clear hb
          go_wp2
          go_ret
          rw [HE.out]
          exact ⟨rfl, rfl⟩
    · obtain rfl : k = l.length := by omega
      have hlt' : ¬ (l.length : Int) < (l.length : Int) := by omega
      have HE : Hid (bnb l 4294967296 = true) := bnb_iff.2 HT.out
      clear HT
      go_wp2
      go_ret
      rw [HE.out]
      exact ⟨rfl, rfl⟩

def cs (f n : List Int) : Nat → Int
  | 0 => 0
  | k + 1 => cs f n k + f.getD k 0 * n.getD k 0

def cstE (f n : List Int) : Int := if 288 < f.length ∨ n.length ≠ f.length ∨ bnb n 288 = false then 1 else if bnb f 4294967296 = false then 61 else 0
def cstV (f n : List Int) : Int := if cstE f n = 0 then cs f n f.length else 0

theorem cs_bound {f n : List Int} {k : Nat} (hf : bnd f 4294967296 k) (hn : bnd n 288 k) : 0 ≤ cs f n k ∧ cs f n k ≤ 1236950581248 * k := by
  induction k with
  | zero => simp [cs]
  | succ k ih =>
    obtain ⟨a, b⟩ := ih (fun i hi => hf i (by omega)) (fun i hi => hn i (by omega))
    obtain ⟨c, d⟩ := hf k (by omega)
    obtain ⟨p, q⟩ := hn k (by omega)
    simp only [cs]
    have h1 : 0 ≤ f.getD k 0 * n.getD k 0 := Int.mul_nonneg c p
    have h2 : f.getD k 0 * n.getD k 0 ≤ 4294967296 * 288 := Int.mul_le_mul d q p (by omega)
    omega

/-- Both take the lists: where the arguments may be. -/
theorem cost_any (vf vn : Value) (f n : List Int) (w : World) (hf : SI w vf f) (hn : SI w vn n) :
    Calls Try.prog 9 #[vf, vn] w fun e w' => e = .returned (.tuple #[.int .i64 (cstV f n), .int .i64 (cstE f n)]) ∧ ∃ q, w' = w.drewN q := by
  have HF := hide hf
  have HN := hide hn
  obtain ⟨af, cf, rfl, hlf, hmf⟩ := hf.open
  obtain ⟨an, cn, rfl, hln, hmn⟩ := hn.open
  clear hf hn
  by_cases h1 : 288 < f.length
  · have h1' : (288 : Int) < (f.length : Int) := by omega
    have HE : Hid (cstE f n = 1) := if_pos (.inl h1)
    have HV : Hid (cstV f n = 0) := if_neg (by rw [HE.out]; decide)
    rw [HE.out, HV.out]
    go_enter Try.func9, Try.ntmps9
    go_wp2
    go_ret2
    exact ⟨rfl, 0, rfl⟩
  have h1' : ¬ (288 : Int) < (f.length : Int) := by omega
  by_cases h2 : n.length = f.length
  case neg =>
    have h2' : ((n.length : Int) != (f.length : Int)) = true := by simp; omega
    have HE : Hid (cstE f n = 1) := if_pos (.inr (.inl h2))
    have HV : Hid (cstV f n = 0) := if_neg (by rw [HE.out]; decide)
    rw [HE.out, HV.out]
    clear h2
    go_enter Try.func9, Try.ntmps9
    go_wp2
    go_ret2
    exact ⟨rfl, 0, rfl⟩
  have h2' : ((n.length : Int) != (f.length : Int)) = false := by simp; omega
  have H2 := hide h2
  clear h2
  go_enter Try.func9, Try.ntmps9
  go_wp2
  go_loopw [23] (fun i wr => ∃ k : Nat, k ≤ n.length ∧ i = .int .i64 k ∧ wr = w ∧ Hid (bnd n 288 k)) (fun i _ => n.length - (intOf i).toNat)
  case atStart => exact ⟨0, Nat.zero_le _, rfl, rfl, fun i hi => by omega⟩
  case round =>
    obtain ⟨k, hk, rfl, rfl, HT⟩ := hrel
    by_cases hlt : k < n.length
    · have hlt' : (k : Int) < (n.length : Int) := by omega
      obtain ⟨b, o, rfl, hc⟩ := HN.out.get (Below.refl _ _) hlt
      obtain ⟨x, HX⟩ : ∃ x, Hid (x = n.getD k 0) := ⟨_, rfl⟩
      rw [← HX.out] at hc
      by_cases hb : 0 ≤ x ∧ x ≤ 288
      · have HN2 : Hid (bnd n 288 (k + 1)) := bnd_succ HT.out (by rw [← HX.out]; exact hb)
        obtain ⟨b0, b1⟩ := hb
        have b0' : ¬ x < 0 := by omega
        have b1' : ¬ 288 < x := by omega
        clear HT
        go_wp2
        go_roundw
        case rel => exact ⟨k + 1, by omega, by go_num, by trivial, HN2⟩
        case measure => simp [intOf]; omega
      · have HE : Hid (cstE f n = 1) := if_pos (.inr (.inr (bnb_no hlt (by rw [← HX.out]; exact hb))))
        have HV : Hid (cstV f n = 0) := if_neg (by rw [HE.out]; decide)
        by_cases b0 : x < 0
        · clear hb
          go_wp2
          go_ret2
          rw [HE.out, HV.out]
          exact ⟨rfl, 0, rfl⟩
        · have b1 : 288 < x := by omega
          clear hb
          go_wp2
          go_ret2
          rw [HE.out, HV.out]
          exact ⟨rfl, 0, rfl⟩
    · obtain rfl : k = n.length := by omega
      have hlt' : ¬ (n.length : Int) < (n.length : Int) := by omega
      have hne : ¬ (288 < f.length ∨ n.length ≠ f.length ∨ bnb n 288 = false) := by
        rintro (q | q | q)
        · omega
        · exact q H2.out
        · rw [bnb_iff.2 HT.out] at q; cases q
      cases hw : bnb f 4294967296 with
      | false =>
        have HE : Hid (cstE f n = 61) := by show cstE f n = 61; unfold cstE; rw [if_neg hne, if_pos hw]
        have HV : Hid (cstV f n = 0) := if_neg (by rw [HE.out]; decide)
        have HW := hide hw
        clear hw hne HT
        go_wp2_with fail
        refine (weighable_any _ f _ HF.out).mono ?_
        rintro e w1 ⟨rfl, rfl⟩
        rw [HW.out]
        go_wp2
        go_ret2
        rw [HE.out, HV.out]
        exact ⟨rfl, 0, rfl⟩
      | true =>
        have HE : Hid (cstE f n = 0) := by show cstE f n = 0; unfold cstE; rw [if_neg hne, if_neg (by rw [hw]; decide)]
        have HV : Hid (cstV f n = cs f n f.length) := if_pos HE.out
        have HW := hide hw
        have HBN : Hid (bnd n 288 f.length) := by rw [← H2.out]; exact HT.out
        have HBF : Hid (bnd f 4294967296 f.length) := bnb_iff.1 hw
        clear hw hne HT
        go_wp2_with fail
        refine (weighable_any _ f _ HF.out).mono ?_
        rintro e w1 ⟨rfl, rfl⟩
        rw [HW.out]
        go_wp2
        go_loopw [8, 39] (fun s i wr => ∃ k q : Nat, k ≤ f.length ∧ i = .int .i64 k ∧ s = .int .i64 (cs f n k) ∧ wr = w1.drewN q) (fun _ i _ => f.length - (intOf i).toNat)
        case atStart => exact ⟨0, 0, Nat.zero_le _, rfl, rfl, rfl⟩
        case round =>
          obtain ⟨k, q, hk2, rfl, rfl, rfl⟩ := hrel
          by_cases hlt2 : k < f.length
          · have hlt2' : (k : Int) < (f.length : Int) := by omega
            have hbb := cs_bound (f := f) (n := n) (k := k) (fun i hi => HBF.out i (by omega)) (fun i hi => HBN.out i (by omega))
            have hbs := cs_bound (f := f) (n := n) (k := k + 1) (fun i hi => HBF.out i (by omega)) (fun i hi => HBN.out i (by omega))
            have hfk := HBF.out k hlt2
            have hnk := HBN.out k hlt2
            simp only [cs] at hbs
            have HC : Hid (cs f n (k + 1) = cs f n k + f.getD k 0 * n.getD k 0) := rfl
            obtain ⟨b1, o1, rfl, hc1⟩ := HF.out.get (w := w1.drewN q) (below_drewN (Below.refl _ _) q) hlt2
            obtain ⟨b2, o2, rfl, hc2⟩ := HN.out.get (w := w1.drewN q) (below_drewN (Below.refl _ _) q) (k := k) (by rw [H2.out]; exact hlt2)
            have hkn : (k : Int) < (n.length : Int) := by have := H2.out; omega
            obtain ⟨x, HX⟩ : ∃ x, Hid (x = f.getD k 0) := ⟨_, rfl⟩
            obtain ⟨y, HY⟩ : ∃ x, Hid (x = n.getD k 0) := ⟨_, rfl⟩
            obtain ⟨s, HSS⟩ : ∃ x, Hid (x = cs f n k) := ⟨_, rfl⟩
            rw [← HX.out] at hc1 hfk hbs HC
            rw [← HY.out] at hc2 hnk hbs HC
            rw [← HSS.out] at hbb hbs HC ⊢
            obtain ⟨z, hz⟩ : ∃ z, x * y = z := ⟨_, rfl⟩
            have hzb : 0 ≤ z ∧ z ≤ 4294967296 * 288 := by rw [← hz]; exact ⟨Int.mul_nonneg hfk.1 hnk.1, Int.mul_le_mul hfk.2 hnk.2 hnk.1 (by omega)⟩
            rw [hz] at hbs HC
            have hwz : IntKind.i64.wrap (x * y) = z := by rw [hz]; rw [IntKind.wrap_i64]; omega
            have hc1' : w1.cell? ⟨b1, o1 + k, none⟩ = some (.int .i64 x) := hc1
            have hc2' : w1.cell? ⟨b2, o2 + k, none⟩ = some (.int .i64 y) := hc2
            clear hz
            go_wp2
            go_roundw
            case rel => exact ⟨k + 1, q, by omega, by go_num, by rw [HC.out], rfl⟩
            case measure => simp [intOf]; omega
          · obtain rfl : k = f.length := by omega
            have hlt2' : ¬ (f.length : Int) < (f.length : Int) := by omega
            go_wp2
            go_ret2
            rw [HE.out, HV.out]
            exact ⟨rfl, q, rfl⟩
end Go.Proofs.Ytncniahpglgkmaa

