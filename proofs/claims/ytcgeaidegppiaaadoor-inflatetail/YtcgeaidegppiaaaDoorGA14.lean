import Derived.Test.YtcgeaidegppiaaaDoorGA12
import Derived.Test.YtcgeaidegppiaaaDoorGA01
import Derived.Test.YtcgeaidegppiaaaDoorGA13
namespace Go.Proofs.YtcgeaidegppiaaaDoor
open Go.RowKit Go.Maps
set_option maxRecDepth 20000

theorem zeroCells_byte (n : Nat) : (Builtin.zeroCells #[Value.int .u8 0] n) = (List.replicate n (Value.int .u8 0)).toArray := by
  have e : ∀ k : Nat, [Value.int IntKind.u8 0][k % 1]?.getD default = Value.int .u8 0 := fun k => by simp [Nat.mod_one]
  apply Array.ext'
  simp [Builtin.zeroCells, e, List.map_const']

set_option linter.unusedSimpArgs false in
/-- append of zeros onto a full slice: a new block. -/
theorem run_app_zeros (w : World) (ty : TypeId) (v : Value) (n : Nat) (xs : List Value) (hv : (v = .slice none 0 0 ∧ n = 0 ∧ xs = []) ∨ ∃ g, v = .slice (some ⟨g, 0, none⟩) n n ∧ w.heap[g]? = some (.cells xs.toArray 5 (0, 0)) ∧ xs.length = n) (m : Nat) (hm : 0 < m) (hb : n + m ≤ 140737488355328) :
    ∃ C w', (Builtin.append_ #[22, 3] ty #[v, .int .i64 m]).run Tryd.prog w = .ok (.slice (some ⟨w.heap.size, 0, none⟩) (n + m) C) w' ∧ n + m ≤ C ∧ C ≤ maxLen ∧ (∃ zs : List Value, w'.heap[w.heap.size]? = some (.cells (xs ++ zs).toArray 5 (0, 0)) ∧ xs.length + zs.length = C) ∧ Below w.heap.size w w' := by
  obtain ⟨i, hi, hz, hsize, hby⟩ := info_parts info5
  have ht := Tryd.underlying22
  have hti := Tryd.underlying3
  have hwr : IntKind.i64.wrap (m : Int) = m := by rw [IntKind.wrap_i64]; omega
  have hneg : ¬ ((m : Int) < 0) := by omega
  have hbig : ¬ (281474976710656 < (m : Int)) := by omega
  have hm0 : m ≠ 0 := by omega
  have hge := fun old => grownCap_ge w (n + m) old 5
  have hcm := fun old => grownCap_le_maxLen w (n + m) old 5 (by unfold maxLen; omega)
  have has : ∀ W : World, (asInt (Value.int .i64 m)).run Tryd.prog W = .ok (m : Int) W := fun _ => rfl
  have hcl : (Value.int .u8 0).cells = #[Value.int .u8 0] := rfl
  have grown : ∀ old : Nat, xs.length = n →
      (∃ zs : List Value, (w.drew.alloc (.cells (xs.toArray ++ (List.replicate m (Value.int .u8 0)).toArray ++ (List.replicate (grownCap w (n + m) old 5 - (n + m)) (Value.int .u8 0)).toArray) 5)).heap[w.heap.size]? = some (.cells (xs ++ zs).toArray 5 (0, 0)) ∧ xs.length + zs.length = grownCap w (n + m) old 5) ∧
      Below w.heap.size w (w.drew.alloc (.cells (xs.toArray ++ (List.replicate m (Value.int .u8 0)).toArray ++ (List.replicate (grownCap w (n + m) old 5 - (n + m)) (Value.int .u8 0)).toArray) 5)) := by
    intro old hxl
    have h1 := hge old
    refine ⟨⟨List.replicate m (Value.int .u8 0) ++ List.replicate (grownCap w (n + m) old 5 - (n + m)) (Value.int .u8 0), ?_, ?_⟩, (Below.refl _ _).drew.alloc (Nat.le_refl _) _⟩
    · refine (heap_alloc_new w.drew _).trans ?_
      simp
    · simp; omega
  rcases hv with ⟨rfl, rfl, rfl⟩ | ⟨g, rfl, hg, hxl⟩
  · have h48 : ¬ (281474976710656 < Builtin.nextslicecap m 0) := by rw [nextslicecap_zero hm]; omega
    have hgr := grown 0 rfl
    have h1 := hge 0
    simp only [Nat.zero_add, List.nil_append] at hgr h1 ⊢
    refine ⟨_, _, ?_, h1, by simpa using hcm 0, hgr.1, hgr.2⟩
    have hle : ¬ ((m : Int) ≤ 0) := by omega
    simp [Builtin.append_, run_underlying ht, run_underlying hti, has, hcl, hle, sizeOf, typeInfo, zeroValue, hi, hz, hsize, hby, hwr, hneg, hbig, hm0, h48, zeroCells_byte, Question.forced, run_firstCells_none, newRow, grownCap]
    intro h
    omega
  · have h48 : ¬ (281474976710656 < Builtin.nextslicecap (n + m) n) := by have := growslice_fits (need := n + m) (old := n) (bytes := 1) (by omega) (by omega); omega
    have holds : ∀ j u, xs[j]? = some u → w.cell? ((⟨g, 0, none⟩ : Addr).add j) = some u := fun j u hj => by
      rw [Addr.add_lit]
      unfold World.cell?
      simp only [hg, Nat.zero_add]
      simpa using hj
    have hfo := run_firstCells_some (P := Tryd.prog) w.drew 1 n ⟨g, 0, none⟩ n n xs (by omega) (by simpa using holds)
    have h63' : ¬ (9223372036854775807 < (n : Int) + (m : Int)) := by omega
    have hroom : ¬ n + m ≤ n := by omega
    have hgr := grown n hxl
    refine ⟨_, _, ?_, hge n, hcm n, hgr.1, hgr.2⟩
    simp [Builtin.append_, run_underlying ht, run_underlying hti, has, hcl, sizeOf, typeInfo, zeroValue, hi, hz, hsize, hby, hwr, hneg, hbig, hm0, hroom, h48, h63', zeroCells_byte, Question.forced, hfo, newRow, grownCap]

theorem wpList_app_zeros {w : World} {ops : Array Oper} {rest : List Oper} {o : Oper} {a : Act} {Q : Exit → Act → World → Prop} (hgd : o.guard = none) (s x : Operand)
    (ho : o.op = .call { callee := .builtin .append, args := #[s, x], argTypes := #[22, 3] }) (v : Value) (n : Nat) (xs : List Value) (hs : a.eval s = v) (hv : (v = .slice none 0 0 ∧ n = 0 ∧ xs = []) ∨ ∃ g, v = .slice (some ⟨g, 0, none⟩) n n ∧ w.heap[g]? = some (.cells xs.toArray 5 (0, 0)) ∧ xs.length = n) (m : Nat) (M : Int) (hx : a.eval x = .int .i64 M) (hM : M = m) (hm : 0 < m) (hb : n + m ≤ 140737488355328)
    (h : ∀ C w', n + m ≤ C → C ≤ maxLen → (∃ zs : List Value, w'.heap[w.heap.size]? = some (.cells (xs ++ zs).toArray 5 (0, 0)) ∧ xs.length + zs.length = C) → Below w.heap.size w w' → wpList Tryd.prog ops Q rest (a.put o.dst (.slice (some ⟨w.heap.size, 0, none⟩) (n + m) C)) w') :
    wpList Tryd.prog ops Q (o :: rest) a w := by
  refine wpList_plain hgd fun K hK => ?_
  subst hM
  obtain ⟨C, w', hr, h1, h2, h3, h4⟩ := run_app_zeros w o.type v n xs hv m hm hb
  unfold Oper.wp
  simp [execOp, ho, resolve, invoke, builtin, hs, hx, hr, Result.andThen]
  exact hK _ _ (h C w' h1 h2 h3 h4)

end Go.Proofs.YtcgeaidegppiaaaDoor

namespace Go.Proofs.YtcgeaidegppiaaaDoor
open Go.RowKit Go.Maps
set_option maxRecDepth 20000

/-- Something in memory, with the blocks that are its own. -/
structure Thing where
  P : World → (Nat → Nat) → Prop
  far : ∀ {w w' : World} {K : Nat → Nat}, P w K → w.heap.size ≤ w'.heap.size → (∀ k, K k ≠ 0 → w'.heap[k]? = w.heap[k]?) → P w' K
  sup : ∀ {w : World} {K : Nat → Nat}, P w K → ∀ k, K k ≠ 0 → k < w.heap.size

/-- A reader of the program. -/
def tr (g : Nat) (row : List Int) (p : Nat) : Thing := ⟨fun w K => Rp w K g row p, fun h a b => h.far a b, fun h => h.sup⟩

/-- A list of bytes. -/
def tl (v : Value) (l : List Int) : Thing :=
  ⟨fun w K => OB w 0 v l ∧ (∀ k, v.ownBlock = some k → K k ≠ 0) ∧ ∀ k, K k ≠ 0 → k < w.heap.size,
   fun h a b => ⟨h.1.move fun k hk => b k (h.2.1 k hk), h.2.1, fun k hk => Nat.lt_of_lt_of_le (h.2.2 k hk) a⟩, fun h => h.2.2⟩

/-- A block. -/
def tb (g : Nat) (o : Obj) : Thing :=
  ⟨fun w K => w.heap[g]? = some o ∧ K g ≠ 0 ∧ ∀ k, K k ≠ 0 → k < w.heap.size,
   fun h a b => ⟨(b g h.2.1).trans h.1, h.2.1, fun k hk => Nat.lt_of_lt_of_le (h.2.2 k hk) a⟩, fun h => h.2.2⟩

structure Herd (W w : World) (xs : List ((Nat → Nat) × Thing)) : Prop where
  bel : Below W.heap.size W w
  rep : ∀ (i : Nat) (d : (Nat → Nat) × Thing), xs[i]? = some d → d.2.P w d.1
  up : ∀ (i : Nat) (d : (Nat → Nat) × Thing), xs[i]? = some d → ∀ k, d.1 k ≠ 0 → W.heap.size ≤ k
  sep : ∀ (i j : Nat) (d e : (Nat → Nat) × Thing), xs[i]? = some d → xs[j]? = some e → i ≠ j → ∀ k, d.1 k ≠ 0 → e.1 k = 0

theorem Thing.zero {x : Thing} {w : World} {K : Nat → Nat} (h : x.P w K) {k : Nat} (hk : w.heap.size ≤ k) : K k = 0 := by
  by_cases e : K k = 0
  · exact e
  · have := x.sup h k e; omega

theorem get_set {α : Type} {l : List α} {x y : α} {i j : Nat} (h : (l.set j x)[i]? = some y) : (i ≠ j ∧ l[i]? = some y) ∨ (i = j ∧ y = x) := by
  by_cases e : j = i
  · subst e
    rw [List.getElem?_set_self'] at h
    obtain ⟨u, hu, e⟩ := Option.map_eq_some_iff.1 h
    exact .inr ⟨rfl, e.symm⟩
  · rw [List.getElem?_set_ne e] at h
    exact .inl ⟨fun e2 => e e2.symm, h⟩

theorem Herd.nil (W : World) : Herd W W [] := ⟨Below.refl _ _, (fun i d hd => by simp at hd), (fun i d hd => by simp at hd), (fun i j d e hd => by simp at hd)⟩

theorem Herd.below {W w w' : World} {xs : List ((Nat → Nat) × Thing)} (h : Herd W w xs) (hb : Below w.heap.size w w') : Herd W w' xs :=
  ⟨h.bel.trans (hb.mono h.bel.size), fun i d hd => d.2.far (h.rep i d hd) hb.size fun k hk => hb.block k (d.2.sup (h.rep i d hd) k hk), h.up, h.sep⟩

theorem Herd.drewN {W w : World} {xs : List ((Nat → Nat) × Thing)} (h : Herd W w xs) (n : Nat) : Herd W (w.drewN n) xs := h.below (below_drewN (Below.refl _ _) n)

theorem Herd.op {W w w' : World} {xs : List ((Nat → Nat) × Thing)} (h : Herd W w xs) (n : Nat) {K K' : Nat → Nat} {x x' : Thing} (hn : xs[n]? = some (K, x)) (hr : x'.P w' K') (hF : Fr K K' w w') : Herd W w' (xs.set n (K', x')) := by
  have hs := h.bel.size
  have hup := h.up n _ hn
  refine ⟨h.bel.trans (hF.below hup hs), fun i d hd => ?_, fun i d hd k hk => ?_, fun i j d e hd he hne k hk => ?_⟩
  · rcases get_set hd with ⟨hne, hd⟩ | ⟨_, rfl⟩
    · exact d.2.far (h.rep i d hd) hF.size fun k hk => hF.block k (d.2.sup (h.rep i d hd) k hk) (h.sep i n d _ hd hn hne k hk)
    · exact hr
  · rcases get_set hd with ⟨hne, hd⟩ | ⟨_, rfl⟩
    · exact h.up i d hd k hk
    · exact hF.up hup hs k hk
  · rcases get_set hd with ⟨hn1, hd⟩ | ⟨e1, rfl⟩
    · rcases get_set he with ⟨hn2, he⟩ | ⟨e2, rfl⟩
      · exact h.sep i j d e hd he hne k hk
      · exact (hF.role k (d.2.sup (h.rep i d hd) k hk)).trans (h.sep i n d _ hd hn hn1 k hk)
    · rcases get_set he with ⟨hn2, he⟩ | ⟨e2, rfl⟩
      · by_cases hl : k < w.heap.size
        · exact h.sep n j _ e hn he (fun e3 => hn2 e3.symm) k (fun e0 => hk ((hF.role k hl).trans e0))
        · exact Thing.zero (h.rep j e he) (by omega)
      · omega

theorem get_snoc {α : Type} {l : List α} {x y : α} {i : Nat} (h : (l ++ [x])[i]? = some y) : (l[i]? = some y) ∨ (i = l.length ∧ y = x) := by
  by_cases hi : i < l.length
  · rw [List.getElem?_append_left hi] at h
    exact .inl h
  · rw [List.getElem?_append_right (by omega)] at h
    have := (List.getElem?_eq_some_iff.1 h).1
    simp at this
    have e : i = l.length := by omega
    subst e
    simp at h
    exact .inr ⟨rfl, h.symm⟩

theorem Herd.push {W w w' : World} {xs : List ((Nat → Nat) × Thing)} (h : Herd W w xs) (hb : Below w.heap.size w w') {K : Nat → Nat} {x : Thing} (hr : x.P w' K) (hu : ∀ k, K k ≠ 0 → w.heap.size ≤ k) : Herd W w' (xs ++ [(K, x)]) := by
  have h' := h.below hb
  have hs := h.bel.size
  refine ⟨h'.bel, fun i d hd => ?_, fun i d hd k hk => ?_, fun i j d e hd he hne k hk => ?_⟩
  · rcases get_snoc hd with hd | ⟨_, rfl⟩
    · exact h'.rep i d hd
    · exact hr
  · rcases get_snoc hd with hd | ⟨_, rfl⟩
    · exact h.up i d hd k hk
    · have := hu k hk; omega
  · rcases get_snoc hd with hd | ⟨e1, rfl⟩
    · rcases get_snoc he with he | ⟨e2, rfl⟩
      · exact h.sep i j d e hd he hne k hk
      · by_cases e0 : K k = 0
        · exact e0
        · exact absurd (Thing.zero (h.rep i d hd) (hu k e0)) hk
    · rcases get_snoc he with he | ⟨e2, rfl⟩
      · exact Thing.zero (h.rep j e he) (hu k hk)
      · omega

/-- A list just made comes in. -/
theorem Herd.list {W w w' : World} {xs : List ((Nat → Nat) × Thing)} (h : Herd W w xs) (hb : Below w.heap.size w w') {v : Value} {l : List Int} (ho : OB w' w.heap.size v l) : ∃ K, Herd W w' (xs ++ [(K, tl v l)]) := by
  refine ⟨fun k => if v.ownBlock = some k then 1 else 0, h.push hb ⟨ho.base (Nat.zero_le _), fun k hk => by simp [hk], fun k hk => ?_⟩ fun k hk => ?_⟩
  · by_cases e : v.ownBlock = some k
    · exact (ho.lt k e).2
    · simp [e] at hk
  · by_cases e : v.ownBlock = some k
    · exact (ho.lt k e).1
    · simp [e] at hk

theorem Herd.sb {W w : World} {xs : List ((Nat → Nat) × Thing)} (H : Herd W w xs) (i : Nat) {K : Nat → Nat} {v : Value} {l : List Int} (hi : xs[i]? = some (K, tl v l)) : SB w v l := by
  have h : (tl v l).P w K := H.rep i _ hi
  exact h.1.sb

theorem hnewR {W w : World} {xs : List ((Nat → Nat) × Thing)} (H : Herd W w xs) (u : Value) (l : List Int) (h : SB w u l) (hB : Byt l) (hl : l.length ≤ 33554432) :
    Calls Tryd.prog 19 #[u] w fun e w' => ∃ g K, e = .returned (.pointer (some ⟨g, 0, none⟩)) ∧ Herd W w' (xs ++ [(K, tr g (unpack l) 0)]) := by
  refine (newReader_any u l w h hB hl).mono ?_
  rintro e w1 ⟨g, K, rfl, hR, hn, hb⟩
  exact ⟨g, K, rfl, H.push hb hR hn⟩

theorem htake {W w : World} {xs : List ((Nat → Nat) × Thing)} (H : Herd W w xs) (i : Nat) {K : Nat → Nat} {g : Nat} {row : List Int} {p : Nat} (hi : xs[i]? = some (K, tr g row p)) (n : Int) :
    Calls Tryd.prog 26 #[.pointer (some ⟨g, 0, none⟩), .int .i64 n] w fun e w' => e = .returned (.tuple #[.int .u32 (takeV row p n), .int .i64 (takeE row p n)]) ∧ Herd W w' (xs.set i (K, tr g row (takeP row p n))) := by
  have hw : Rp w K g row p := H.rep i _ hi
  refine (rdtake_any hw n).mono ?_
  rintro e w1 ⟨rfl, h1, h2⟩
  exact ⟨rfl, H.op i hi (x' := tr g row (takeP row p n)) h1 h2⟩

theorem hpeek {W w : World} {xs : List ((Nat → Nat) × Thing)} (H : Herd W w xs) (i : Nat) {K : Nat → Nat} {g : Nat} {row : List Int} {p : Nat} (hi : xs[i]? = some (K, tr g row p)) (n : Int) :
    Calls Tryd.prog 51 #[.pointer (some ⟨g, 0, none⟩), .int .i64 n] w fun e w' => e = .returned (.tuple #[.int .u32 (peekV row p n), .int .i64 (peekK row p n)]) ∧ Herd W w' xs := by
  have hw : Rp w K g row p := H.rep i _ hi
  refine (rdpeek_any hw n).mono ?_
  rintro e w1 ⟨rfl, q, rfl⟩
  exact ⟨rfl, H.drewN q⟩

theorem hskip {W w : World} {xs : List ((Nat → Nat) × Thing)} (H : Herd W w xs) (i : Nat) {K : Nat → Nat} {g : Nat} {row : List Int} {p : Nat} (hi : xs[i]? = some (K, tr g row p)) (n : Int) :
    Calls Tryd.prog 53 #[.pointer (some ⟨g, 0, none⟩), .int .i64 n] w fun e w' => e = .returned (.int .i64 (skipE row p n)) ∧ Herd W w' (xs.set i (K, tr g row (skipP row p n))) := by
  have hw : Rp w K g row p := H.rep i _ hi
  refine (rdskip_any hw n).mono ?_
  rintro e w1 ⟨rfl, h1, h2⟩
  exact ⟨rfl, H.op i hi (x' := tr g row (skipP row p n)) h1 h2⟩

theorem hralign {W w : World} {xs : List ((Nat → Nat) × Thing)} (H : Herd W w xs) (i : Nat) {K : Nat → Nat} {g : Nat} {row : List Int} {p : Nat} (hi : xs[i]? = some (K, tr g row p)) :
    Calls Tryd.prog 27 #[.pointer (some ⟨g, 0, none⟩)] w fun e w' => e = .returned (.tuple #[]) ∧ Herd W w' (xs.set i (K, tr g row (algn p))) := by
  have hw : Rp w K g row p := H.rep i _ hi
  refine (rdalign_any hw).mono ?_
  rintro e w1 ⟨rfl, h1, h2⟩
  exact ⟨rfl, H.op i hi (x' := tr g row (algn p)) h1 h2⟩

theorem hat {W w : World} {xs : List ((Nat → Nat) × Thing)} (H : Herd W w xs) (i : Nat) {K : Nat → Nat} {g : Nat} {row : List Int} {p : Nat} (hi : xs[i]? = some (K, tr g row p)) :
    Calls Tryd.prog 15 #[.pointer (some ⟨g, 0, none⟩)] w fun e w' => e = .returned (.int .i64 p) ∧ Herd W w' xs := by
  have hw : Rp w K g row p := H.rep i _ hi
  refine (rdat_any hw).mono ?_
  rintro e w1 ⟨rfl, rfl⟩
  exact ⟨rfl, H⟩

theorem hleft {W w : World} {xs : List ((Nat → Nat) × Thing)} (H : Herd W w xs) (i : Nat) {K : Nat → Nat} {g : Nat} {row : List Int} {p : Nat} (hi : xs[i]? = some (K, tr g row p)) :
    Calls Tryd.prog 39 #[.pointer (some ⟨g, 0, none⟩)] w fun e w' => e = .returned (.int .i64 ((row.length : Int) - p)) ∧ Herd W w' xs := by
  have hw : Rp w K g row p := H.rep i _ hi
  refine (rdleft_any hw).mono ?_
  rintro e w1 ⟨rfl, q, rfl⟩
  exact ⟨rfl, H.drewN q⟩

theorem Herd.one {W w w' : World} {xs : List ((Nat → Nat) × Thing)} (h : Herd W w xs) (hb : Below w.heap.size w w') {K : Nat → Nat} {x : Thing} (hr : x.P w' K) (hu : ∀ k, K k ≠ 0 → w.heap.size ≤ k) : Herd W w' (xs ++ [(K, x)]) := h.push hb hr hu

theorem hrraw {W w : World} {xs : List ((Nat → Nat) × Thing)} (H : Herd W w xs) (i : Nat) {K : Nat → Nat} {g : Nat} {row : List Int} {p : Nat} (hi : xs[i]? = some (K, tr g row p)) (n : Int) :
    Calls Tryd.prog 29 #[.pointer (some ⟨g, 0, none⟩), .int .i64 n] w fun e w' => ∃ a c K', e = .returned (.tuple #[.slice a (rrawL row p n).length c, .int .i64 (rrawE row p n)]) ∧ Herd W w' (xs.set i (K, tr g row (rrawP row p n)) ++ [(K', tl (.slice a (rrawL row p n).length c) (rrawL row p n))]) := by
  have hw : Rp w K g row p := H.rep i _ hi
  refine (rdraw_any hw n).mono ?_
  rintro e w1 ⟨a, c, rfl, h0, h1, h2⟩
  have H1 := H.op i hi (x' := tr g row (rrawP row p n)) h1 h2
  refine ⟨a, c, fun k => if (Value.slice a (rrawL row p n).length c).ownBlock = some k then 1 else 0, rfl, H1.bel, fun j d hd => ?_, fun j d hd k hk => ?_, fun j j' d e hd he hne k hk => ?_⟩
  · rcases get_snoc hd with hd | ⟨_, rfl⟩
    · exact H1.rep j d hd
    · refine ⟨h0.base (Nat.zero_le _), fun k hk => by simp [hk], fun k hk => ?_⟩
      by_cases e : (Value.slice a (rrawL row p n).length c).ownBlock = some k
      · exact (h0.lt k e).2
      · simp [e] at hk
  · rcases get_snoc hd with hd | ⟨_, rfl⟩
    · exact H1.up j d hd k hk
    · by_cases e : (Value.slice a (rrawL row p n).length c).ownBlock = some k
      · have := (h0.lt k e).1; have := H.bel.size; omega
      · simp [e] at hk
  · have old : ∀ j' (e' : (Nat → Nat) × Thing), (xs.set i (K, tr g row (rrawP row p n)))[j']? = some e' → ∀ k, e'.1 k ≠ 0 → k < w.heap.size := fun j' e' he' k hk => by
      rcases get_set he' with ⟨_, he2⟩ | ⟨_, rfl⟩
      · exact e'.2.sup (H.rep j' e' he2) k hk
      · exact hw.sup k hk
    rcases get_snoc hd with hd | ⟨e1, rfl⟩
    · rcases get_snoc he with he | ⟨e2, rfl⟩
      · exact H1.sep j j' d e hd he hne k hk
      · by_cases e0 : (Value.slice a (rrawL row p n).length c).ownBlock = some k
        · have := (h0.lt k e0).1; have := old j d hd k hk; omega
        · simp [e0]
    · rcases get_snoc he with he | ⟨e2, rfl⟩
      · by_cases e0 : (Value.slice a (rrawL row p n).length c).ownBlock = some k
        · by_cases ez : e.1 k = 0
          · exact ez
          · have := (h0.lt k e0).1; have := old j' e he k ez; omega
        · simp [e0] at hk
      · omega
end Go.Proofs.YtcgeaidegppiaaaDoor

