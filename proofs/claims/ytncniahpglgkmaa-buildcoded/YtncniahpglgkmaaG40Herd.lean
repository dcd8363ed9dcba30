import Derived.Test.YtncniahpglgkmaaG38Rd
import Derived.Test.YtncniahpglgkmaaG10App
import Derived.Test.YtncniahpglgkmaaG39Hlp
namespace Go.Proofs.Ytncniahpglgkmaa
open Go.RowKit Go.Maps
set_option maxRecDepth 20000

/-- The bytes of the writer: new memory. -/
theorem wbytes_any {w : World} {K : Nat → Nat} {g : Nat} {row : List Int} (h : Wp w K g row) :
    Calls Try.prog 24 #[.pointer (some ⟨g, 0, none⟩)] w fun e w' => ∃ a c, e = .returned (.slice a (pack row).length c) ∧ OB w' w.heap.size (.slice a (pack row).length c) (pack row) ∧ Below w.heap.size w w' := by
  obtain ⟨v, d, r, n, h1, h2, h3⟩ := h
  have c0 : w.cell? ⟨g, 0, none⟩ = some v := h1.cell 0
  have c1 : w.cell? ⟨g, 1, none⟩ = some (.int .u64 r) := h1.cell 1
  have c2 : w.cell? ⟨g, 2, none⟩ = some (.int .i64 n) := h1.cell 2
  obtain ⟨a, c, rfl⟩ := h1.o.shape
  have hl := h2.len
  have hn := h2.h8
  have hd : d.length ≤ 33554432 := by omega
  have hgl := h1.lt
  have HA1 := hide h1
  have HA2 := hide h2
  obtain ⟨T, HT⟩ : ∃ T, Hid (T = pack row) := ⟨_, rfl⟩
  rw [← HT.out]
  have HT2 : Hid (T = d ++ tail r n) := HT.out.trans h2.pack
  clear h1 h2 hl
  go_enter Try.func24, Try.ntmps24
  go_wp2_with (at_make; refine wpList_mk rfl _ _ rfl _ _ _ _ 0 (d.length + 1) rfl rfl rfl (by first | rfl | (simp; done)) (by omega) (by omega) ?_)
  intro w1 hg hb1
  have ho : OB w1 w.heap.size (.slice (some ⟨w.heap.size, 0, none⟩) 0 (d.length + 1)) [] := ⟨by simp, .inr ⟨w.heap.size, d.length + 1, _, rfl, Nat.le_refl _, hg, by simp, by unfold maxLen; omega, by simp, by simp⟩⟩
  have HO := hide ho
  have HB1 := hide hb1
  have HSRC : Hid (SB w1 (.slice a d.length c) d) := HA1.out.o.sb.below hb1
  have k0 : w1.cell? ⟨g, 0, none⟩ = some (.slice a d.length c) := (hb1.cell hgl).trans c0
  have hw1 : w.heap.size ≤ w1.heap.size := hb1.size
  clear ho hg hb1
  go_wp2_with (at_builtin; refine wpList_app rfl _ _ 22 rfl w.heap.size _ _ [] d rfl HO.out rfl HSRC.out.src (by simp; omega) hw1 ?_)
  intro v2 w2 ho2 hgr2
  have ho2' : OB w2 w.heap.size v2 d := ho2
  have hb2 : Below w.heap.size w w2 := HB1.out.grown hgr2.by hw1 (fun k hk => by simp [Value.ownBlock] at hk; omega)
  have k1 : w2.cell? ⟨g, 1, none⟩ = some (.int .u64 r) := (hb2.cell hgl).trans c1
  have k2 : w2.cell? ⟨g, 2, none⟩ = some (.int .i64 n) := (hb2.cell hgl).trans c2
  have hw2 := hb2.size
  have HO2 := hide ho2'
  have HB2 := hide hb2
  obtain ⟨a2, p2, rfl⟩ := ho2'.shape
  clear ho2 ho2' hgr2 hb2 HO HSRC k0
  by_cases h0 : n = 0
  · subst h0
    have HTd : Hid (T = d) := by show _ = _; rw [HT2.out]; simp [tail]
    go_wp2
    go_ret
    rw [HTd.out]
    exact ⟨_, _, rfl, HO2.out, HB2.out⟩
  · have h0' : (0 : Int) < n := by omega
    have hr := pow_lt256 hn HA2.out.r1
    have hr0 := HA2.out.r0
    have hrw : IntKind.u8.wrap r = r := by rw [IntKind.wrap_u8]; omega
    have HTd : Hid (T = d ++ [r]) := by show _ = _; rw [HT2.out]; simp [tail, h0]
    have HALC : Hid (OB (w2.alloc (.cells #[.int .u8 r] 5)) w.heap.size (.slice a2 d.length p2) d) := HO2.out.alloc _
    have HSR : Hid (Src Try.prog 1 22 (.slice (some ⟨w2.heap.size, 0, none⟩) 1 1) ([r] : List Int).length (([r] : List Int).map (Value.int .u8)) (w2.alloc (.cells #[.int .u8 r] 5))) := (built_sb w2 [r] (by unfold maxLen; simp)).src
    go_wp2_with (at_builtin; refine wpList_app rfl _ _ 22 rfl w.heap.size _ _ d [r] rfl HALC.out rfl HSR.out (by simp; omega) (by simp; omega) ?_)
    intro v3 w3 ho3 hgr3
    have hb3 : Below w.heap.size w w3 := (HB2.out.alloc hw2 _).grown hgr3.by (by simp; omega) (fun k hk => by have := HO2.out.lt k hk; omega)
    obtain ⟨a3, p3, rfl⟩ := ho3.shape
    have HO3 := hide ho3
    have HB3 := hide hb3
    clear ho3 hgr3 hb3
    go_wp2
    go_ret
    rw [HTd.out]
    exact ⟨_, _, rfl, HO3.out, HB3.out⟩

theorem zeroCells_byte (n : Nat) : (Builtin.zeroCells #[Value.int .u8 0] n) = (List.replicate n (Value.int .u8 0)).toArray := by
  have e : ∀ k : Nat, [Value.int IntKind.u8 0][k % 1]?.getD default = Value.int .u8 0 := fun k => by simp [Nat.mod_one]
  apply Array.ext'
  simp [Builtin.zeroCells, e, List.map_const']

set_option linter.unusedSimpArgs false in
/-- append of zeros onto a full slice: a new block. -/
theorem run_app_zeros (w : World) (ty : TypeId) (v : Value) (n : Nat) (xs : List Value) (hv : (v = .slice none 0 0 ∧ n = 0 ∧ xs = []) ∨ ∃ g, v = .slice (some ⟨g, 0, none⟩) n n ∧ w.heap[g]? = some (.cells xs.toArray 5 (0, 0)) ∧ xs.length = n) (m : Nat) (hm : 0 < m) (hb : n + m ≤ 140737488355328) :
    ∃ C w', (Builtin.append_ #[22, 3] ty #[v, .int .i64 m]).run Try.prog w = .ok (.slice (some ⟨w.heap.size, 0, none⟩) (n + m) C) w' ∧ n + m ≤ C ∧ C ≤ maxLen ∧ (∃ zs : List Value, w'.heap[w.heap.size]? = some (.cells (xs ++ zs).toArray 5 (0, 0)) ∧ xs.length + zs.length = C) ∧ Below w.heap.size w w' := by
  obtain ⟨i, hi, hz, hsize, hby⟩ := info_parts info5
  have ht := Try.underlying22
  have hti := Try.underlying3
  have hwr : IntKind.i64.wrap (m : Int) = m := by rw [IntKind.wrap_i64]; omega
  have hneg : ¬ ((m : Int) < 0) := by omega
  have hbig : ¬ (281474976710656 < (m : Int)) := by omega
  have hm0 : m ≠ 0 := by omega
  have hge := fun old => grownCap_ge w (n + m) old 5
  have hcm := fun old => grownCap_le_maxLen w (n + m) old 5 (by unfold maxLen; omega)
  have has : ∀ W : World, (asInt (Value.int .i64 m)).run Try.prog W = .ok (m : Int) W := fun _ => rfl
  have hcl : (Value.int .u8 0).cells = #[Value.int .u8 0] := rfl
  have grown : ∀ old : Nat, xs.length = n →
      (∃ zs : List Value, (w.drew.alloc (.cells (xs.toArray ++ (List.replicate m (Value.int .u8 0)).toArray ++ (List.replicate (grownCap w (n + m) old 5 - (n + m)) (Value.int .u8 0)).toArray) 5)).heap[w.heap.size]? = some (.cells (xs ++ zs).toArray 5 (0, 0)) ∧ xs.length + zs.length = grownCap w (n + m) old 5) ∧
      Below w.heap.size w (w.drew.alloc (.cells (xs.toArray ++ (List.replicate m (Value.int .u8 0)).toArray ++ (List.replicate (grownCap w (n + m) old 5 - (n + m)) (Value.int .u8 0)).toArray) 5)) := by
    intro old hxl
    have h1 := hge old
    refine ⟨⟨List.replicate m (Value.int .u8 0) ++ List.replicate (grownCap w (n + m) old 5 - (n + m)) (Value.int .u8 0), ?_, ?_⟩, (Below.refl _ _).drew.alloc (Nat.le_refl _) _⟩
    · refine (heap_alloc_new w.drew _).trans ?_
      simp
    · simp; omega
  rcases hv with ⟨rfl, rfl, rfl⟩ | ⟨g, rfl, hg, hxl⟩
  · have h48 : ¬ (281474976710656 < Builtin.nextslicecap m 0) := by rw [nextslicecap_zero hm]; omega
    have hgr := grown 0 rfl
    have h1 := hge 0
    simp only [Nat.zero_add, List.nil_append] at hgr h1 ⊢
    refine ⟨_, _, ?_, h1, by simpa using hcm 0, hgr.1, hgr.2⟩
    have hle : ¬ ((m : Int) ≤ 0) := by omega
    simp [Builtin.append_, run_underlying ht, run_underlying hti, has, hcl, hle, sizeOf, typeInfo, zeroValue, hi, hz, hsize, hby, hwr, hneg, hbig, hm0, h48, zeroCells_byte, Question.forced, run_firstCells_none, newRow, grownCap]
    intro h
    omega
  · have h48 : ¬ (281474976710656 < Builtin.nextslicecap (n + m) n) := by have := growslice_fits (need := n + m) (old := n) (bytes := 1) (by omega) (by omega); omega
    have holds : ∀ j u, xs[j]? = some u → w.cell? ((⟨g, 0, none⟩ : Addr).add j) = some u := fun j u hj => by
      rw [Addr.add_lit]
      unfold World.cell?
      simp only [hg, Nat.zero_add]
      simpa using hj
    have hfo := run_firstCells_some (P := Try.prog) w.drew 1 n ⟨g, 0, none⟩ n n xs (by omega) (by simpa using holds)
    have h63' : ¬ (9223372036854775807 < (n : Int) + (m : Int)) := by omega
    have hroom : ¬ n + m ≤ n := by omega
    have hgr := grown n hxl
    refine ⟨_, _, ?_, hge n, hcm n, hgr.1, hgr.2⟩
    simp [Builtin.append_, run_underlying ht, run_underlying hti, has, hcl, sizeOf, typeInfo, zeroValue, hi, hz, hsize, hby, hwr, hneg, hbig, hm0, hroom, h48, h63', zeroCells_byte, Question.forced, hfo, newRow, grownCap]

theorem wpList_app_zeros {w : World} {ops : Array Oper} {rest : List Oper} {o : Oper} {a : Act} {Q : Exit → Act → World → Prop} (hgd : o.guard = none) (s x : Operand)
    (ho : o.op = .call { callee := .builtin .append, args := #[s, x], argTypes := #[22, 3] }) (v : Value) (n : Nat) (xs : List Value) (hs : a.eval s = v) (hv : (v = .slice none 0 0 ∧ n = 0 ∧ xs = []) ∨ ∃ g, v = .slice (some ⟨g, 0, none⟩) n n ∧ w.heap[g]? = some (.cells xs.toArray 5 (0, 0)) ∧ xs.length = n) (m : Nat) (M : Int) (hx : a.eval x = .int .i64 M) (hM : M = m) (hm : 0 < m) (hb : n + m ≤ 140737488355328)
    (h : ∀ C w', n + m ≤ C → C ≤ maxLen → (∃ zs : List Value, w'.heap[w.heap.size]? = some (.cells (xs ++ zs).toArray 5 (0, 0)) ∧ xs.length + zs.length = C) → Below w.heap.size w w' → wpList Try.prog ops Q rest (a.put o.dst (.slice (some ⟨w.heap.size, 0, none⟩) (n + m) C)) w') :
    wpList Try.prog ops Q (o :: rest) a w := by
  refine wpList_plain hgd fun K hK => ?_
  subst hM
  obtain ⟨C, w', hr, h1, h2, h3, h4⟩ := run_app_zeros w o.type v n xs hv m hm hb
  unfold Oper.wp
  simp [execOp, ho, resolve, invoke, builtin, hs, hx, hr, Result.andThen]
  exact hK _ _ (h C w' h1 h2 h3 h4)

end Go.Proofs.Ytncniahpglgkmaa

namespace Go.Proofs.Ytncniahpglgkmaa
open Go.RowKit Go.Maps
set_option maxRecDepth 20000

/-- Something in memory, with the blocks that are its own. -/
structure Thing where
  P : World → (Nat → Nat) → Prop
  far : ∀ {w w' : World} {K : Nat → Nat}, P w K → w.heap.size ≤ w'.heap.size → (∀ k, K k ≠ 0 → w'.heap[k]? = w.heap[k]?) → P w' K
  sup : ∀ {w : World} {K : Nat → Nat}, P w K → ∀ k, K k ≠ 0 → k < w.heap.size

/-- A writer of the program. -/
def tw (g : Nat) (row : List Int) : Thing := ⟨fun w K => Wp w K g row, fun h a b => h.far a b, fun h => h.sup⟩

/-- A reader of the program. -/
def tr (g : Nat) (row : List Int) (p : Nat) : Thing := ⟨fun w K => Rp w K g row p, fun h a b => h.far a b, fun h => h.sup⟩

/-- A list of bytes. -/
def tl (v : Value) (l : List Int) : Thing :=
  ⟨fun w K => OB w 0 v l ∧ (∀ k, v.ownBlock = some k → K k ≠ 0) ∧ ∀ k, K k ≠ 0 → k < w.heap.size,
   fun h a b => ⟨h.1.move fun k hk => b k (h.2.1 k hk), h.2.1, fun k hk => Nat.lt_of_lt_of_le (h.2.2 k hk) a⟩, fun h => h.2.2⟩

/-- A block. -/
def tb (g : Nat) (o : Obj) : Thing :=
  ⟨fun w K => w.heap[g]? = some o ∧ K g ≠ 0 ∧ ∀ k, K k ≠ 0 → k < w.heap.size,
   fun h a b => ⟨(b g h.2.1).trans h.1, h.2.1, fun k hk => Nat.lt_of_lt_of_le (h.2.2 k hk) a⟩, fun h => h.2.2⟩

structure Herd (W w : World) (xs : List ((Nat → Nat) × Thing)) : Prop where
  bel : Below W.heap.size W w
  rep : ∀ (i : Nat) (d : (Nat → Nat) × Thing), xs[i]? = some d → d.2.P w d.1
  up : ∀ (i : Nat) (d : (Nat → Nat) × Thing), xs[i]? = some d → ∀ k, d.1 k ≠ 0 → W.heap.size ≤ k
  sep : ∀ (i j : Nat) (d e : (Nat → Nat) × Thing), xs[i]? = some d → xs[j]? = some e → i ≠ j → ∀ k, d.1 k ≠ 0 → e.1 k = 0

theorem Thing.zero {x : Thing} {w : World} {K : Nat → Nat} (h : x.P w K) {k : Nat} (hk : w.heap.size ≤ k) : K k = 0 := by
  by_cases e : K k = 0
  · exact e
  · have := x.sup h k e; omega

theorem get_set {α : Type} {l : List α} {x y : α} {i j : Nat} (h : (l.set j x)[i]? = some y) : (i ≠ j ∧ l[i]? = some y) ∨ (i = j ∧ y = x) := by
  by_cases e : j = i
  · subst e
    rw [List.getElem?_set_self'] at h
    obtain ⟨u, hu, e⟩ := Option.map_eq_some_iff.1 h
    exact .inr ⟨rfl, e.symm⟩
  · rw [List.getElem?_set_ne e] at h
    exact .inl ⟨fun e2 => e e2.symm, h⟩

theorem Herd.nil (W : World) : Herd W W [] := ⟨Below.refl _ _, (fun i d hd => by simp at hd), (fun i d hd => by simp at hd), (fun i j d e hd => by simp at hd)⟩

theorem Herd.below {W w w' : World} {xs : List ((Nat → Nat) × Thing)} (h : Herd W w xs) (hb : Below w.heap.size w w') : Herd W w' xs :=
  ⟨h.bel.trans (hb.mono h.bel.size), fun i d hd => d.2.far (h.rep i d hd) hb.size fun k hk => hb.block k (d.2.sup (h.rep i d hd) k hk), h.up, h.sep⟩

theorem Herd.drewN {W w : World} {xs : List ((Nat → Nat) × Thing)} (h : Herd W w xs) (n : Nat) : Herd W (w.drewN n) xs := h.below (below_drewN (Below.refl _ _) n)

theorem Herd.op {W w w' : World} {xs : List ((Nat → Nat) × Thing)} (h : Herd W w xs) (n : Nat) {K K' : Nat → Nat} {x x' : Thing} (hn : xs[n]? = some (K, x)) (hr : x'.P w' K') (hF : Fr K K' w w') : Herd W w' (xs.set n (K', x')) := by
  have hs := h.bel.size
  have hup := h.up n _ hn
  refine ⟨h.bel.trans (hF.below hup hs), fun i d hd => ?_, fun i d hd k hk => ?_, fun i j d e hd he hne k hk => ?_⟩
  · rcases get_set hd with ⟨hne, hd⟩ | ⟨_, rfl⟩
    · exact d.2.far (h.rep i d hd) hF.size fun k hk => hF.block k (d.2.sup (h.rep i d hd) k hk) (h.sep i n d _ hd hn hne k hk)
    · exact hr
  · rcases get_set hd with ⟨hne, hd⟩ | ⟨_, rfl⟩
    · exact h.up i d hd k hk
    · exact hF.up hup hs k hk
  · rcases get_set hd with ⟨hn1, hd⟩ | ⟨e1, rfl⟩
    · rcases get_set he with ⟨hn2, he⟩ | ⟨e2, rfl⟩
      · exact h.sep i j d e hd he hne k hk
      · exact (hF.role k (d.2.sup (h.rep i d hd) k hk)).trans (h.sep i n d _ hd hn hn1 k hk)
    · rcases get_set he with ⟨hn2, he⟩ | ⟨e2, rfl⟩
      · by_cases hl : k < w.heap.size
        · exact h.sep n j _ e hn he (fun e3 => hn2 e3.symm) k (fun e0 => hk ((hF.role k hl).trans e0))
        · exact Thing.zero (h.rep j e he) (by omega)
      · omega

theorem get_snoc {α : Type} {l : List α} {x y : α} {i : Nat} (h : (l ++ [x])[i]? = some y) : (l[i]? = some y) ∨ (i = l.length ∧ y = x) := by
  by_cases hi : i < l.length
  · rw [List.getElem?_append_left hi] at h
    exact .inl h
  · rw [List.getElem?_append_right (by omega)] at h
    have := (List.getElem?_eq_some_iff.1 h).1
    simp at this
    have e : i = l.length := by omega
    subst e
    simp at h
    exact .inr ⟨rfl, h.symm⟩

theorem Herd.push {W w w' : World} {xs : List ((Nat → Nat) × Thing)} (h : Herd W w xs) (hb : Below w.heap.size w w') {K : Nat → Nat} {x : Thing} (hr : x.P w' K) (hu : ∀ k, K k ≠ 0 → w.heap.size ≤ k) : Herd W w' (xs ++ [(K, x)]) := by
  have h' := h.below hb
  have hs := h.bel.size
  refine ⟨h'.bel, fun i d hd => ?_, fun i d hd k hk => ?_, fun i j d e hd he hne k hk => ?_⟩
  · rcases get_snoc hd with hd | ⟨_, rfl⟩
    · exact h'.rep i d hd
    · exact hr
  · rcases get_snoc hd with hd | ⟨_, rfl⟩
    · exact h.up i d hd k hk
    · have := hu k hk; omega
  · rcases get_snoc hd with hd | ⟨e1, rfl⟩
    · rcases get_snoc he with he | ⟨e2, rfl⟩
      · exact h.sep i j d e hd he hne k hk
      · by_cases e0 : K k = 0
        · exact e0
        · exact absurd (Thing.zero (h.rep i d hd) (hu k e0)) hk
    · rcases get_snoc he with he | ⟨e2, rfl⟩
      · exact Thing.zero (h.rep j e he) (hu k hk)
      · omega

/-- A list just made comes in. -/
theorem Herd.list {W w w' : World} {xs : List ((Nat → Nat) × Thing)} (h : Herd W w xs) (hb : Below w.heap.size w w') {v : Value} {l : List Int} (ho : OB w' w.heap.size v l) : ∃ K, Herd W w' (xs ++ [(K, tl v l)]) := by
  refine ⟨fun k => if v.ownBlock = some k then 1 else 0, h.push hb ⟨ho.base (Nat.zero_le _), fun k hk => by simp [hk], fun k hk => ?_⟩ fun k hk => ?_⟩
  · by_cases e : v.ownBlock = some k
    · exact (ho.lt k e).2
    · simp [e] at hk
  · by_cases e : v.ownBlock = some k
    · exact (ho.lt k e).1
    · simp [e] at hk

theorem hnewW {W w : World} {xs : List ((Nat → Nat) × Thing)} (H : Herd W w xs) : Calls Try.prog 19 #[] w fun e w' => ∃ g K, e = .returned (.pointer (some ⟨g, 0, none⟩)) ∧ Herd W w' (xs ++ [(K, tw g [])]) := by
  refine (newWriter_any w).mono ?_
  rintro e w1 ⟨g, K, rfl, hW, hn, hb⟩
  exact ⟨g, K, rfl, H.push hb hW hn⟩

theorem hput {W w : World} {xs : List ((Nat → Nat) × Thing)} (H : Herd W w xs) (i : Nat) {K : Nat → Nat} {g : Nat} {row : List Int} (hi : xs[i]? = some (K, tw g row)) (v n : Int) (hv : 0 ≤ v) (hv1 : v < 4294967296) :
    Calls Try.prog 36 #[.pointer (some ⟨g, 0, none⟩), .int .u32 v, .int .i64 n] w fun e w' => e = .returned (.int .i64 (putE row v n)) ∧ ∃ K', Herd W w' (xs.set i (K', tw g (putRow row v n))) := by
  have hw : Wp w K g row := H.rep i _ hi
  refine (wput_any hw v n hv hv1).mono ?_
  rintro e w1 ⟨rfl, K', h1, h2⟩
  exact ⟨rfl, K', H.op i hi (x' := tw g (putRow row v n)) h1 h2⟩

theorem hlen {W w : World} {xs : List ((Nat → Nat) × Thing)} (H : Herd W w xs) (i : Nat) {K : Nat → Nat} {g : Nat} {row : List Int} (hi : xs[i]? = some (K, tw g row)) :
    Calls Try.prog 22 #[.pointer (some ⟨g, 0, none⟩)] w fun e w' => e = .returned (.int .i64 row.length) ∧ Herd W w' xs := by
  have hw : Wp w K g row := H.rep i _ hi
  refine (wlen_any hw).mono ?_
  rintro e w1 ⟨rfl, n, rfl⟩
  exact ⟨rfl, H.drewN n⟩

theorem hbytes {W w : World} {xs : List ((Nat → Nat) × Thing)} (H : Herd W w xs) (i : Nat) {K : Nat → Nat} {g : Nat} {row : List Int} (hi : xs[i]? = some (K, tw g row)) :
    Calls Try.prog 24 #[.pointer (some ⟨g, 0, none⟩)] w fun e w' => ∃ a c K', e = .returned (.slice a (pack row).length c) ∧ Herd W w' (xs ++ [(K', tl (.slice a (pack row).length c) (pack row))]) := by
  have hw : Wp w K g row := H.rep i _ hi
  refine (wbytes_any hw).mono ?_
  rintro e w1 ⟨a, c, rfl, h1, h2⟩
  obtain ⟨K', h3⟩ := H.list h2 h1
  exact ⟨a, c, K', rfl, h3⟩

theorem Herd.sb {W w : World} {xs : List ((Nat → Nat) × Thing)} (H : Herd W w xs) (i : Nat) {K : Nat → Nat} {v : Value} {l : List Int} (hi : xs[i]? = some (K, tl v l)) : SB w v l := by
  have h : (tl v l).P w K := H.rep i _ hi
  exact h.1.sb

theorem Herd.bit {W w : World} {xs : List ((Nat → Nat) × Thing)} (H : Herd W w xs) (i : Nat) {K : Nat → Nat} {g : Nat} {row : List Int} (hi : xs[i]? = some (K, tw g row)) : Bit row ∧ row.length ≤ 268435456 := by
  have h : Wp w K g row := H.rep i _ hi
  exact ⟨h.bit, h.top⟩

theorem hnewR {W w : World} {xs : List ((Nat → Nat) × Thing)} (H : Herd W w xs) (u : Value) (l : List Int) (h : SB w u l) (hB : Byt l) (hl : l.length ≤ 33554432) :
    Calls Try.prog 23 #[u] w fun e w' => ∃ g K, e = .returned (.pointer (some ⟨g, 0, none⟩)) ∧ Herd W w' (xs ++ [(K, tr g (unpack l) 0)]) := by
  refine (newReader_any u l w h hB hl).mono ?_
  rintro e w1 ⟨g, K, rfl, hR, hn, hb⟩
  exact ⟨g, K, rfl, H.push hb hR hn⟩

theorem hpeek {W w : World} {xs : List ((Nat → Nat) × Thing)} (H : Herd W w xs) (i : Nat) {K : Nat → Nat} {g : Nat} {row : List Int} {p : Nat} (hi : xs[i]? = some (K, tr g row p)) (n : Int) :
    Calls Try.prog 42 #[.pointer (some ⟨g, 0, none⟩), .int .i64 n] w fun e w' => e = .returned (.tuple #[.int .u32 (peekV row p n), .int .i64 (peekK row p n)]) ∧ Herd W w' xs := by
  have hw : Rp w K g row p := H.rep i _ hi
  refine (rdpeek_any hw n).mono ?_
  rintro e w1 ⟨rfl, q, rfl⟩
  exact ⟨rfl, H.drewN q⟩

theorem hskip {W w : World} {xs : List ((Nat → Nat) × Thing)} (H : Herd W w xs) (i : Nat) {K : Nat → Nat} {g : Nat} {row : List Int} {p : Nat} (hi : xs[i]? = some (K, tr g row p)) (n : Int) :
    Calls Try.prog 44 #[.pointer (some ⟨g, 0, none⟩), .int .i64 n] w fun e w' => e = .returned (.int .i64 (skipE row p n)) ∧ Herd W w' (xs.set i (K, tr g row (skipP row p n))) := by
  have hw : Rp w K g row p := H.rep i _ hi
  refine (rdskip_any hw n).mono ?_
  rintro e w1 ⟨rfl, h1, h2⟩
  exact ⟨rfl, H.op i hi (x' := tr g row (skipP row p n)) h1 h2⟩

theorem hat {W w : World} {xs : List ((Nat → Nat) × Thing)} (H : Herd W w xs) (i : Nat) {K : Nat → Nat} {g : Nat} {row : List Int} {p : Nat} (hi : xs[i]? = some (K, tr g row p)) :
    Calls Try.prog 27 #[.pointer (some ⟨g, 0, none⟩)] w fun e w' => e = .returned (.int .i64 p) ∧ Herd W w' xs := by
  have hw : Rp w K g row p := H.rep i _ hi
  refine (rdat_any hw).mono ?_
  rintro e w1 ⟨rfl, rfl⟩
  exact ⟨rfl, H⟩

theorem hleft {W w : World} {xs : List ((Nat → Nat) × Thing)} (H : Herd W w xs) (i : Nat) {K : Nat → Nat} {g : Nat} {row : List Int} {p : Nat} (hi : xs[i]? = some (K, tr g row p)) :
    Calls Try.prog 59 #[.pointer (some ⟨g, 0, none⟩)] w fun e w' => e = .returned (.int .i64 ((row.length : Int) - p)) ∧ Herd W w' xs := by
  have hw : Rp w K g row p := H.rep i _ hi
  refine (rdleft_any hw).mono ?_
  rintro e w1 ⟨rfl, q, rfl⟩
  exact ⟨rfl, H.drewN q⟩

theorem Herd.one {W w w' : World} {xs : List ((Nat → Nat) × Thing)} (h : Herd W w xs) (hb : Below w.heap.size w w') {K : Nat → Nat} {x : Thing} (hr : x.P w' K) (hu : ∀ k, K k ≠ 0 → w.heap.size ≤ k) : Herd W w' (xs ++ [(K, x)]) := h.push hb hr hu

end Go.Proofs.Ytncniahpglgkmaa

