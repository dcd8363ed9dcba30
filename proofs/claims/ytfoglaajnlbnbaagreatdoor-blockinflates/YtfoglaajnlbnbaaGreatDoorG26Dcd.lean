import Derived.Test.YtfoglaajnlbnbaaGreatDoorG25Hlp
import Derived.Test.YtfoglaajnlbnbaaGreatDoorG00Tkw
import Derived.Test.YtfoglaajnlbnbaaGreatDoorG23Drr
import Derived.Test.YtfoglaajnlbnbaaGreatDoorG02Arr
import Derived.Test.YtfoglaajnlbnbaaGreatDoorG03Lsk
namespace Go.Proofs.YtfoglaajnlbnbaaGreatDoor
open Go.RowKit Go.Maps
set_option maxRecDepth 20000

theorem wbytes_any {w : World} {K : Nat → Nat} {g : Nat} {row : List Int} (h : Wp w K g row) :
    Calls Tryz.prog 10 #[.pointer (some ⟨g, 0, none⟩)] w fun e w' => ∃ a c, e = .returned (.slice a (pack row).length c) ∧ OB w' w.heap.size (.slice a (pack row).length c) (pack row) ∧ Below w.heap.size w w' := by
  obtain ⟨v, d, r, n, h1, h2, h3⟩ := h
  have c0 : w.cell? ⟨g, 0, none⟩ = some v := h1.cell 0
  have c1 : w.cell? ⟨g, 1, none⟩ = some (.int .u64 r) := h1.cell 1
  have c2 : w.cell? ⟨g, 2, none⟩ = some (.int .i64 n) := h1.cell 2
  obtain ⟨a, c, rfl⟩ := h1.o.shape
  have hl := h2.len
  have hn := h2.h8
  have hd : d.length ≤ 33554432 := by omega
  have hgl := h1.lt
  have HA1 := hide h1
  have HA2 := hide h2
  obtain ⟨T, HT⟩ : ∃ T, Hid (T = pack row) := ⟨_, rfl⟩
  rw [← HT.out]
  have HT2 : Hid (T = d ++ tail r n) := HT.out.trans h2.pack
  clear h1 h2 hl
  go_enter Tryz.func10, Tryz.ntmps10
  go_wp2_with (at_make; refine wpList_mk rfl _ _ rfl _ _ _ _ 0 (d.length + 1) rfl rfl rfl (by first | rfl | (simp; done)) (by omega) (by omega) ?_)
  intro w1 hg hb1
  have ho : OB w1 w.heap.size (.slice (some ⟨w.heap.size, 0, none⟩) 0 (d.length + 1)) [] := ⟨by simp, .inr ⟨w.heap.size, d.length + 1, _, rfl, Nat.le_refl _, hg, by simp, by unfold maxLen; omega, by simp, by simp⟩⟩
  have HO := hide ho
  have HB1 := hide hb1
  have HSRC : Hid (SB w1 (.slice a d.length c) d) := HA1.out.o.sb.below hb1
  have k0 : w1.cell? ⟨g, 0, none⟩ = some (.slice a d.length c) := (hb1.cell hgl).trans c0
  have hw1 : w.heap.size ≤ w1.heap.size := hb1.size
  clear ho hg hb1
  go_wp2_with (at_builtin; refine wpList_app rfl _ _ 28 rfl w.heap.size _ _ [] d rfl HO.out rfl HSRC.out.src (by simp; omega) hw1 ?_)
  intro v2 w2 ho2 hgr2
  have ho2' : OB w2 w.heap.size v2 d := ho2
  have hb2 : Below w.heap.size w w2 := HB1.out.grown hgr2.by hw1 (fun k hk => by simp [Value.ownBlock] at hk; omega)
  have k1 : w2.cell? ⟨g, 1, none⟩ = some (.int .u64 r) := (hb2.cell hgl).trans c1
  have k2 : w2.cell? ⟨g, 2, none⟩ = some (.int .i64 n) := (hb2.cell hgl).trans c2
  have hw2 := hb2.size
  have HO2 := hide ho2'
  have HB2 := hide hb2
  obtain ⟨a2, p2, rfl⟩ := ho2'.shape
  clear ho2 ho2' hgr2 hb2 HO HSRC k0
  by_cases h0 : n = 0
  · subst h0
    have HTd : Hid (T = d) := by show _ = _; rw [HT2.out]; simp [tail]
    go_wp2
    go_ret
    rw [HTd.out]
    exact ⟨_, _, rfl, HO2.out, HB2.out⟩
  · have h0' : (0 : Int) < n := by omega
    have hr := pow_lt256 hn HA2.out.r1
    have hr0 := HA2.out.r0
    have hrw : IntKind.u8.wrap r = r := by rw [IntKind.wrap_u8]; omega
    have HTd : Hid (T = d ++ [r]) := by show _ = _; rw [HT2.out]; simp [tail, h0]
    have HALC : Hid (OB (w2.alloc (.cells #[.int .u8 r] 5)) w.heap.size (.slice a2 d.length p2) d) := HO2.out.alloc _
    have HSR : Hid (Src Tryz.prog 1 28 (.slice (some ⟨w2.heap.size, 0, none⟩) 1 1) ([r] : List Int).length (([r] : List Int).map (Value.int .u8)) (w2.alloc (.cells #[.int .u8 r] 5))) := (built_sb w2 [r] (by unfold maxLen; simp)).src
    go_wp2_with (at_builtin; refine wpList_app rfl _ _ 28 rfl w.heap.size _ _ d [r] rfl HALC.out rfl HSR.out (by simp; omega) (by simp; omega) ?_)
    intro v3 w3 ho3 hgr3
    have hb3 : Below w.heap.size w w3 := (HB2.out.alloc hw2 _).grown hgr3.by (by simp; omega) (fun k hk => by have := HO2.out.lt k hk; omega)
    obtain ⟨a3, p3, rfl⟩ := ho3.shape
    have HO3 := hide ho3
    have HB3 := hide hb3
    clear ho3 hgr3 hb3
    go_wp2
    go_ret
    rw [HTd.out]
    exact ⟨_, _, rfl, HO3.out, HB3.out⟩

theorem zeroCells_byte (n : Nat) : (Builtin.zeroCells #[Value.int .u8 0] n) = (List.replicate n (Value.int .u8 0)).toArray := by
  have e : ∀ k : Nat, [Value.int IntKind.u8 0][k % 1]?.getD default = Value.int .u8 0 := fun k => by simp [Nat.mod_one]
  apply Array.ext'
  simp [Builtin.zeroCells, e, List.map_const']

set_option linter.unusedSimpArgs false in
theorem run_app_zeros (w : World) (ty : TypeId) (v : Value) (n : Nat) (xs : List Value) (hv : (v = .slice none 0 0 ∧ n = 0 ∧ xs = []) ∨ ∃ g, v = .slice (some ⟨g, 0, none⟩) n n ∧ w.heap[g]? = some (.cells xs.toArray 5 (0, 0)) ∧ xs.length = n) (m : Nat) (hm : 0 < m) (hb : n + m ≤ 140737488355328) :
    ∃ C w', (Builtin.append_ #[28, 3] ty #[v, .int .i64 m]).run Tryz.prog w = .ok (.slice (some ⟨w.heap.size, 0, none⟩) (n + m) C) w' ∧ n + m ≤ C ∧ C ≤ maxLen ∧ (∃ zs : List Value, w'.heap[w.heap.size]? = some (.cells (xs ++ zs).toArray 5 (0, 0)) ∧ xs.length + zs.length = C) ∧ Below w.heap.size w w' := by
  obtain ⟨i, hi, hz, hsize, hby⟩ := info_parts info5
  have ht := Tryz.underlying28
  have hti := Tryz.underlying3
  have hwr : IntKind.i64.wrap (m : Int) = m := by rw [IntKind.wrap_i64]; omega
  have hneg : ¬ ((m : Int) < 0) := by omega
  have hbig : ¬ (281474976710656 < (m : Int)) := by omega
  have hm0 : m ≠ 0 := by omega
  have hge := fun old => grownCap_ge w (n + m) old 5
  have hcm := fun old => grownCap_le_maxLen w (n + m) old 5 (by unfold maxLen; omega)
  have has : ∀ W : World, (asInt (Value.int .i64 m)).run Tryz.prog W = .ok (m : Int) W := fun _ => rfl
  have hcl : (Value.int .u8 0).cells = #[Value.int .u8 0] := rfl
  have grown : ∀ old : Nat, xs.length = n →
      (∃ zs : List Value, (w.drew.alloc (.cells (xs.toArray ++ (List.replicate m (Value.int .u8 0)).toArray ++ (List.replicate (grownCap w (n + m) old 5 - (n + m)) (Value.int .u8 0)).toArray) 5)).heap[w.heap.size]? = some (.cells (xs ++ zs).toArray 5 (0, 0)) ∧ xs.length + zs.length = grownCap w (n + m) old 5) ∧
      Below w.heap.size w (w.drew.alloc (.cells (xs.toArray ++ (List.replicate m (Value.int .u8 0)).toArray ++ (List.replicate (grownCap w (n + m) old 5 - (n + m)) (Value.int .u8 0)).toArray) 5)) := by
    intro old hxl
    have h1 := hge old
    refine ⟨⟨List.replicate m (Value.int .u8 0) ++ List.replicate (grownCap w (n + m) old 5 - (n + m)) (Value.int .u8 0), ?_, ?_⟩, (Below.refl _ _).drew.alloc (Nat.le_refl _) _⟩
    · refine (heap_alloc_new w.drew _).trans ?_
      simp
    · simp; omega
  rcases hv with ⟨rfl, rfl, rfl⟩ | ⟨g, rfl, hg, hxl⟩
  · have h48 : ¬ (281474976710656 < Builtin.nextslicecap m 0) := by rw [nextslicecap_zero hm]; omega
    have hgr := grown 0 rfl
    have h1 := hge 0
    simp only [Nat.zero_add, List.nil_append] at hgr h1 ⊢
    refine ⟨_, _, ?_, h1, by simpa using hcm 0, hgr.1, hgr.2⟩
    have hle : ¬ ((m : Int) ≤ 0) := by omega
    simp [Builtin.append_, run_underlying ht, run_underlying hti, has, hcl, hle, sizeOf, typeInfo, zeroValue, hi, hz, hsize, hby, hwr, hneg, hbig, hm0, h48, zeroCells_byte, Question.forced, run_firstCells_none, newRow, grownCap]
    intro h
    omega
  · have h48 : ¬ (281474976710656 < Builtin.nextslicecap (n + m) n) := by have := growslice_fits (need := n + m) (old := n) (bytes := 1) (by omega) (by omega); omega
    have holds : ∀ j u, xs[j]? = some u → w.cell? ((⟨g, 0, none⟩ : Addr).add j) = some u := fun j u hj => by
      rw [Addr.add_lit]
      unfold World.cell?
      simp only [hg, Nat.zero_add]
      simpa using hj
    have hfo := run_firstCells_some (P := Tryz.prog) w.drew 1 n ⟨g, 0, none⟩ n n xs (by omega) (by simpa using holds)
    have h63' : ¬ (9223372036854775807 < (n : Int) + (m : Int)) := by omega
    have hroom : ¬ n + m ≤ n := by omega
    have hgr := grown n hxl
    refine ⟨_, _, ?_, hge n, hcm n, hgr.1, hgr.2⟩
    simp [Builtin.append_, run_underlying ht, run_underlying hti, has, hcl, sizeOf, typeInfo, zeroValue, hi, hz, hsize, hby, hwr, hneg, hbig, hm0, hroom, h48, h63', zeroCells_byte, Question.forced, hfo, newRow, grownCap]

theorem wpList_app_zeros {w : World} {ops : Array Oper} {rest : List Oper} {o : Oper} {a : Act} {Q : Exit → Act → World → Prop} (hgd : o.guard = none) (s x : Operand)
    (ho : o.op = .call { callee := .builtin .append, args := #[s, x], argTypes := #[28, 3] }) (v : Value) (n : Nat) (xs : List Value) (hs : a.eval s = v) (hv : (v = .slice none 0 0 ∧ n = 0 ∧ xs = []) ∨ ∃ g, v = .slice (some ⟨g, 0, none⟩) n n ∧ w.heap[g]? = some (.cells xs.toArray 5 (0, 0)) ∧ xs.length = n) (m : Nat) (M : Int) (hx : a.eval x = .int .i64 M) (hM : M = m) (hm : 0 < m) (hb : n + m ≤ 140737488355328)
    (h : ∀ C w', n + m ≤ C → C ≤ maxLen → (∃ zs : List Value, w'.heap[w.heap.size]? = some (.cells (xs ++ zs).toArray 5 (0, 0)) ∧ xs.length + zs.length = C) → Below w.heap.size w w' → wpList Tryz.prog ops Q rest (a.put o.dst (.slice (some ⟨w.heap.size, 0, none⟩) (n + m) C)) w') :
    wpList Tryz.prog ops Q (o :: rest) a w := by
  refine wpList_plain hgd fun K hK => ?_
  subst hM
  obtain ⟨C, w', hr, h1, h2, h3, h4⟩ := run_app_zeros w o.type v n xs hv m hm hb
  unfold Oper.wp
  simp [execOp, ho, resolve, invoke, builtin, hs, hx, hr, Result.andThen]
  exact hK _ _ (h C w' h1 h2 h3 h4)

theorem grow_any (v : Value) (d : List Int) (n : Nat) (w : World) (h : OB w 0 v d) (hd : d.length ≤ 33554432) (hn : n ≤ 33554432) :
    Calls Tryz.prog 98 #[v, .int .i64 n] w fun e w' => ∃ a c, e = .returned (.slice a d.length c) ∧ OB w' 0 (.slice a d.length c) d ∧ Grew w w' v (.slice a d.length c) := by
  have H := hide h
  rcases h.2 with ⟨rfl, h0⟩ | ⟨g, cap, cur, rfl, k1, k2, k3, k4, k5, k6⟩
  · have e : d = [] := List.eq_nil_of_length_eq_zero h0
    subst e
    clear h
    by_cases hn0 : n = 0
    · subst hn0
      go_enter Tryz.func98, Tryz.ntmps98
      go_wp2
      go_ret
      exact ⟨none, 0, rfl, H.out, .inl ⟨rfl, rfl⟩⟩
    · have hnp : (0 : Int) < n := by omega
      go_enter Tryz.func98, Tryz.ntmps98
      go_wp2_with (at_builtin; refine wpList_app_zeros rfl _ _ rfl _ 0 [] rfl (.inl ⟨rfl, rfl, rfl⟩) n _ rfl (by first | rfl | (simp; done)) (by omega) (by omega) ?_)
      intro C w1 h1 h2 zs h3 h5 h4
      have HO : Hid (OB w1 0 (.slice (some ⟨w.heap.size, 0, none⟩) 0 C) []) := ⟨by simp, .inr ⟨w.heap.size, C, _, rfl, Nat.zero_le _, h3, Nat.zero_le _, h2, by simp at h5 ⊢; omega, by simp⟩⟩
      have HB := hide h4
      unfold maxLen at h2
      clear h3 h4 h5
      go_wp2
      go_ret
      exact ⟨_, _, rfl, HO.out, .inr (.inl ⟨rfl, HB.out⟩)⟩
  · have K2 := hide k2
    have K5 : Hid (cur.toList.length = cap) := by show _ = _; rw [Array.length_toList]; omega
    have K6 : Hid (cur.toList.take d.length = d.map (Value.int .u8)) := by show _ = _; simpa using k6
    unfold maxLen at k4
    clear k2 k5 k6 h
    by_cases hroom : d.length + n ≤ cap
    · go_enter Tryz.func98, Tryz.ntmps98
      go_wp2
      go_ret
      exact ⟨_, _, rfl, H.out, .inl ⟨rfl, rfl⟩⟩
    · obtain ⟨m, hm⟩ : ∃ m : Nat, d.length + n = cap + m := ⟨d.length + n - cap, by omega⟩
      have hm0 : 0 < m := by omega
      have hmi : (n : Int) - ((cap : Int) - d.length) = m := by omega
      have HV : Hid (∃ g', (Value.slice (some ⟨g, 0, none⟩) cap cap) = .slice (some ⟨g', 0, none⟩) cap cap ∧ w.heap[g']? = some (.cells cur.toList.toArray 5 (0, 0)) ∧ cur.toList.length = cap) := ⟨g, rfl, by simpa using K2.out, K5.out⟩
      have HMI := hide hmi
      clear hmi
      go_enter Tryz.func98, Tryz.ntmps98
      go_wp2_with (at_builtin; refine wpList_app_zeros rfl _ _ rfl _ cap cur.toList rfl (.inr HV.out) m _ rfl HMI.out hm0 (by omega) ?_)
      intro C w1 h1 h2 zs h3 h5 h4
      have HO : Hid (OB w1 0 (.slice (some ⟨w.heap.size, 0, none⟩) d.length C) d) := by
        have hcl := K5.out
        refine ⟨by simp, .inr ⟨w.heap.size, C, _, rfl, Nat.zero_le _, h3, by omega, h2, by simp at h5 ⊢; omega, ?_⟩⟩
        rw [Nat.mul_one, List.toList_toArray, List.take_append_of_le_length (by omega)]
        exact K6.out
      have HB := hide h4
      unfold maxLen at h2
      have hC : (d.length : Int) ≤ C := by omega
      clear h3 h4 h5
      go_wp2
      go_ret
      exact ⟨_, _, rfl, HO.out, .inr (.inl ⟨rfl, HB.out⟩)⟩
end Go.Proofs.YtfoglaajnlbnbaaGreatDoor

namespace Go.Proofs.YtfoglaajnlbnbaaGreatDoor
open Go.RowKit Go.Maps
set_option maxRecDepth 20000

structure Thing where
  P : World → (Nat → Nat) → Prop
  far : ∀ {w w' : World} {K : Nat → Nat}, P w K → w.heap.size ≤ w'.heap.size → (∀ k, K k ≠ 0 → w'.heap[k]? = w.heap[k]?) → P w' K
  sup : ∀ {w : World} {K : Nat → Nat}, P w K → ∀ k, K k ≠ 0 → k < w.heap.size

def tw (g : Nat) (row : List Int) : Thing := ⟨fun w K => Wp w K g row, fun h a b => h.far a b, fun h => h.sup⟩

def tr (g : Nat) (row : List Int) (p : Nat) : Thing := ⟨fun w K => Rp w K g row p, fun h a b => h.far a b, fun h => h.sup⟩

def tl (v : Value) (l : List Int) : Thing :=
  ⟨fun w K => OB w 0 v l ∧ (∀ k, v.ownBlock = some k → K k ≠ 0) ∧ ∀ k, K k ≠ 0 → k < w.heap.size,
   fun h a b => ⟨h.1.move fun k hk => b k (h.2.1 k hk), h.2.1, fun k hk => Nat.lt_of_lt_of_le (h.2.2 k hk) a⟩, fun h => h.2.2⟩

def tb (g : Nat) (o : Obj) : Thing :=
  ⟨fun w K => w.heap[g]? = some o ∧ K g ≠ 0 ∧ ∀ k, K k ≠ 0 → k < w.heap.size,
   fun h a b => ⟨(b g h.2.1).trans h.1, h.2.1, fun k hk => Nat.lt_of_lt_of_le (h.2.2 k hk) a⟩, fun h => h.2.2⟩

structure Herd (W w : World) (xs : List ((Nat → Nat) × Thing)) : Prop where
  bel : Below W.heap.size W w
  rep : ∀ (i : Nat) (d : (Nat → Nat) × Thing), xs[i]? = some d → d.2.P w d.1
  up : ∀ (i : Nat) (d : (Nat → Nat) × Thing), xs[i]? = some d → ∀ k, d.1 k ≠ 0 → W.heap.size ≤ k
  sep : ∀ (i j : Nat) (d e : (Nat → Nat) × Thing), xs[i]? = some d → xs[j]? = some e → i ≠ j → ∀ k, d.1 k ≠ 0 → e.1 k = 0

theorem Thing.zero {x : Thing} {w : World} {K : Nat → Nat} (h : x.P w K) {k : Nat} (hk : w.heap.size ≤ k) : K k = 0 := by
  by_cases e : K k = 0
  · exact e
  · have := x.sup h k e; omega

theorem get_set {α : Type} {l : List α} {x y : α} {i j : Nat} (h : (l.set j x)[i]? = some y) : (i ≠ j ∧ l[i]? = some y) ∨ (i = j ∧ y = x) := by
  by_cases e : j = i
  · subst e
    rw [List.getElem?_set_self'] at h
    obtain ⟨u, hu, e⟩ := Option.map_eq_some_iff.1 h
    exact .inr ⟨rfl, e.symm⟩
  · rw [List.getElem?_set_ne e] at h
    exact .inl ⟨fun e2 => e e2.symm, h⟩

theorem Herd.nil (W : World) : Herd W W [] := ⟨Below.refl _ _, (fun i d hd => by simp at hd), (fun i d hd => by simp at hd), (fun i j d e hd => by simp at hd)⟩

theorem Herd.below {W w w' : World} {xs : List ((Nat → Nat) × Thing)} (h : Herd W w xs) (hb : Below w.heap.size w w') : Herd W w' xs :=
  ⟨h.bel.trans (hb.mono h.bel.size), fun i d hd => d.2.far (h.rep i d hd) hb.size fun k hk => hb.block k (d.2.sup (h.rep i d hd) k hk), h.up, h.sep⟩

theorem Herd.drewN {W w : World} {xs : List ((Nat → Nat) × Thing)} (h : Herd W w xs) (n : Nat) : Herd W (w.drewN n) xs := h.below (below_drewN (Below.refl _ _) n)

theorem Herd.op {W w w' : World} {xs : List ((Nat → Nat) × Thing)} (h : Herd W w xs) (n : Nat) {K K' : Nat → Nat} {x x' : Thing} (hn : xs[n]? = some (K, x)) (hr : x'.P w' K') (hF : Fr K K' w w') : Herd W w' (xs.set n (K', x')) := by
  have hs := h.bel.size
  have hup := h.up n _ hn
  refine ⟨h.bel.trans (hF.below hup hs), fun i d hd => ?_, fun i d hd k hk => ?_, fun i j d e hd he hne k hk => ?_⟩
  · rcases get_set hd with ⟨hne, hd⟩ | ⟨_, rfl⟩
    · exact d.2.far (h.rep i d hd) hF.size fun k hk => hF.block k (d.2.sup (h.rep i d hd) k hk) (h.sep i n d _ hd hn hne k hk)
    · exact hr
  · rcases get_set hd with ⟨hne, hd⟩ | ⟨_, rfl⟩
    · exact h.up i d hd k hk
    · exact hF.up hup hs k hk
  · rcases get_set hd with ⟨hn1, hd⟩ | ⟨e1, rfl⟩
    · rcases get_set he with ⟨hn2, he⟩ | ⟨e2, rfl⟩
      · exact h.sep i j d e hd he hne k hk
      · exact (hF.role k (d.2.sup (h.rep i d hd) k hk)).trans (h.sep i n d _ hd hn hn1 k hk)
    · rcases get_set he with ⟨hn2, he⟩ | ⟨e2, rfl⟩
      · by_cases hl : k < w.heap.size
        · exact h.sep n j _ e hn he (fun e3 => hn2 e3.symm) k (fun e0 => hk ((hF.role k hl).trans e0))
        · exact Thing.zero (h.rep j e he) (by omega)
      · omega

theorem get_snoc {α : Type} {l : List α} {x y : α} {i : Nat} (h : (l ++ [x])[i]? = some y) : (l[i]? = some y) ∨ (i = l.length ∧ y = x) := by
  by_cases hi : i < l.length
  · rw [List.getElem?_append_left hi] at h
    exact .inl h
  · rw [List.getElem?_append_right (by omega)] at h
    have := (List.getElem?_eq_some_iff.1 h).1
    simp at this
    have e : i = l.length := by omega
    subst e
    simp at h
    exact .inr ⟨rfl, h.symm⟩

theorem Herd.push {W w w' : World} {xs : List ((Nat → Nat) × Thing)} (h : Herd W w xs) (hb : Below w.heap.size w w') {K : Nat → Nat} {x : Thing} (hr : x.P w' K) (hu : ∀ k, K k ≠ 0 → w.heap.size ≤ k) : Herd W w' (xs ++ [(K, x)]) := by
  have h' := h.below hb
  have hs := h.bel.size
  refine ⟨h'.bel, fun i d hd => ?_, fun i d hd k hk => ?_, fun i j d e hd he hne k hk => ?_⟩
  · rcases get_snoc hd with hd | ⟨_, rfl⟩
    · exact h'.rep i d hd
    · exact hr
  · rcases get_snoc hd with hd | ⟨_, rfl⟩
    · exact h.up i d hd k hk
    · have := hu k hk; omega
  · rcases get_snoc hd with hd | ⟨e1, rfl⟩
    · rcases get_snoc he with he | ⟨e2, rfl⟩
      · exact h.sep i j d e hd he hne k hk
      · by_cases e0 : K k = 0
        · exact e0
        · exact absurd (Thing.zero (h.rep i d hd) (hu k e0)) hk
    · rcases get_snoc he with he | ⟨e2, rfl⟩
      · exact Thing.zero (h.rep j e he) (hu k hk)
      · omega

theorem Herd.list {W w w' : World} {xs : List ((Nat → Nat) × Thing)} (h : Herd W w xs) (hb : Below w.heap.size w w') {v : Value} {l : List Int} (ho : OB w' w.heap.size v l) : ∃ K, Herd W w' (xs ++ [(K, tl v l)]) := by
  refine ⟨fun k => if v.ownBlock = some k then 1 else 0, h.push hb ⟨ho.base (Nat.zero_le _), fun k hk => by simp [hk], fun k hk => ?_⟩ fun k hk => ?_⟩
  · by_cases e : v.ownBlock = some k
    · exact (ho.lt k e).2
    · simp [e] at hk
  · by_cases e : v.ownBlock = some k
    · exact (ho.lt k e).1
    · simp [e] at hk

theorem hnewW {W w : World} {xs : List ((Nat → Nat) × Thing)} (H : Herd W w xs) : Calls Tryz.prog 8 #[] w fun e w' => ∃ g K, e = .returned (.pointer (some ⟨g, 0, none⟩)) ∧ Herd W w' (xs ++ [(K, tw g [])]) := by
  refine (newWriter_any w).mono ?_
  rintro e w1 ⟨g, K, rfl, hW, hn, hb⟩
  exact ⟨g, K, rfl, H.push hb hW hn⟩

theorem hput {W w : World} {xs : List ((Nat → Nat) × Thing)} (H : Herd W w xs) (i : Nat) {K : Nat → Nat} {g : Nat} {row : List Int} (hi : xs[i]? = some (K, tw g row)) (v n : Int) (hv : 0 ≤ v) (hv1 : v < 4294967296) :
    Calls Tryz.prog 17 #[.pointer (some ⟨g, 0, none⟩), .int .u32 v, .int .i64 n] w fun e w' => e = .returned (.int .i64 (putE row v n)) ∧ ∃ K', Herd W w' (xs.set i (K', tw g (putRow row v n))) := by
  have hw : Wp w K g row := H.rep i _ hi
  refine (wput_any hw v n hv hv1).mono ?_
  rintro e w1 ⟨rfl, K', h1, h2⟩
  exact ⟨rfl, K', H.op i hi (x' := tw g (putRow row v n)) h1 h2⟩

theorem hlen {W w : World} {xs : List ((Nat → Nat) × Thing)} (H : Herd W w xs) (i : Nat) {K : Nat → Nat} {g : Nat} {row : List Int} (hi : xs[i]? = some (K, tw g row)) :
    Calls Tryz.prog 12 #[.pointer (some ⟨g, 0, none⟩)] w fun e w' => e = .returned (.int .i64 row.length) ∧ Herd W w' xs := by
  have hw : Wp w K g row := H.rep i _ hi
  refine (wlen_any hw).mono ?_
  rintro e w1 ⟨rfl, n, rfl⟩
  exact ⟨rfl, H.drewN n⟩

theorem hbytes {W w : World} {xs : List ((Nat → Nat) × Thing)} (H : Herd W w xs) (i : Nat) {K : Nat → Nat} {g : Nat} {row : List Int} (hi : xs[i]? = some (K, tw g row)) :
    Calls Tryz.prog 10 #[.pointer (some ⟨g, 0, none⟩)] w fun e w' => ∃ a c K', e = .returned (.slice a (pack row).length c) ∧ Herd W w' (xs ++ [(K', tl (.slice a (pack row).length c) (pack row))]) := by
  have hw : Wp w K g row := H.rep i _ hi
  refine (wbytes_any hw).mono ?_
  rintro e w1 ⟨a, c, rfl, h1, h2⟩
  obtain ⟨K', h3⟩ := H.list h2 h1
  exact ⟨a, c, K', rfl, h3⟩

theorem Herd.sb {W w : World} {xs : List ((Nat → Nat) × Thing)} (H : Herd W w xs) (i : Nat) {K : Nat → Nat} {v : Value} {l : List Int} (hi : xs[i]? = some (K, tl v l)) : SB w v l := by
  have h : (tl v l).P w K := H.rep i _ hi
  exact h.1.sb

theorem Herd.bit {W w : World} {xs : List ((Nat → Nat) × Thing)} (H : Herd W w xs) (i : Nat) {K : Nat → Nat} {g : Nat} {row : List Int} (hi : xs[i]? = some (K, tw g row)) : Bit row ∧ row.length ≤ 268435456 := by
  have h : Wp w K g row := H.rep i _ hi
  exact ⟨h.bit, h.top⟩

theorem hnewR {W w : World} {xs : List ((Nat → Nat) × Thing)} (H : Herd W w xs) (u : Value) (l : List Int) (h : SB w u l) (hB : Byt l) (hl : l.length ≤ 33554432) :
    Calls Tryz.prog 68 #[u] w fun e w' => ∃ g K, e = .returned (.pointer (some ⟨g, 0, none⟩)) ∧ Herd W w' (xs ++ [(K, tr g (unpack l) 0)]) := by
  refine (newReader_any u l w h hB hl).mono ?_
  rintro e w1 ⟨g, K, rfl, hR, hn, hb⟩
  exact ⟨g, K, rfl, H.push hb hR hn⟩

theorem htake {W w : World} {xs : List ((Nat → Nat) × Thing)} (H : Herd W w xs) (i : Nat) {K : Nat → Nat} {g : Nat} {row : List Int} {p : Nat} (hi : xs[i]? = some (K, tr g row p)) (n : Int) :
    Calls Tryz.prog 100 #[.pointer (some ⟨g, 0, none⟩), .int .i64 n] w fun e w' => e = .returned (.tuple #[.int .u32 (takeV row p n), .int .i64 (takeE row p n)]) ∧ Herd W w' (xs.set i (K, tr g row (takeP row p n))) := by
  have hw : Rp w K g row p := H.rep i _ hi
  refine (rdtake_any hw n).mono ?_
  rintro e w1 ⟨rfl, h1, h2⟩
  exact ⟨rfl, H.op i hi (x' := tr g row (takeP row p n)) h1 h2⟩

theorem hskip {W w : World} {xs : List ((Nat → Nat) × Thing)} (H : Herd W w xs) (i : Nat) {K : Nat → Nat} {g : Nat} {row : List Int} {p : Nat} (hi : xs[i]? = some (K, tr g row p)) (n : Int) :
    Calls Tryz.prog 174 #[.pointer (some ⟨g, 0, none⟩), .int .i64 n] w fun e w' => e = .returned (.int .i64 (skipE row p n)) ∧ Herd W w' (xs.set i (K, tr g row (skipP row p n))) := by
  have hw : Rp w K g row p := H.rep i _ hi
  refine (rdskip_any hw n).mono ?_
  rintro e w1 ⟨rfl, h1, h2⟩
  exact ⟨rfl, H.op i hi (x' := tr g row (skipP row p n)) h1 h2⟩

theorem hralign {W w : World} {xs : List ((Nat → Nat) × Thing)} (H : Herd W w xs) (i : Nat) {K : Nat → Nat} {g : Nat} {row : List Int} {p : Nat} (hi : xs[i]? = some (K, tr g row p)) :
    Calls Tryz.prog 101 #[.pointer (some ⟨g, 0, none⟩)] w fun e w' => e = .returned (.tuple #[]) ∧ Herd W w' (xs.set i (K, tr g row (algn p))) := by
  have hw : Rp w K g row p := H.rep i _ hi
  refine (rdalign_any hw).mono ?_
  rintro e w1 ⟨rfl, h1, h2⟩
  exact ⟨rfl, H.op i hi (x' := tr g row (algn p)) h1 h2⟩

theorem hrraw {W w : World} {xs : List ((Nat → Nat) × Thing)} (H : Herd W w xs) (i : Nat) {K : Nat → Nat} {g : Nat} {row : List Int} {p : Nat} (hi : xs[i]? = some (K, tr g row p)) (n : Int) :
    Calls Tryz.prog 103 #[.pointer (some ⟨g, 0, none⟩), .int .i64 n] w fun e w' => ∃ a c K', e = .returned (.tuple #[.slice a (rrawL row p n).length c, .int .i64 (rrawE row p n)]) ∧ Herd W w' (xs.set i (K, tr g row (rrawP row p n)) ++ [(K', tl (.slice a (rrawL row p n).length c) (rrawL row p n))]) := by
  have hw : Rp w K g row p := H.rep i _ hi
  refine (rdraw_any hw n).mono ?_
  rintro e w1 ⟨a, c, rfl, h0, h1, h2⟩
  have H1 := H.op i hi (x' := tr g row (rrawP row p n)) h1 h2
  refine ⟨a, c, fun k => if (Value.slice a (rrawL row p n).length c).ownBlock = some k then 1 else 0, rfl, H1.bel, fun j d hd => ?_, fun j d hd k hk => ?_, fun j j' d e hd he hne k hk => ?_⟩
  · rcases get_snoc hd with hd | ⟨_, rfl⟩
    · exact H1.rep j d hd
    · refine ⟨h0.base (Nat.zero_le _), fun k hk => by simp [hk], fun k hk => ?_⟩
      by_cases e : (Value.slice a (rrawL row p n).length c).ownBlock = some k
      · exact (h0.lt k e).2
      · simp [e] at hk
  · rcases get_snoc hd with hd | ⟨_, rfl⟩
    · exact H1.up j d hd k hk
    · by_cases e : (Value.slice a (rrawL row p n).length c).ownBlock = some k
      · have := (h0.lt k e).1; have := H.bel.size; omega
      · simp [e] at hk
  · have old : ∀ j' (e' : (Nat → Nat) × Thing), (xs.set i (K, tr g row (rrawP row p n)))[j']? = some e' → ∀ k, e'.1 k ≠ 0 → k < w.heap.size := fun j' e' he' k hk => by
      rcases get_set he' with ⟨_, he2⟩ | ⟨_, rfl⟩
      · exact e'.2.sup (H.rep j' e' he2) k hk
      · exact hw.sup k hk
    rcases get_snoc hd with hd | ⟨e1, rfl⟩
    · rcases get_snoc he with he | ⟨e2, rfl⟩
      · exact H1.sep j j' d e hd he hne k hk
      · by_cases e0 : (Value.slice a (rrawL row p n).length c).ownBlock = some k
        · have := (h0.lt k e0).1; have := old j d hd k hk; omega
        · simp [e0]
    · rcases get_snoc he with he | ⟨e2, rfl⟩
      · by_cases e0 : (Value.slice a (rrawL row p n).length c).ownBlock = some k
        · by_cases ez : e.1 k = 0
          · exact ez
          · have := (h0.lt k e0).1; have := old j' e he k ez; omega
        · simp [e0] at hk
      · omega
end Go.Proofs.YtfoglaajnlbnbaaGreatDoor

namespace Go.Proofs.YtfoglaajnlbnbaaGreatDoor
open Go.RowKit Go.Maps
set_option maxRecDepth 20000

def td (g : Nat) (l : List Int) : Thing := ⟨fun w K => Dp w K g l, fun h a b => h.far a b, fun h => h.sup⟩

def rowAt (row : List Int) (p : Nat) : Nat := rowN (ahead row p 15)

noncomputable def nxE (l row : List Int) (p : Nat) : Int := if fdB l (rowAt row p) = true then (if p + ln l (fdS l (rowAt row p)) ≤ row.length then 0 else 54) else 55
noncomputable def nxS (l row : List Int) (p : Nat) : Nat := if nxE l row p = 0 then fdS l (rowAt row p) else 0
noncomputable def nxP (l row : List Int) (p : Nat) : Nat := if nxE l row p = 0 then p + ln l (fdS l (rowAt row p)) else p

theorem fd_has {l : List Int} (hl : Lens l) {R : Nat} (h : fdB l R = true) : Hit l R (fdS l R) := by
  have he : ∃ s, Hit l R s := by
    unfold fdB at h
    exact @of_decide_eq_true _ (Classical.propDecidable _) h
  obtain ⟨s, hs⟩ := he
  rw [(fd_hit hl hs).1]
  exact hs

set_option maxHeartbeats 1000000 in
theorem hnext {W w : World} {xs : List ((Nat → Nat) × Thing)} (H : Herd W w xs) (i j : Nat) {K Kr : Nat → Nat} {g r : Nat} {l row : List Int} {p : Nat} (hi : xs[i]? = some (K, td g l)) (hj : xs[j]? = some (Kr, tr r row p)) :
    Calls Tryz.prog 151 #[.pointer (some ⟨g, 0, none⟩), .pointer (some ⟨r, 0, none⟩)] w fun e w' => e = .returned (.tuple #[.int .i64 (nxS l row p), .int .i64 (nxE l row p)]) ∧ Herd W w' (xs.set j (Kr, tr r row (nxP l row p))) := by
  have hD : Dp w K g l := H.rep i _ hi
  have hR : Rp w Kr r row p := H.rep j _ hj
  have hl := (dcE_zero hD.ok).1
  have HL := hide hl
  have hle := hR.le
  have HH := hide H
  have HI := hide hi
  have HJ := hide hj
  have hab := ahead_bound hR.bit p 15
  have HE0 : Hid (nxE l row p = if fdB l (rowAt row p) = true then (if p + ln l (fdS l (rowAt row p)) ≤ row.length then 0 else 54) else 55) := rfl
  have hpk : peekV row p 15 = ahead row p 15 ∧ peekK row p 15 = min 15 ((row.length : Int) - p) := ⟨if_pos ⟨by omega, by omega⟩, if_pos ⟨by omega, by omega⟩⟩
  have HPK := hide hpk
  obtain ⟨v, HV⟩ : ∃ v, Hid (v = ahead row p 15) := ⟨_, rfl⟩
  have HRV : Hid (rowN v = rowAt row p) := by show _ = _; rw [HV.out]; rfl
  rw [← HV.out] at hab HPK
  obtain ⟨vl, vw, vs, sy, a1, a2, _⟩ := hD.d
  have c0 : ∀ q, (w.drewN q).cell? ⟨g, 0, none⟩ = some vl := fun q => by
    have : (w.drewN q).heap[g]? = some (.cells (dv vl vw vs (shf l) (en l)) 239 (0, 0)) := a1
    rw [cell_of_row _ _ _ _ _ _ this, dv_0]
  have HVL := hide a2
  clear hD hR hl H hi hj a1 a2 hpk
  have HLEAVE : Hid (∀ q, Herd W (w.drewN q) (xs.set j (Kr, tr r row p))) := fun q => by
    have e : xs.set j (Kr, tr r row p) = xs := by
      apply List.ext_getElem?
      intro n
      rw [List.getElem?_set]
      by_cases c : j = n
      · subst c
        rw [if_pos rfl, HJ.out, if_pos (List.getElem?_eq_some_iff.1 HJ.out).1]
      · rw [if_neg c]
    rw [e]
    exact HH.out.drewN q
  obtain ⟨R, HR⟩ : ∃ R, Hid (R = rowAt row p) := ⟨_, rfl⟩
  rw [← HR.out] at HRV HE0
  by_cases hb : fdB l R = true
  case neg =>
    have hb' : fdB l R = false := by simpa using hb
    have HE : Hid (nxE l row p = 55) := by show _ = _; rw [HE0.out, if_neg hb]
    have HSP : Hid (nxS l row p = 0 ∧ nxP l row p = p) := by
      have := HE.out
      exact ⟨if_neg (by rw [this]; decide), if_neg (by rw [this]; decide)⟩
    rw [HE.out, HSP.out.1, HSP.out.2]
    clear hb
    obtain ⟨q1, HQ1⟩ : ∃ q, Hid (q = min (15 : Int) ((row.length : Int) - p)) := ⟨_, rfl⟩
    rw [← HQ1.out] at HPK
    go_enter Tryz.func151, Tryz.ntmps151
    go_wp2_with fail
    refine (rdpeek_any (HH.out.rep j _ HJ.out : Rp w Kr r row p) 15).mono ?_
    rintro e w1 ⟨rfl, n1, rfl⟩
    rw [HPK.out.1, HPK.out.2]
    go_wp2_with fail
    refine (find_any ((HH.out.drewN n1).rep i _ HI.out : Dp (w.drewN n1) K g l) v hab.1 (by have := hab.2; omega)).mono ?_
    rintro e w2 ⟨rfl, n2, rfl⟩
    rw [HRV.out, hb']
    have HX := hide (HLEAVE.out (n1 + n2))
    rw [World.drewN_drewN]
    go_wp2
    go_ret2
    exact ⟨rfl, HX.out⟩
  have hit := fd_has HL.out hb
  obtain ⟨s, HSS⟩ : ∃ s, Hid (s = fdS l R) := ⟨_, rfl⟩
  rw [← HSS.out] at hit
  have hs : s < l.length := hit.1.1
  have hn := HL.out.ln s
  obtain ⟨n, HN⟩ : ∃ n, Hid (n = ln l s) := ⟨_, rfl⟩
  rw [← HN.out] at hn
  obtain ⟨bl, cl, hvl, _, _, hc1, hc2⟩ := HVL.out.form (by omega)
  have cl0 : ∀ q, (w.drewN q).cell? ⟨bl, s, none⟩ = some (.int .i64 n) := fun q => by
    have := HVL.out.get (b := bl) (by rw [hvl]; rfl) hs
    rw [hn.1] at this
    exact this
  subst hvl
  have h288 := HL.out.1
  have hn15 := hn.2
  have HNE : Hid (fdB l R = true) := hb
  clear hit hn hb
  rw [← HSS.out, ← HN.out] at HE0
  by_cases hfit : p + n ≤ row.length
  · have HE : Hid (nxE l row p = 0) := by show _ = _; rw [HE0.out, if_pos HNE.out, if_pos hfit]
    have HSP : Hid (nxS l row p = s ∧ nxP l row p = p + n) := by
      have := HE.out
      refine ⟨?_, ?_⟩
      · unfold nxS; rw [if_pos this, ← HR.out, ← HSS.out]
      · unfold nxP; rw [if_pos this, ← HR.out, ← HSS.out, ← HN.out]
    have hsk : skipE row p n = 0 ∧ skipP row p n = p + n := ⟨by unfold skipE; rw [if_neg (by omega), if_pos (by omega)], by unfold skipP; rw [if_neg (by omega), if_pos (by omega)]; rfl⟩
    have HSK := hide hsk
    rw [HE.out, HSP.out.1, HSP.out.2]
    obtain ⟨q1, HQ1⟩ : ∃ q, Hid (q = min (15 : Int) ((row.length : Int) - p)) := ⟨_, rfl⟩
    rw [← HQ1.out] at HPK
    have hq1 : ¬ q1 < (n : Int) := by rw [HQ1.out]; omega
    clear hsk hfit
    go_enter Tryz.func151, Tryz.ntmps151
    go_wp2_with fail
    refine (rdpeek_any (HH.out.rep j _ HJ.out : Rp w Kr r row p) 15).mono ?_
    rintro e w1 ⟨rfl, n1, rfl⟩
    rw [HPK.out.1, HPK.out.2]
    go_wp2_with fail
    refine (find_any ((HH.out.drewN n1).rep i _ HI.out : Dp (w.drewN n1) K g l) v hab.1 (by have := hab.2; omega)).mono ?_
    rintro e w2 ⟨rfl, n2, rfl⟩
    rw [HRV.out, HNE.out, ← HSS.out, World.drewN_drewN]
    have d0 := c0 (n1 + n2)
    have d1 := cl0 (n1 + n2)
    have hs' : (s : Int) < l.length := by omega
    clear c0 cl0
    go_wp2_with fail
    refine (hskip (HH.out.drewN (n1 + n2)) j HJ.out n).mono ?_
    rintro e w3 ⟨rfl, h3⟩
    rw [HSK.out.1]
    have HX : Hid (Herd W w3 (xs.set j (Kr, tr r row (p + n)))) := by rw [← HSK.out.2]; exact h3
    clear h3
    go_wp2
    go_ret2
    exact ⟨rfl, HX.out⟩
  · have HE : Hid (nxE l row p = 54) := by show _ = _; rw [HE0.out, if_pos HNE.out, if_neg hfit]
    have HSP : Hid (nxS l row p = 0 ∧ nxP l row p = p) := by
      have := HE.out
      exact ⟨if_neg (by rw [this]; decide), if_neg (by rw [this]; decide)⟩
    rw [HE.out, HSP.out.1, HSP.out.2]
    obtain ⟨q1, HQ1⟩ : ∃ q, Hid (q = min (15 : Int) ((row.length : Int) - p)) := ⟨_, rfl⟩
    rw [← HQ1.out] at HPK
    have hq1 : q1 < (n : Int) := by rw [HQ1.out]; omega
    clear hfit
    go_enter Tryz.func151, Tryz.ntmps151
    go_wp2_with fail
    refine (rdpeek_any (HH.out.rep j _ HJ.out : Rp w Kr r row p) 15).mono ?_
    rintro e w1 ⟨rfl, n1, rfl⟩
    rw [HPK.out.1, HPK.out.2]
    go_wp2_with fail
    refine (find_any ((HH.out.drewN n1).rep i _ HI.out : Dp (w.drewN n1) K g l) v hab.1 (by have := hab.2; omega)).mono ?_
    rintro e w2 ⟨rfl, n2, rfl⟩
    rw [HRV.out, HNE.out, ← HSS.out, World.drewN_drewN]
    have d0 := c0 (n1 + n2)
    have d1 := cl0 (n1 + n2)
    have hs' : (s : Int) < l.length := by omega
    have HX := hide (HLEAVE.out (n1 + n2))
    clear c0 cl0
    go_wp2
    go_ret2
    exact ⟨rfl, HX.out⟩

theorem hdecode {W w : World} {xs : List ((Nat → Nat) × Thing)} (H : Herd W w xs) (v : Value) (l : List Int) (h : SI w v l) :
    Calls Tryz.prog 154 #[v] w fun e w' => (dcE l ≠ 0 ∧ e = .returned (.tuple #[.pointer none, .int .i64 (dcE l)]) ∧ Herd W w' xs) ∨ (dcE l = 0 ∧ ∃ g K, e = .returned (.tuple #[.pointer (some ⟨g, 0, none⟩), .int .i64 0]) ∧ Herd W w' (xs ++ [(K, td g l)])) := by
  refine (newDecoder_any v l w h).mono ?_
  rintro e w1 ⟨hb, h | ⟨h0, g, K, rfl, hd, hk⟩⟩
  · exact .inl ⟨h.1, h.2, H.below hb⟩
  · exact .inr ⟨h0, g, K, rfl, H.push hb hd hk⟩
end Go.Proofs.YtfoglaajnlbnbaaGreatDoor

namespace Go.Proofs.YtfoglaajnlbnbaaGreatDoor
open Go.RowKit Go.Maps
set_option maxRecDepth 20000

theorem us_le {l : List Int} (h : bkE l = 0) : us l 16 ≤ 32768 := by
  obtain ⟨hl, h2, h3⟩ := bkE_zero h
  rw [us_sum hl.2]
  unfold shp at h2 h3
  by_cases c0 : tsum l = 0
  · have := (tsum_zero hl).1 c0
    have hz : ∀ n, n ≤ 16 → us l n = 0 := by
      intro n
      induction n with
      | zero => intro _; rfl
      | succ n ih => intro hn; simp only [us]; rw [ih (by omega), this n (by omega)]; simp
    rw [← us_sum hl.2, hz 16 (by omega)]; omega
  · rw [if_neg c0] at h2 h3
    by_cases c1 : tsum l = 1 ∧ usum l = 16384
    · rw [c1.2]; omega
    · rw [if_neg c1] at h2 h3
      by_cases c2 : 32768 < usum l
      · rw [if_pos c2] at h3; exact absurd rfl h3
      · omega

structure Ep (w : World) (K : Nat → Nat) (g : Nat) (l : List Int) : Prop where
  d : ∃ vl vw, w.heap[g]? = some (.cells #[vl, vw] 139 (0, 0)) ∧ OI w 0 vl l ∧ OI w 0 vw (wds l) ∧ (∀ k, vl.ownBlock = some k → K k ≠ 0) ∧ (∀ k, vw.ownBlock = some k → K k ≠ 0)
  k : K g ≠ 0
  sup : ∀ k, K k ≠ 0 → k < w.heap.size
  ok : bkE l = 0

theorem Ep.far {w w' : World} {K : Nat → Nat} {g : Nat} {l : List Int} (h : Ep w K g l) (hsz : w.heap.size ≤ w'.heap.size) (hb : ∀ k, K k ≠ 0 → w'.heap[k]? = w.heap[k]?) : Ep w' K g l := by
  obtain ⟨vl, vw, a1, a2, a3, a4, a5⟩ := h.d
  exact ⟨⟨vl, vw, (hb g h.k).trans a1, a2.move fun k hk => hb k (a4 k hk), a3.move fun k hk => hb k (a5 k hk), a4, a5⟩, h.k, fun k hk => Nat.lt_of_lt_of_le (h.sup k hk) hsz, h.ok⟩

def te (g : Nat) (l : List Int) : Thing := ⟨fun w K => Ep w K g l, fun h a b => h.far a b, fun h => h.sup⟩

def MadeE (w : World) (l : List Int) (e : Ending) (w' : World) : Prop := Below w.heap.size w w' ∧ ((bkE l ≠ 0 ∧ e = .returned (.tuple #[.pointer none, .int .i64 (bkE l)])) ∨ (bkE l = 0 ∧ ∃ g K, e = .returned (.tuple #[.pointer (some ⟨g, 0, none⟩), .int .i64 0]) ∧ Ep w' K g l ∧ ∀ k, K k ≠ 0 → w.heap.size ≤ k))

theorem wpList_loadB2 {ops : Array Oper} {rest : List Oper} {a : Act} {w : World} {Q : Exit → Act → World → Prop} {dst : Option Tmp} {x : Operand} {ty : TypeId} {pos : String} {after : Array Edge} (g : Nat) (vl vw : Value)
    (hx : a.eval x = .pointer (some ⟨g, 0, none⟩)) (hg : w.heap[g]? = some (.cells #[vl, vw] 135 (0, 0))) (h : wpList Tryz.prog ops Q rest (a.put dst (.agg #[vl, vw])) w) :
    wpList Tryz.prog ops Q ({ dst := dst, op := .load 135 x, type := ty, pos := pos, after := after, guard := none } :: rest) a w :=
  wpList_load_row rfl 135 x rfl g hx 135 #[vl, vw] (0, 0) _ hg Tryz.underlying135 rfl (by kernel_rfl) h

theorem newEncoder_any (v : Value) (l : List Int) (w : World) (h : SI w v l) :
    Calls Tryz.prog 55 #[v] w fun e w' => MadeE w l e w' := by
  have HS := hide h
  obtain ⟨ao, cap, rfl, hlc, hcm⟩ := h.open
  clear h
  go_enter Tryz.func55, Tryz.ntmps55
  go_wp2_with fail
  refine (newBook_any _ l _ HS.out).mono ?_
  rintro e w1 ⟨vl, vw, rfl, hbk, hb1⟩
  have HB1 := hide hb1
  have HBK := hide hbk
  clear hb1 hbk
  have HA : Hid ((w1.alloc (.cells #[.slice none 0 0, .slice none 0 0] 135)).heap[w1.heap.size]? = some (.cells #[.slice none 0 0, .slice none 0 0] 135 (0, 0))) := heap_alloc_new w1 _
  have o1 : Hid (vl.oneCell' = true ∧ vw.oneCell' = true) := by
    rcases HBK.out with ⟨_, rfl, rfl⟩ | ⟨_, h1, h2⟩
    · exact ⟨rfl, rfl⟩
    · obtain ⟨_, _, e1⟩ := h1.shape
      obtain ⟨_, _, e2⟩ := h2.shape
      rw [e1, e2]; exact ⟨rfl, rfl⟩
  obtain ⟨w2, HW2⟩ : ∃ w2, Hid (w2 = (w1.alloc (.cells #[.slice none 0 0, .slice none 0 0] 135)).setRow w1.heap.size #[vl, vw]) := ⟨_, rfl⟩
  have HA2 : Hid (w2.heap[w1.heap.size]? = some (.cells #[vl, vw] 135 (0, 0))) := by rw [HW2.out]; exact setRow_heap _ _ _ _ _ _ HA.out
  have hb12 : Below w1.heap.size w1 w2 := by rw [HW2.out]; exact below_setRow ((Below.refl _ _).alloc (Nat.le_refl _) _) (Nat.le_refl _)
  have HB12 := hide hb12
  have HB2 : Hid (Below w.heap.size w w2) := HB1.out.trans (hb12.mono HB1.out.size)
  clear hb12
  by_cases h0 : bkE l = 0
  case neg =>
    have h0' : (bkE l == 0) = false := by simpa using h0
    have HNE := hide h0
    obtain ⟨q, HQ⟩ : ∃ q, Hid (q = bkE l) := ⟨_, rfl⟩
    rw [← HQ.out] at h0 h0' ⊢
    go_wp2_with ((with_reducible refine wpList_storeB w1.heap.size vl vw _ _ ?hx ?hy HA.out ?h1 ?h2 ?_); (case hx => rfl); (case hy => rfl); (case h1 => exact o1.out.1); (case h2 => exact o1.out.2))
    rw [← HW2.out]
    go_ret2
    exact ⟨HB2.out, .inl ⟨HNE.out, by rw [HQ.out]; rfl⟩⟩
  rw [h0]
  have HBO := hide (show OI w1 w.heap.size vl l ∧ OI w1 w.heap.size vw (wds l) from by
    rcases HBK.out with ⟨hne, _⟩ | ⟨_, h1, h2⟩
    · exact absurd h0 hne
    · exact ⟨h1, h2⟩)
  have H0 := hide h0
  clear h0 HBK
  obtain ⟨V, HV⟩ : ∃ V, Hid (V = w2.alloc (.cells #[vl, vw] 139)) := ⟨_, rfl⟩
  have HDV : Hid (V.heap[w2.heap.size]? = some (.cells #[vl, vw] 139 (0, 0))) := by rw [HV.out]; exact heap_alloc_new w2 _
  have hbV : Below w2.heap.size w2 V := by rw [HV.out]; exact (Below.refl _ _).alloc (Nat.le_refl _) _
  have HR : Hid (((w1.alloc (.cells #[.slice none 0 0, .slice none 0 0] 135)).setRow w1.heap.size #[vl, vw]).heap[w1.heap.size]? = some (.cells #[vl, vw] 135 (0, 0))) := by rw [← HW2.out]; exact HA2.out
  have hb1V : Below w1.heap.size w1 V := HB12.out.trans (hbV.mono HB12.out.size)
  have HF : Hid (Below w.heap.size w V ∧ ∃ K, Ep V K w2.heap.size l ∧ ∀ k, K k ≠ 0 → w.heap.size ≤ k) := by
    have p1 := HBO.out.1.below hb1V (Nat.le_refl _)
    have p2 := HBO.out.2.below hb1V (Nat.le_refl _)
    refine ⟨HB2.out.trans (hbV.mono HB2.out.size), fun k => if k = w2.heap.size ∨ vl.ownBlock = some k ∨ vw.ownBlock = some k then 1 else 0, ⟨⟨vl, vw, HDV.out, p1.base (Nat.zero_le _), p2.base (Nat.zero_le _), fun k hk => by simp [hk], fun k hk => by simp [hk]⟩, by simp, fun k hk => ?_, H0.out⟩, fun k hk => ?_⟩
    · by_cases c : k = w2.heap.size ∨ vl.ownBlock = some k ∨ vw.ownBlock = some k
      · rcases c with rfl | c | c
        · rw [HV.out]; simp
        · exact (p1.lt k c).2
        · exact (p2.lt k c).2
      · simp [c] at hk
    · by_cases c : k = w2.heap.size ∨ vl.ownBlock = some k ∨ vw.ownBlock = some k
      · rcases c with rfl | c | c
        · exact HB2.out.size
        · exact (p1.lt k c).1
        · exact (p2.lt k c).1
      · simp [c] at hk
  have HSZ : Hid (w2.heap.size = w1.heap.size + 1) := by show _ = _; rw [HW2.out]; simp
  clear hbV hb1V
  go_wp2_with (first | ((with_reducible refine wpList_storeB w1.heap.size vl vw _ _ ?hx ?hy HA.out ?h1 ?h2 ?_); (case hx => rfl); (case hy => rfl); (case h1 => exact o1.out.1); (case h2 => exact o1.out.2)) | ((with_reducible refine wpList_loadB2 w1.heap.size _ _ ?hx HR.out ?_); (case hx => rfl)))
  rw [← HW2.out, ← HV.out]
  go_ret2
  obtain ⟨x1, K, x2, x3⟩ := HF.out
  refine ⟨x1, .inr ⟨H0.out, _, K, ?_, x2, x3⟩⟩
  rw [HSZ.out]
  rfl

def lnI (l : List Int) (s : Int) : Nat := if 0 ≤ s ∧ s < l.length then ln l s.toNat else 0

theorem length_any {w : World} {K : Nat → Nat} {g : Nat} {l : List Int} (h : Ep w K g l) (s : Int) (hs0 : -9223372036854775808 ≤ s) (hs1 : s ≤ 9223372036854775807) :
    Calls Tryz.prog 89 #[.pointer (some ⟨g, 0, none⟩), .int .i64 s] w fun e w' => e = .returned (.int .i64 (lnI l s)) ∧ w' = w := by
  obtain ⟨vl, vw, a1, a2, a3, _⟩ := h.d
  have hl := (bkE_zero h.ok).1
  have HL := hide hl
  have h288 := hl.1
  have c0 : w.cell? ⟨g, 0, none⟩ = some vl := by rw [cell_of_row _ _ _ _ _ _ a1]; rfl
  obtain ⟨al, cl, hvl⟩ := a2.shape
  have HO := hide a2
  obtain ⟨q1, q2⟩ : l.length ≤ cl ∧ cl ≤ 9223372036854775807 := by
    have hsb := a2.sb
    rw [hvl] at hsb
    obtain ⟨_, _, e1, e2, e3⟩ := hsb.open
    simp only [Value.slice.injEq] at e1
    obtain ⟨-, -, rfl⟩ := e1
    exact ⟨e2, e3⟩
  clear h a1 a2 a3 hl
  by_cases hs : 0 ≤ s ∧ s < l.length
  · have HE : Hid (lnI l s = ln l s.toNat) := if_pos hs
    rw [HE.out]
    obtain ⟨n, rfl⟩ : ∃ n : Nat, s = n := ⟨s.toNat, by omega⟩
    have hn : n < l.length := by omega
    obtain ⟨b, c, hv, _⟩ := HO.out.form (by omega)
    have hc := HO.out.get (b := b) (by rw [hv]; rfl) hn
    rw [(HL.out.ln n).1] at hc
    rw [hv] at c0
    simp only [Int.toNat_natCast]
    rw [hvl] at hv
    simp only [Value.slice.injEq] at hv
    obtain ⟨rfl, -, rfl⟩ := hv
    have h1 : ¬ (n : Int) < 0 := by omega
    have h2 : ¬ (l.length : Int) ≤ n := by omega
    clear hs hvl
    go_enter Tryz.func89, Tryz.ntmps89
    go_wp2
    go_ret
    exact ⟨rfl, rfl⟩
  · have HE : Hid (lnI l s = 0) := if_neg hs
    rw [HE.out]
    rw [hvl] at c0
    by_cases h1 : s < 0
    · clear hs
      go_enter Tryz.func89, Tryz.ntmps89
      go_wp2
      go_ret
      exact ⟨rfl, rfl⟩
    · have h2 : (l.length : Int) ≤ s := by omega
      clear hs
      go_enter Tryz.func89, Tryz.ntmps89
      go_wp2
      go_ret
      exact ⟨rfl, rfl⟩

def wb (l : List Int) (s : Nat) : List Int := (bts (wd l s) (ln l s)).reverse

theorem wb_len (l : List Int) (s : Nat) : (wb l s).length = ln l s := by unfold wb; rw [List.length_reverse, length_bts]

theorem wb_bit (l : List Int) (s : Nat) : Bit (wb l s) := fun b hb => bit_bts _ _ b (List.mem_reverse.1 hb)

def epE (l row : List Int) (s : Int) : Int := if lnI l s = 0 then 56 else if row.length + lnI l s ≤ 268435456 then 0 else 1
def epR (l row : List Int) (s : Int) : List Int := if epE l row s = 0 then row ++ wb l s.toNat else row

theorem lnI_pos {l : List Int} {s : Int} (h : lnI l s ≠ 0) : 0 ≤ s ∧ s < l.length ∧ lnI l s = ln l s.toNat := by
  unfold lnI at h ⊢
  by_cases c : 0 ≤ s ∧ s < l.length
  · rw [if_pos c] at h ⊢; exact ⟨c.1, c.2, rfl⟩
  · rw [if_neg c] at h; exact absurd rfl h

set_option maxHeartbeats 1000000 in
theorem heput {W w : World} {xs : List ((Nat → Nat) × Thing)} (H : Herd W w xs) (i j : Nat) {K Kw : Nat → Nat} {g r : Nat} {l row : List Int} (hi : xs[i]? = some (K, te g l)) (hj : xs[j]? = some (Kw, tw r row)) (s : Int) (hs0 : -9223372036854775808 ≤ s) (hs1 : s ≤ 9223372036854775807) :
    Calls Tryz.prog 56 #[.pointer (some ⟨g, 0, none⟩), .pointer (some ⟨r, 0, none⟩), .int .i64 s] w fun e w' => e = .returned (.int .i64 (epE l row s)) ∧ ∃ K', Herd W w' (xs.set j (K', tw r (epR l row s))) := by
  have hE : Ep w K g l := H.rep i _ hi
  have hl := (bkE_zero hE.ok).1
  have HL := hide hl
  have hu := us_le hE.ok
  have HH := hide H
  have HI := hide hi
  have HJ := hide hj
  have HEE := hide hE
  have hset : xs.set j (Kw, tw r row) = xs := by
    apply List.ext_getElem?
    intro n
    rw [List.getElem?_set]
    by_cases c : j = n
    · subst c
      rw [if_pos rfl, hj, if_pos (List.getElem?_eq_some_iff.1 hj).1]
    · rw [if_neg c]
  have HST := hide hset
  by_cases h0 : lnI l s = 0
  · have HE : Hid (epE l row s = 56) := if_pos h0
    have HR : Hid (epR l row s = row) := if_neg (by rw [HE.out]; decide)
    rw [HE.out, HR.out]
    have HN := hide h0
    clear hE hl hu H hi hj hset h0
    go_enter Tryz.func56, Tryz.ntmps56
    go_wp2_with fail
    refine (length_any HEE.out s hs0 hs1).mono ?_
    rintro e w1 ⟨rfl, rfl⟩
    rw [HN.out]
    go_wp2
    go_ret
    exact ⟨rfl, Kw, by rw [HST.out]; exact HH.out⟩
  · obtain ⟨b0, b1, b2⟩ := lnI_pos h0
    obtain ⟨n, rfl⟩ : ∃ n : Nat, s = n := ⟨s.toNat, by omega⟩
    simp only [Int.toNat_natCast] at b2
    have hn : n < l.length := by omega
    have hlt := word_lt hl hu (s := n)
    have h15 := (hl.ln n).2
    have HEQ : Hid (epE l row n = putE row (revN (wd l n) (ln l n)) (ln l n) ∧ epR l row n = putRow row (revN (wd l n) (ln l n)) (ln l n)) := by
      have hf : Fit (wd l n) (ln l n) := ⟨⟨by omega, by omega⟩, by simp; exact_mod_cast hlt⟩
      have hrv : revN (wd l n) (ln l n) = val (wb l n) := by unfold revN; rw [if_pos hf]; rfl
      have hvb := val_bound (wb_bit l n)
      rw [wb_len] at hvb
      have hbv : bts (val (wb l n)) (ln l n) = wb l n := by have := bts_val (wb_bit l n); rwa [wb_len] at this
      have hfit : Fit (val (wb l n)) (ln l n) := ⟨⟨by omega, by omega⟩, by simp; exact hvb.2⟩
      rw [hrv]
      have hE1 : epE l row n = if row.length + ln l n ≤ 268435456 then 0 else 1 := by unfold epE; rw [if_neg h0, b2]
      by_cases c : row.length + ln l n ≤ 268435456
      · have hok : putOk row (val (wb l n)) (ln l n) := ⟨hfit, by omega⟩
        have e1 : epE l row n = 0 := by rw [hE1, if_pos c]
        refine ⟨by rw [e1]; unfold putE; rw [if_pos hok], ?_⟩
        unfold epR putRow
        rw [if_pos e1, if_pos hok, Int.toNat_natCast, Int.toNat_natCast, hbv]
      · have hok : ¬ putOk row (val (wb l n)) (ln l n) := fun h => c (by have := h.2; omega)
        have e1 : epE l row n = 1 := by rw [hE1, if_neg c]
        refine ⟨by rw [e1]; unfold putE; rw [if_neg hok], ?_⟩
        unfold epR putRow
        rw [if_neg (by rw [e1]; decide), if_neg hok]
    have hrb : 0 ≤ revN (wd l n) (ln l n) ∧ revN (wd l n) (ln l n) < 4294967296 := by
      unfold revN
      split
      · have := rev_bound (wd l n) ((ln l n : Int).toNat)
        have h31 : (2 : Int) ^ ((ln l n : Int).toNat) ≤ 2 ^ 15 := pow_le (by omega)
        omega
      · omega
    obtain ⟨vl, vw, a1, a2, a3, _⟩ := hE.d
    have c1 : w.cell? ⟨g, 1, none⟩ = some vw := by rw [cell_of_row _ _ _ _ _ _ a1]; rfl
    obtain ⟨bw, cw, hvw, _, _, q1, q2⟩ := a3.form (by rw [wds_len]; omega)
    have cw1 := a3.get (b := bw) (by rw [hvw]; rfl) (i := n) (by rw [wds_len]; exact hn)
    rw [wds_get hn] at cw1
    rw [wds_len] at hvw q1
    subst hvw
    rw [HEQ.out.1, HEQ.out.2]
    have h2n : 2 ^ ln l n ≤ 2 ^ 15 := Nat.pow_le_pow_right (by decide) h15
    have hm0 : ln l n ≠ 0 := by rw [← b2]; exact h0
    obtain ⟨m, HM⟩ : ∃ m : Nat, Hid (m = ln l n) := ⟨_, rfl⟩
    obtain ⟨y, HY⟩ : ∃ y : Nat, Hid (y = wd l n) := ⟨_, rfl⟩
    rw [← HM.out] at h15 hm0 b2 hrb ⊢
    rw [← HY.out] at cw1 hrb ⊢
    have hy : y < 32768 := by rw [HY.out]; omega
    obtain ⟨t, HTT⟩ : ∃ t, Hid (t = revN (y : Int) (m : Int)) := ⟨_, rfl⟩
    rw [← HTT.out] at hrb ⊢
    have HB2 : Hid (lnI l (n : Int) = m) := b2
    have hmz : ((m : Int) == 0) = false := by simp; omega
    have hwy : IntKind.u32.wrap (y : Int) = y := by rw [IntKind.wrap_u32]; omega
    have h288 := hl.1
    clear hE hl hu H hi hj hset h0 hlt a1 a2 a3 h2n b2
    go_enter Tryz.func56, Tryz.ntmps56
    go_wp2_with fail
    refine (length_any HEE.out n hs0 hs1).mono ?_
    rintro e w1 ⟨rfl, rfl⟩
    rw [HB2.out]
    go_wp2_with fail
    refine (reverse_any y m (by omega) (by omega) _).mono ?_
    rintro e w2 ⟨rfl, rfl⟩
    rw [← HTT.out]
    obtain ⟨q, HQ⟩ : ∃ q, Hid (q = revE (y : Int) (m : Int)) := ⟨_, rfl⟩
    rw [← HQ.out]
    go_wp2_with fail
    refine (hput HH.out j HJ.out t m hrb.1 hrb.2).mono ?_
    rintro e w3 ⟨rfl, K', h3⟩
    have HX := hide h3
    clear h3
    go_wp2
    go_ret
    exact ⟨rfl, K', HX.out⟩

theorem hencode {W w : World} {xs : List ((Nat → Nat) × Thing)} (H : Herd W w xs) (v : Value) (l : List Int) (h : SI w v l) :
    Calls Tryz.prog 55 #[v] w fun e w' => (bkE l ≠ 0 ∧ e = .returned (.tuple #[.pointer none, .int .i64 (bkE l)]) ∧ Herd W w' xs) ∨ (bkE l = 0 ∧ ∃ g K, e = .returned (.tuple #[.pointer (some ⟨g, 0, none⟩), .int .i64 0]) ∧ Herd W w' (xs ++ [(K, te g l)])) := by
  refine (newEncoder_any v l w h).mono ?_
  rintro e w1 ⟨hb, h | ⟨h0, g, K, rfl, hd, hk⟩⟩
  · exact .inl ⟨h.1, h.2, H.below hb⟩
  · exact .inr ⟨h0, g, K, rfl, H.push hb hd hk⟩
end Go.Proofs.YtfoglaajnlbnbaaGreatDoor

namespace Go.Proofs.YtfoglaajnlbnbaaGreatDoor
open Go.RowKit Go.Maps
set_option maxRecDepth 20000

def ti (v : Value) (l : List Int) : Thing :=
  ⟨fun w K => OI w 0 v l ∧ (∀ k, v.ownBlock = some k → K k ≠ 0) ∧ ∀ k, K k ≠ 0 → k < w.heap.size,
   fun h a b => ⟨h.1.move fun k hk => b k (h.2.1 k hk), h.2.1, fun k hk => Nat.lt_of_lt_of_le (h.2.2 k hk) a⟩, fun h => h.2.2⟩

theorem Herd.ilist {W w w' : World} {xs : List ((Nat → Nat) × Thing)} (h : Herd W w xs) (hb : Below w.heap.size w w') {v : Value} {l : List Int} (ho : OI w' w.heap.size v l) : ∃ K, Herd W w' (xs ++ [(K, ti v l)]) := by
  refine ⟨fun k => if v.ownBlock = some k then 1 else 0, h.push hb ⟨ho.base (Nat.zero_le _), fun k hk => by simp [hk], fun k hk => ?_⟩ fun k hk => ?_⟩
  · by_cases e : v.ownBlock = some k
    · exact (ho.lt k e).2
    · simp [e] at hk
  · by_cases e : v.ownBlock = some k
    · exact (ho.lt k e).1
    · simp [e] at hk

theorem Herd.isi {W w : World} {xs : List ((Nat → Nat) × Thing)} (H : Herd W w xs) (i : Nat) {K : Nat → Nat} {v : Value} {l : List Int} (hi : xs[i]? = some (K, ti v l)) : SI w v l := by
  have h : (ti v l).P w K := H.rep i _ hi
  exact h.1.sb

theorem Herd.ioi {W w : World} {xs : List ((Nat → Nat) × Thing)} (H : Herd W w xs) (i : Nat) {K : Nat → Nat} {v : Value} {l : List Int} (hi : xs[i]? = some (K, ti v l)) : OI w 0 v l := by
  have h : (ti v l).P w K := H.rep i _ hi
  exact h.1

end Go.Proofs.YtfoglaajnlbnbaaGreatDoor

namespace Go.Proofs.YtfoglaajnlbnbaaGreatDoor
open Go.RowKit Go.Maps
set_option maxRecDepth 20000

theorem shp_cases (l : List Int) : shp l = 0 ∨ shp l = 1 ∨ shp l = 2 ∨ shp l = 3 ∨ shp l = 4 := by
  unfold shp
  by_cases c0 : tsum l = 0
  · rw [if_pos c0]; omega
  · rw [if_neg c0]
    by_cases c1 : tsum l = 1 ∧ usum l = 16384
    · rw [if_pos c1]; omega
    · rw [if_neg c1]
      by_cases c2 : 32768 < usum l
      · rw [if_pos c2]; omega
      · rw [if_neg c2]
        by_cases c3 : usum l = 32768
        · rw [if_pos c3]; omega
        · rw [if_neg c3]; omega

theorem dcE_iff (l : List Int) : dcE l = 0 ↔ chkE l = 0 ∧ (shp l = 1 ∨ shp l = 4) := by
  constructor
  · intro h
    obtain ⟨h1, h2, h3, h4⟩ := dcE_zero h
    have hc := shp_cases l
    refine ⟨?_, by omega⟩
    unfold chkE
    rw [if_neg (by have := h1.1; omega), if_pos h1]
  · rintro ⟨h1, h2⟩
    have hb : bkE l = 0 := by unfold bkE; rw [if_neg (by simp [h1]), if_neg (by omega), if_neg (by omega)]
    unfold dcE
    rw [if_neg (by simp [hb]), if_neg (by omega)]

theorem dc_bk {l : List Int} (h : dcE l = 0) : bkE l = 0 := by
  obtain ⟨h1, h2⟩ := (dcE_iff l).1 h
  unfold bkE
  rw [if_neg (by simp [h1]), if_neg (by omega), if_neg (by omega)]

theorem bts_take (v : Int) {n m : Nat} (h : n ≤ m) : (bts v m).take n = bts v n := by
  obtain ⟨k, rfl⟩ : ∃ k, m = n + k := ⟨m - n, by omega⟩
  rw [bts_split, List.take_append_of_le_length (by rw [length_bts]; omega), List.take_of_length_le (by rw [length_bts]; omega)]

theorem nx_word {l row rest : List Int} {p s : Nat} (hd : dcE l = 0) (hh : Has l s) (hb : Bit row) (hr : row.drop p = wb l s ++ rest) : nxE l row p = 0 ∧ nxS l row p = s ∧ nxP l row p = p + ln l s := by
  have hl := (dcE_zero hd).1
  have hu := us_le (dc_bk hd)
  have hlt := word_lt hl hu (s := s)
  have h15 := (hl.ln s).2
  have hdl := congrArg List.length hr
  rw [List.length_drop, List.length_append, wb_len] at hdl
  have hn0 := hh.2
  have hlen : p + ln l s ≤ row.length := by omega
  have hT : ((row.drop p).take 15).take (ln l s) = wb l s := by
    rw [List.take_take, Nat.min_eq_left h15, hr, List.take_append_of_le_length (by rw [wb_len]; exact Nat.le_refl _), List.take_of_length_le (by rw [wb_len]; exact Nat.le_refl _)]
  have hTb : Bit ((row.drop p).take 15) := (hb.drop p).take 15
  have hTl : ln l s ≤ ((row.drop p).take 15).length := by rw [List.length_take, List.length_drop]; omega
  have hv : bts (ahead row p 15) (ln l s) = wb l s := by
    unfold ahead
    rw [← hT]
    have h2 := bts_val hTb
    conv => rhs; rw [← h2]
    exact (bts_take _ hTl).symm
  have hm : mir (ahead row p 15) (ln l s) = (wd l s : Int) := by
    unfold mir
    rw [hv]
    unfold wb
    rw [List.reverse_reverse]
    exact val_bts_in (by omega) (by exact_mod_cast hlt)
  have hrow := mir_row (ahead row p 15) h15
  rw [hm] at hrow
  have hhit : Hit l (rowAt row p) s := hit_iff.2 ⟨hh, by unfold rowAt; exact_mod_cast hrow.symm⟩
  obtain ⟨f1, f2⟩ := fd_hit hl hhit
  have hE : nxE l row p = 0 := by unfold nxE; rw [if_pos f2, f1, if_pos hlen]
  exact ⟨hE, by unfold nxS; rw [if_pos hE, f1], by unfold nxP; rw [if_pos hE, f1]⟩

theorem Herd.nilI {W w : World} {xs : List ((Nat → Nat) × Thing)} (H : Herd W w xs) : Herd W w (xs ++ [(fun _ => 0, ti (.slice none 0 0) [])]) :=
  H.push (Below.refl _ _) ⟨World.ownsRow_nil _ _ _ _, fun k hk => by simp [Value.ownBlock] at hk, fun k hk => absurd rfl hk⟩ fun k hk => absurd rfl hk

theorem lnI_has {l : List Int} {s : Int} (h : lnI l s ≠ 0) : Has l s.toNat ∧ ((s.toNat : Nat) : Int) = s ∧ ln l s.toNat = lnI l s := by
  obtain ⟨h1, h2, h3⟩ := lnI_pos h
  exact ⟨⟨by omega, by rw [← h3]; omega⟩, by omega, h3.symm⟩

end Go.Proofs.YtfoglaajnlbnbaaGreatDoor

