import Derived.Test.YtjhgjohnfkgleabPrs
namespace Go.Proofs.Ytjhgjohnfkgleab
open Go.RowKit Go.Maps
set_option maxRecDepth 20000

/-- A list of pairs. -/
def tp (v : Value) (l : List Pr) : Thing :=
  ⟨fun w K => OP w 0 v l ∧ (∀ k, v.ownBlock = some k → K k ≠ 0) ∧ ∀ k, K k ≠ 0 → k < w.heap.size,
   fun h a b => ⟨row_move h.1 fun k hk => b k (h.2.1 k hk), h.2.1, fun k hk => Nat.lt_of_lt_of_le (h.2.2 k hk) a⟩, fun h => h.2.2⟩

theorem Herd.listP {W w w' : World} {xs : List ((Nat → Nat) × Thing)} (h : Herd W w xs) (hb : Below w.heap.size w w') {v : Value} {l : List Pr} (ho : OP w' w.heap.size v l) : ∃ K, Herd W w' (xs ++ [(K, tp v l)]) := by
  have hl : ∀ k, v.ownBlock = some k → w.heap.size ≤ k ∧ k < w'.heap.size := World.ownsRow.lt ho
  have h0 : OP w' 0 v l := by
    refine ⟨ho.1, ?_⟩
    rcases ho.2 with h2 | ⟨g, cap, cur, rfl, h1, r⟩
    · exact .inl h2
    · exact .inr ⟨g, cap, cur, rfl, Nat.zero_le _, r⟩
  refine ⟨fun k => if v.ownBlock = some k then 1 else 0, h.push hb ⟨h0, fun k hk => by simp [hk], fun k hk => ?_⟩ fun k hk => ?_⟩
  · by_cases e : v.ownBlock = some k
    · exact (hl k e).2
    · simp [e] at hk
  · by_cases e : v.ownBlock = some k
    · exact (hl k e).1
    · simp [e] at hk

theorem Herd.op' {W w : World} {xs : List ((Nat → Nat) × Thing)} (H : Herd W w xs) (i : Nat) {K : Nat → Nat} {v : Value} {l : List Pr} (hi : xs[i]? = some (K, tp v l)) : OP w W.heap.size v l := by
  have h : (tp v l).P w K := H.rep i _ hi
  have hr : w.ownsRow 0 52 2 v l.length (flatP l) := h.1
  refine ⟨hr.1, ?_⟩
  rcases hr.2 with h2 | ⟨g, cap, cur, rfl, h1, r⟩
  · exact .inl h2
  · exact .inr ⟨g, cap, cur, rfl, H.up i _ hi g (h.2.1 g rfl), r⟩

/-- An append onto the first list of a herd, its length under another name. -/
theorem wpPairs {W w : World} {xs : List ((Nat → Nat) × Thing)} {K : Nat → Nat} {a0 : Option Addr} {k c0 : Nat} {l : List Pr} (H : Herd W w ((K, tp (.slice a0 k c0) l) :: xs)) (hl : l.length = k) {ops : Array Oper} {rest : List Oper} {o : Oper} {a : Act} {Q : Exit → Act → World → Prop} (hgd : o.guard = none) (s x : Operand)
    (ho : o.op = .call { callee := .builtin .append, args := #[s, x], argTypes := #[48, 48] }) (y : Pr) (c : Nat) (hs : a.eval s = .slice a0 k c0) (hx : a.eval x = .slice (some ⟨w.heap.size, 0, none⟩) 1 c) (hn : k ≤ 5864062014804)
    (h : ∀ ad cap w' K', Herd W w' ((K', tp (.slice ad (k + 1) cap) (l ++ [y])) :: xs) → wpList Try.prog ops Q rest (a.put o.dst (.slice ad (k + 1) cap)) w') :
    wpList Try.prog ops Q (o :: rest) a (w.alloc (.cells #[.string y.name, .int .i64 y.n] 52)) := by
  subst hl
  obtain ⟨i0, hi0, hz0, hz1, hz2⟩ := info_parts infoPair
  have hp : (tp (.slice a0 l.length c0) l).P w K := H.rep 0 _ rfl
  have hr : w.ownsRow 0 52 2 (.slice a0 l.length c0) l.length (flatP l) := hp.1
  refine wpList_append_lies _ hgd s x 48 ho 0 52 i0 _ 2 24 Try.underlying48 hi0 hz0 hz1 hz2 rfl (by omega) _ l.length _ hs (hr.alloc _) ⟨w.heap.size, 0, none⟩ 1 c (cellsP y) hx rfl (World.news_of_block (cs := #[.string y.name, .int .i64 y.n]) (t := 52) (fr := (0, 0)) (heap_alloc_new w _)) (fun u hu => ?_) (by omega) (by unfold maxLen; omega) (by omega) (Nat.zero_le _) (w.heap.size + 1) (size_alloc' _ _) ?_
  · rcases List.mem_cons.1 hu with rfl | hu
    · rfl
    · rw [List.mem_singleton.1 hu]; rfl
  · intro g cap w' hown hgrow hat hlt
    have hs' := hgrow.size
    rw [size_alloc'] at hs'
    refine h _ cap w' (fun k => if k < w.heap.size then K k else if k = g then 1 else 0) (H.op 0 rfl (x' := tp _ (l ++ [y])) ⟨?_, fun k hk => ?_, fun k hk => ?_⟩ ⟨hgrow.os, hgrow.tape, hgrow.output, by omega, fun k hk h0 => ?_, fun k hk => by simp only [if_pos hk]⟩)
    · unfold OP; rw [List.length_append, flatP_snoc]; exact hown
    · have hk' : g = k := by simpa [Value.ownBlock] using hk
      subst hk'
      by_cases hgl : g < w.heap.size
      · simp only [if_pos hgl]
        rcases hat with e | e
        · exact hp.2.1 g e
        · omega
      · simp [hgl]
    · by_cases hkl : k < w.heap.size
      · omega
      · simp only [if_neg hkl] at hk
        by_cases e : k = g
        · omega
        · simp [e] at hk
    · rw [hgrow.block k (by rw [size_alloc']; omega) (fun e => hp.2.1 k e.symm h0)]
      exact Below.heap_alloc _ _ k hk

/-- The pairs by their keys. -/
def srtP (keys : List Int) (vals : List Pr) : List Pr := (orderOf keys).map fun p => pp vals p.toNat

theorem srtP_len (keys : List Int) (vals : List Pr) : (srtP keys vals).length = keys.length := by unfold srtP; rw [List.length_map, orderOf_len]

theorem srtP_take {keys : List Int} {vals : List Pr} {k : Nat} (h : k < keys.length) : (srtP keys vals).take (k + 1) = (srtP keys vals).take k ++ [pp vals ((orderOf keys).getD k 0).toNat] := by
  have hk : k < (orderOf keys).length := by rw [orderOf_len]; exact h
  rw [List.take_succ_eq_append_getElem (by rw [srtP_len]; exact h)]
  simp [srtP, hk]

theorem srtP_get {keys : List Int} {vals : List Pr} {i : Nat} (h : i < keys.length) : pp (srtP keys vals) i = pp vals ((orderOf keys).getD i 0).toNat := by
  have hk : i < (orderOf keys).length := by rw [orderOf_len]; exact h
  simp [pp, srtP, hk]

theorem SI.nth {w : World} {ao : Option Addr} {cap n : Nat} {l : List Int} (h : SI w (.slice ao n cap) l) {k : Nat} (hk : k < l.length) : ∃ b o, ao = some ⟨b, o, none⟩ ∧ w.cell? ⟨b, o + k, none⟩ = some (.int .i64 (l.getD k 0)) := h.cellAt (Below.refl _ _) hk

theorem sortP_no (vk vv : Value) (keys : List Int) (vals : List Pr) (w : World) (hk : SI w vk keys) (hv : SP w vv vals) (hne : keys.length ≠ vals.length) :
    Calls Try.prog 26 #[vk, vv] w fun e w' => e = .returned (.tuple #[.slice none 0 0, .int .i64 40]) ∧ w' = w := by
  obtain ⟨a1, c1, rfl⟩ := hk.len
  obtain ⟨a2, c2, rfl⟩ := hv.len
  have h' : ((keys.length : Int) != (vals.length : Int)) = true := by simp; omega
  go_enter Try.func26, Try.ntmps26
  go_wp2
  go_ret2
  exact ⟨rfl, rfl⟩

set_option maxHeartbeats 2000000 in
theorem sortP_any (vk vv : Value) (keys : List Int) (vals : List Pr) (w : World) (hk : SI w vk keys) (hv : SP w vv vals) (hne : keys.length = vals.length) (hn : keys.length ≤ 5864062014805) :
    Calls Try.prog 26 #[vk, vv] w fun e w' => ∃ a c, e = .returned (.tuple #[.slice a keys.length c, .int .i64 0]) ∧ OP w' w.heap.size (.slice a keys.length c) (srtP keys vals) ∧ Below w.heap.size w w' := by
  have HK := hide hk
  have HV := hide hv
  have HNE := hide hne
  obtain ⟨a1, c1, rfl⟩ := hk.len
  obtain ⟨a2, c2, rfl⟩ := hv.len
  have h' : ((keys.length : Int) != (vals.length : Int)) = false := by simp; omega
  have hn2 : (vals.length : Int) ≤ 5864062014805 := by omega
  obtain ⟨i0, hi0, hz0, hz1, hz2⟩ := info_parts infoPair
  clear hk hv hne
  go_enter Try.func26, Try.ntmps26
  go_wp2_with (at_make; refine wpList_make_own _ rfl _ _ 48 rfl w.heap.size 52 i0 _ 2 Try.underlying48 hi0 hz0 hz1 .i64 .i64 _ vals.length rfl rfl rfl (by rw [hz2]; omega) (by unfold maxLen; omega) (Nat.le_refl _) ?_)
  intro w2 hown2 hg2
  have hb2 : Below w.heap.size w w2 := ⟨hg2.os, hg2.tape, hg2.output, hg2.size, fun k hk => hg2.block k hk (by simp)⟩
  obtain ⟨Kv, H2⟩ := (Herd.nil w).listP (v := .slice (some ⟨w.heap.size, 0, none⟩) 0 vals.length) (l := []) hb2 hown2
  have HH2 := hide H2
  have hO := order_in _ keys w2 (HK.out.below hb2) hn
  clear hown2 hg2 hb2 H2 hi0 hz0 hz1 hz2
  go_wp2_with fail
  refine hO.mono ?_
  rintro e w3 ⟨ao, co, rfl, o3, b3⟩
  have HST : Hid (∃ K1 K2 a c, Value.slice (some ⟨w.heap.size, 0, none⟩) 0 vals.length = .slice a 0 c ∧ Herd w w3 [(K1, tp (.slice a 0 c) ((srtP keys vals).take 0)), (K2, tl (.slice ao keys.length co) (orderOf keys))]) := by
    obtain ⟨K2, H3⟩ := HH2.out.list b3 o3
    exact ⟨Kv, K2, _, _, rfl, H3⟩
  clear o3 b3 hO HH2
  go_wp2
  go_loopw [6, 20] (fun sv iv wr => ∃ k : Nat, iv = .int .i64 k ∧ k ≤ keys.length ∧ Hid (∃ K1 K2 a c, sv = .slice a k c ∧ Herd w wr [(K1, tp (.slice a k c) ((srtP keys vals).take k)), (K2, tl (.slice ao keys.length co) (orderOf keys))])) (fun _ iv _ => keys.length - (intOf iv).toNat)
  case atStart => exact ⟨0, rfl, Nat.zero_le _, HST.out⟩
  case round =>
    obtain ⟨k, rfl, hk, HR⟩ := hrel
    obtain ⟨K1, K2, a, c, rfl, H⟩ := HR.out
    by_cases hlt : k < keys.length
    · have hlt' : (k : Int) < (keys.length : Int) := by omega
      have hlo : k < (orderOf keys).length := by rw [orderOf_len]; exact hlt
      obtain ⟨b, o, hab, d1⟩ := (H.oi 1 rfl).sb.nth hlo
      have hr1 := order_mem (getD_mem hlo)
      have HT := hide (srtP_take (vals := vals) hlt)
      obtain ⟨x, hx⟩ : ∃ x : Nat, (orderOf keys).getD k 0 = x := Int.eq_ofNat_of_zero_le hr1.1
      rw [hx] at d1 hr1 HT
      have hx1 : (x : Int) < (vals.length : Int) := by have := hr1.2; have := HNE.out; omega
      obtain ⟨b', o', hab', d2, d3⟩ := (HV.out.below H.bel).nth (k := x) (by omega)
      obtain ⟨y, hy⟩ : ∃ y, pp vals x = y := ⟨_, rfl⟩
      simp only [Int.toNat_natCast] at HT
      rw [hy] at d2 d3 HT
      have hl2 : ((srtP keys vals).take k).length = k := by rw [List.length_take, srtP_len]; omega
      have HL2 := hide hl2
      subst hab hab'
      have HH := hide H
      clear hx hy hr1 H HR hl2 hlo
      go_wp2_with (at_builtin; refine wpPairs HH.out HL2.out rfl _ _ rfl y _ rfl rfl (by omega) ?_)
      intro ad cap w4 K4 H4
      have HN : Hid (Herd w w4 [(K4, tp (.slice ad (k + 1) cap) ((srtP keys vals).take (k + 1))), (K2, tl (.slice (some ⟨b, o, none⟩) keys.length co) (orderOf keys))]) := by
        show Herd _ _ _
        rw [HT.out]
        exact H4
      clear H4 HH
      go_wp2
      go_roundw
      case rel => exact ⟨k + 1, by go_num, by omega, K4, K2, ad, cap, rfl, HN.out⟩
      case measure => simp [intOf]; omega
    · have hlt' : ¬ (k : Int) < (keys.length : Int) := by omega
      obtain rfl : k = keys.length := by omega
      have HFO : Hid (OP wr w.heap.size (.slice a keys.length c) (srtP keys vals)) := by
        have := H.op' 0 rfl
        rw [List.take_of_length_le (by rw [srtP_len]; exact Nat.le_refl _)] at this
        exact this
      have HFB := hide H.bel
      clear H HR hk hlt
      go_wp2
      go_ret2
      exact ⟨a, c, rfl, HFO.out, HFB.out⟩

end Go.Proofs.Ytjhgjohnfkgleab
