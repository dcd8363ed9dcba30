import Derived.Test.YtjhgjohnfkgleabLw
namespace Go.Proofs.Ytjhgjohnfkgleab
open Go.RowKit Go.Maps
set_option maxRecDepth 20000

/-- The values by their keys. -/
def srt (keys vals : List Int) : List Int := (orderOf keys).map fun p => vals.getD p.toNat 0

theorem srt_len (keys vals : List Int) : (srt keys vals).length = keys.length := by unfold srt; rw [List.length_map, orderOf_len]

theorem srt_take {keys vals : List Int} {k : Nat} (h : k < keys.length) : (srt keys vals).take (k + 1) = (srt keys vals).take k ++ [vals.getD ((orderOf keys).getD k 0).toNat 0] := by
  have hk : k < (orderOf keys).length := by rw [orderOf_len]; exact h
  rw [List.take_succ_eq_append_getElem (by rw [srt_len]; exact h)]
  simp [srt, hk]

theorem SI.nth {w : World} {ao : Option Addr} {cap n : Nat} {l : List Int} (h : SI w (.slice ao n cap) l) {k : Nat} (hk : k < l.length) : ∃ b o, ao = some ⟨b, o, none⟩ ∧ w.cell? ⟨b, o + k, none⟩ = some (.int .i64 (l.getD k 0)) := h.cellAt (Below.refl _ _) hk

theorem sortI_no (vk vv : Value) (keys vals : List Int) (w : World) (hk : SI w vk keys) (hv : SI w vv vals) (hne : keys.length ≠ vals.length) :
    Calls Try.prog 23 #[vk, vv] w fun e w' => e = .returned (.tuple #[.slice none 0 0, .int .i64 40]) ∧ w' = w := by
  obtain ⟨a1, c1, rfl⟩ := hk.len
  obtain ⟨a2, c2, rfl⟩ := hv.len
  have h' : ((keys.length : Int) != (vals.length : Int)) = true := by simp; omega
  go_enter Try.func23, Try.ntmps23
  go_wp2
  go_ret2
  exact ⟨rfl, rfl⟩

/-- An append onto the first list of a herd, its length under another name. -/
theorem wpTakes {W w : World} {xs : List ((Nat → Nat) × Thing)} {K : Nat → Nat} {a0 : Option Addr} {k c0 : Nat} {l : List Int} (H : Herd W w ((K, tl (.slice a0 k c0) l) :: xs)) (hl : l.length = k) {ops : Array Oper} {rest : List Oper} {o : Oper} {a : Act} {Q : Exit → Act → World → Prop} (hgd : o.guard = none) (s x : Operand)
    (ho : o.op = .call { callee := .builtin .append, args := #[s, x], argTypes := #[22, 22] }) (y : Int) (c : Nat) (hs : a.eval s = .slice a0 k c0) (hx : a.eval x = .slice (some ⟨w.heap.size, 0, none⟩) 1 c) (hn : k ≤ 10000000000000)
    (h : ∀ ad cap w' K', Herd W w' ((K', tl (.slice ad (k + 1) cap) (l ++ [y])) :: xs) → wpList Try.prog ops Q rest (a.put o.dst (.slice ad (k + 1) cap)) w') :
    wpList Try.prog ops Q (o :: rest) a (w.alloc (.cells #[.int .i64 y] 3)) := by
  subst hl
  exact wpList_int hgd s x ho H 0 rfl y c hs hx hn h

set_option maxHeartbeats 2000000 in
theorem sortI_any (vk vv : Value) (keys vals : List Int) (w : World) (hk : SI w vk keys) (hv : SI w vv vals) (hne : keys.length = vals.length) (hn : keys.length ≤ 5864062014805) :
    Calls Try.prog 23 #[vk, vv] w fun e w' => ∃ a c, e = .returned (.tuple #[.slice a keys.length c, .int .i64 0]) ∧ OI w' w.heap.size (.slice a keys.length c) (srt keys vals) ∧ Below w.heap.size w w' := by
  have HK := hide hk
  have HV := hide hv
  have HNE := hide hne
  obtain ⟨a1, c1, rfl⟩ := hk.len
  obtain ⟨a2, c2, rfl⟩ := hv.len
  have h' : ((keys.length : Int) != (vals.length : Int)) = false := by simp; omega
  have hn2 : (vals.length : Int) ≤ 5864062014805 := by omega
  obtain ⟨i0, hi0, hz0, hz1, hz2⟩ := info_parts infoInt
  clear hk hv hne
  go_enter Try.func23, Try.ntmps23
  go_wp2_with (at_make; refine wpList_make_own _ rfl _ _ 22 rfl w.heap.size 3 i0 _ 1 Try.underlying22 hi0 hz0 hz1 .i64 .i64 _ vals.length rfl rfl rfl (by rw [hz2]; omega) (by unfold maxLen; omega) (Nat.le_refl _) ?_)
  intro w2 hown2 hg2
  have hb2 : Below w.heap.size w w2 := ⟨hg2.os, hg2.tape, hg2.output, hg2.size, fun k hk => hg2.block k hk (by simp)⟩
  obtain ⟨Kv, H2⟩ := (Herd.nil w).list (v := .slice (some ⟨w.heap.size, 0, none⟩) 0 vals.length) (l := []) hb2 hown2
  have HH2 := hide H2
  have hO := order_in _ keys w2 (HK.out.below hb2) hn
  clear hown2 hg2 hb2 H2 hi0 hz0 hz1 hz2
  go_wp2_with fail
  refine hO.mono ?_
  rintro e w3 ⟨ao, co, rfl, o3, b3⟩
  have HST : Hid (∃ K1 K2 a c, Value.slice (some ⟨w.heap.size, 0, none⟩) 0 vals.length = .slice a 0 c ∧ Herd w w3 [(K1, tl (.slice a 0 c) ((srt keys vals).take 0)), (K2, tl (.slice ao keys.length co) (orderOf keys))]) := by
    obtain ⟨K2, H3⟩ := HH2.out.list b3 o3
    exact ⟨Kv, K2, _, _, rfl, H3⟩
  clear o3 b3 hO HH2
  go_wp2
  go_loopw [6, 20] (fun sv iv wr => ∃ k : Nat, iv = .int .i64 k ∧ k ≤ keys.length ∧ Hid (∃ K1 K2 a c, sv = .slice a k c ∧ Herd w wr [(K1, tl (.slice a k c) ((srt keys vals).take k)), (K2, tl (.slice ao keys.length co) (orderOf keys))])) (fun _ iv _ => keys.length - (intOf iv).toNat)
  case atStart => exact ⟨0, rfl, Nat.zero_le _, HST.out⟩
  case round =>
    obtain ⟨k, rfl, hk, HR⟩ := hrel
    obtain ⟨K1, K2, a, c, rfl, H⟩ := HR.out
    by_cases hlt : k < keys.length
    · have hlt' : (k : Int) < (keys.length : Int) := by omega
      have hlo : k < (orderOf keys).length := by rw [orderOf_len]; exact hlt
      obtain ⟨b, o, hab, d1⟩ := (H.oi 1 rfl).sb.nth hlo
      have hr1 := order_mem (getD_mem hlo)
      have HT := hide (srt_take (vals := vals) hlt)
      obtain ⟨x, hx⟩ : ∃ x : Nat, (orderOf keys).getD k 0 = x := Int.eq_ofNat_of_zero_le hr1.1
      rw [hx] at d1 hr1 HT
      have hx1 : (x : Int) < (vals.length : Int) := by have := hr1.2; have := HNE.out; omega
      obtain ⟨b', o', hab', d2⟩ := HV.out.cellAt H.bel (k := x) (by omega)
      obtain ⟨y, hy⟩ : ∃ y, vals.getD x 0 = y := ⟨_, rfl⟩
      simp only [Int.toNat_natCast] at HT
      rw [hy] at d2 HT
      have hl2 : ((srt keys vals).take k).length = k := by rw [List.length_take, srt_len]; omega
      have HL2 := hide hl2
      subst hab hab'
      have HH := hide H
      clear hx hy hr1 H HR hl2 hlo
      go_wp2_with (at_builtin; refine wpTakes HH.out HL2.out rfl _ _ rfl y _ rfl rfl (by omega) ?_)
      intro ad cap w4 K4 H4
      have HN : Hid (Herd w w4 [(K4, tl (.slice ad (k + 1) cap) ((srt keys vals).take (k + 1))), (K2, tl (.slice (some ⟨b, o, none⟩) keys.length co) (orderOf keys))]) := by
        show Herd _ _ _
        rw [HT.out]
        exact H4
      clear H4 HH
      go_wp2
      go_roundw
      case rel => exact ⟨k + 1, by go_num, by omega, K4, K2, ad, cap, rfl, HN.out⟩
      case measure => simp [intOf]; omega
    · have hlt' : ¬ (k : Int) < (keys.length : Int) := by omega
      obtain rfl : k = keys.length := by omega
      have HFO : Hid (OI wr w.heap.size (.slice a keys.length c) (srt keys vals)) := by
        have := H.oi 0 rfl
        rw [List.take_of_length_le (by rw [srt_len]; exact Nat.le_refl _)] at this
        exact this
      have HFB := hide H.bel
      clear H HR hk hlt
      go_wp2
      go_ret2
      exact ⟨a, c, rfl, HFO.out, HFB.out⟩

end Go.Proofs.Ytjhgjohnfkgleab
