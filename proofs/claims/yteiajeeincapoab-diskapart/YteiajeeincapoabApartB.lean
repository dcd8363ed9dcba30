import Derived.Test.YteiajeeincapoabApartY
namespace Go.Proofs.Yteiajeeincapoab
open Go.RowKit Go.Maps

def opW (off : Int) (data : List Int) : OpP := { kind := 2, a := off, b := 0, data := data, size := 0, sec := [], rest := 0 }

theorem write_run {st : St} {c n : Nat} (h : Run st c n) (off data) (hn : n + 1 ≤ 2000000000000) (h0 : 0 ≤ off) (h1 : off + (data : List Int).length ≤ (c : Int)) : Run (writeSt st off data) c (n + 1) ∧ writeErr st off data.length = 0 := by
  have h2 := h.step (opW off data) hn
  have h3 := h.err (opW off data)
  have e1 : opSt st (opW off data) = writeSt st off data := if_pos rfl
  have e2 : opErr st (opW off data) = writeErr st off data.length := if_pos rfl
  have e3 : refN (opW off data) c = 0 := by
    unfold refN
    rw [if_pos (show (opW off data).kind = 2 from rfl), if_neg (by show ¬ off < 0; omega), if_neg (by show ¬ (c : Int) < off + data.length; omega)]
  rw [e1] at h2
  rw [e2, e3] at h3
  exact ⟨h2, h3⟩

theorem read_part {st : St} (hd : st.dead = false) (a n : Nat) (h : a + n ≤ st.now.length) : readErr st a n = 0 ∧ readL st a n = (st.now.drop a).take n ∧ (readL st a n).length = n := by
  have e : readErr st a n = 0 := by
    unfold readErr
    rw [hd, if_neg (by simp), if_neg (by omega), if_neg (by omega), if_neg (by omega)]
  have e2 : readL st a n = (st.now.drop a).take n := by
    unfold readL
    rw [if_pos e]
    simp
  refine ⟨e, e2, ?_⟩
  rw [e2]
  simp
  omega

theorem read_ok {w : World} {K : Nat → Nat} {g : Nat} {st : St} (h : Rep w K g st) (hd : st.dead = false) (hl : st.now.length ≤ 16777216) (A N : Int) (a n : Nat) (hA : A = a) (hN : N = n) (hn : a + n ≤ st.now.length) :
    Calls Try.prog 25 #[.pointer (some ⟨g, 0, none⟩), .int .i64 A, .int .i64 N] w fun e w' => ∃ b c, e = .returned (.tuple #[.slice b n c, .int .i64 0]) ∧ OB w' w.heap.size (.slice b n c) ((st.now.drop a).take n) ∧ Below w.heap.size w w' := by
  subst hA hN
  obtain ⟨e1, e2, e3⟩ := read_part hd a n hn
  have hr := read_any (a : Int) (n : Int) h hl
  rw [e1, e3, e2] at hr
  exact hr

theorem data_role {W : World} {K : Nat → Nat} {v : Value} {data : List Int} (h : SB W v data) (h0 : 0 < data.length) (hu : ∀ k, K k ≠ 0 → W.heap.size ≤ k) : Role K v 0 := by
  obtain ⟨ao, cap, rfl, h1, h2, h3, h4⟩ := h
  intro k hk
  cases ao with
  | none => simp [Value.ownBlock] at hk
  | some x =>
    simp only [Value.ownBlock, Option.some.injEq] at hk
    subst hk
    have := World.block_lt_of_cell? _ _ (h4 x rfl 0 h0)
    rw [add_block] at this
    by_cases e : K x.block = 0
    · exact e
    · have := hu _ e; omega

set_option maxHeartbeats 2000000 in
theorem write_data {W w : World} {K : Nat → Nat} {g : Nat} {st : St} {av : Option Addr} {kv c n : Nat} {data : List Int} (h : Rep w K g st) (hI : Run st c n) (hn : n + 1 ≤ 2000000000000) (hv : SB W (.slice av data.length kv) data) (hb : Below W.heap.size W w) (hu : ∀ k, K k ≠ 0 → W.heap.size ≤ k) (hc : data.length ≤ c) :
    Calls Try.prog 21 #[.pointer (some ⟨g, 0, none⟩), .int .i64 0, .slice av data.length kv] w fun e w' => e = .returned (.int .i64 0) ∧ ∃ K', Rep w' K' g (writeSt st 0 data) ∧ Fr K K' w w' := by
  have herr := (write_run hI 0 data hn (by omega) (by omega)).2
  by_cases h0 : data.length = 0
  · have hsp : spendNo st = false := by unfold spendNo; rw [hI.fused]; rfl
    have hws : writeSt st 0 data = spendSt st := by
      unfold writeSt
      rw [hI.dead, hsp, if_neg (by simp), if_neg (by omega), if_neg (by rw [hI.cap]; omega), if_neg (by simp), if_pos h0]
    have HX : Hid (spendErr st = 0) := by show _ = _; unfold spendErr; rw [hsp]; rfl
    have hc1 := hI.inv.s.calls
    have hc2 := hI.inv.s.left
    have hcap := hI.inv.p.cap
    have HWS := hide hws
    have HR := hide h
    obtain ⟨vn, vd, m, vs, D, hV⟩ := h
    obtain ⟨c0, _⟩ := hV.dc.at
    have hrd := hide (ready_any hV.dc)
    rw [hI.dead] at hrd
    rw [h0]
    clear hV hws hI hv hb hu herr hsp
    go_enter Try.func21, Try.ntmps21
    go_wp2_with fail
    refine hrd.out.mono ?_
    rintro e w ⟨rfl, rfl⟩
    go_wp2_with fail
    refine (beyond_no 0 0 st.cap _ (by omega) (by omega) (by omega) (by omega)).mono ?_
    rintro e w ⟨rfl, rfl⟩
    go_wp2_with fail
    refine (spend_any HR.out (by omega) (by omega)).mono ?_
    rintro e w2 ⟨rfl, hR2, hF2⟩
    have HR2 := hide hR2
    have HF2 := hide hF2
    clear hR2 hF2 c0
    rw [HX.out]
    go_wp2
    go_ret
    rw [HWS.out]
    exact ⟨rfl, K, HR2.out, HF2.out⟩
  · have := write_any 0 h hI.inv.p hI.inv.s (hv.below hb) (data_role hv (by omega) hu)
    rw [herr] at this
    exact this



theorem Yard.lists {W w : World} {bs ls : List (Value × List Int)} {ds : List ((Nat → Nat) × Nat × St)} (h : Yard W w bs ds) (f : Nat → Nat) (hf : ∀ (i : Nat) (p : Value × List Int), ls[i]? = some p → bs[f i]? = some p) (hinj : ∀ i j, f i = f j → i = j) (hfew : ls.length ≤ 100) (hlen : ∀ p ∈ ls, p.2.length ≤ 16777216) :
    Lists (w.alloc (.cells (ls.map (·.1)).toArray 22)) W.heap.size ls w.heap.size := by
  refine ⟨fun j p hp => (h.ob _ p (hf j p hp)).below ((Below.refl _ _).alloc (Nat.le_refl _) _) (Nat.le_refl _), fun i j p q hp hq hne => h.bsep _ _ p q (hf i p hp) (hf j q hq) (fun e => hne (hinj i j e)), heap_alloc_new _ _, fun p hp e => ?_, hfew, hlen, by rw [size_alloc']; have := h.bel.size; omega⟩
  obtain ⟨i, hi, rfl⟩ := List.getElem_of_mem hp
  have := ((h.ob _ _ (hf i _ (List.getElem?_eq_getElem hi))).lt _ e).2
  omega

def pick7 (i : Nat) : Nat := if i = 0 then 2 else i + 3

theorem pick7_inj (i j : Nat) (h : pick7 i = pick7 j) : i = j := by
  unfold pick7 at h
  split at h <;> split at h <;> omega

theorem pick7_not (i : Nat) : pick7 i ≠ 3 := by
  unfold pick7
  split <;> omega

theorem Yard.kept {W w w' : World} {bs ls : List (Value × List Int)} {ds : List ((Nat → Nat) × Nat × St)} (h : Yard W w bs ds) (hk : Keep ls w w') (hf : ∀ (i : Nat) (p : Value × List Int), ls[i]? = some p → bs[pick7 i]? = some p) {v : Value} {l : List Int} (hn : bs[3]? = some (v, l)) : Yard W w' [(v, l)] ds := by
  refine h.keep hk (fun p hp => ?_) 3 hn (fun p hp => ?_)
  · obtain ⟨i, hi, rfl⟩ := List.getElem_of_mem hp
    exact ⟨_, hf i _ (List.getElem?_eq_getElem hi)⟩
  · obtain ⟨i, hi, rfl⟩ := List.getElem_of_mem hp
    exact ⟨_, pick7_not i, hf i _ (List.getElem?_eq_getElem hi)⟩

theorem pick7_ok {a b c d e f g x y z : Value × List Int} : ∀ (i : Nat) (p : Value × List Int), [c, e, f, g, x, y, z][i]? = some p → [a, b, c, d, e, f, g, x, y, z][pick7 i]? = some p
  | 0, _, h => h
  | 1, _, h => h
  | 2, _, h => h
  | 3, _, h => h
  | 4, _, h => h
  | 5, _, h => h
  | 6, _, h => h
  | n + 7, _, h => by simp at h


theorem apart_own {W w : World} {ds : List ((Nat → Nat) × Nat × St)} {a b c d e f g x y z : Value × List Int} (h : Yard W w [a, b, c, d, e, f, g, x, y, z] ds) (h1 : c.2.length ≤ 16777216) (h2 : e.2.length ≤ 16777216) (h3 : f.2.length ≤ 16777216) (h4 : g.2.length ≤ 16777216) (h5 : x.2.length ≤ 16777216) (h6 : y.2.length ≤ 16777216) (h7 : z.2.length ≤ 16777216) :
    Calls Try.prog 27 #[.slice (some ⟨w.heap.size, 0, none⟩) 7 7] (w.alloc (.cells #[c.1, e.1, f.1, g.1, x.1, y.1, z.1] 22)) fun e w' => e = .returned (.bool true) ∧ Yard W w' [d] ds := by
  have hli := h.lists (ls := [c, e, f, g, x, y, z]) pick7 pick7_ok pick7_inj (by simp) (by
    intro p hp
    simp only [List.mem_cons, List.not_mem_nil, or_false] at hp
    rcases hp with rfl | rfl | rfl | rfl | rfl | rfl | rfl <;> assumption)
  refine Calls.mono (own_walk _ W.heap.size w.heap.size [c, e, f, g, x, y, z] hli) ?_
  rintro e w' ⟨rfl, hk⟩
  exact ⟨rfl, (h.below ((Below.refl _ _).alloc (Nat.le_refl _) _)).kept hk pick7_ok rfl⟩
end Go.Proofs.Yteiajeeincapoab
