import Derived.Test.YtaeifigbnlffbaaDoorG26Twk
import Derived.Test.YtaeifigbnlffbaaDoorG02OpenA
import Derived.Lib.SmallJoins
namespace Go.Proofs.YtaeifigbnlffbaaDoor
open Go.ChangeShapes Go.WideShapes Go.ChangeAt Go.RowKit Go.Joins Go.Deep
set_option maxRecDepth 20000
set_option linter.unusedVariables false
set_option linter.unusedSimpArgs false

/-! A row of files that is handed in. -/

theorem flist10 {α : Type} {l : List α} (h : l.length = 10) : ∃ a0 a1 a2 a3 a4 a5 a6 a7 a8 a9, l = [a0, a1, a2, a3, a4, a5, a6, a7, a8, a9] := by
  match l, h with
  | [a0, a1, a2, a3, a4, a5, a6, a7, a8, a9], _ => exact ⟨a0, a1, a2, a3, a4, a5, a6, a7, a8, a9, rfl⟩

theorem cellsFile : Tryd.prog.cellsOf 39 = 10 := by kernel_rfl

def FD {H : Type} (f : Fl) (d : DataW H) : Prop :=
  ∃ x4 x5 x6 x7 x8 dd, d = .agg [.lit (.string f.nm.data.toList), .lit (.string f.lk.data.toList), .lit (.string f.us.data.toList), .lit (.string f.tm.data.toList), x4, x5, x6, x7, x8, dd] ∧ (f.dt = [] ∨ ∃ elems spare, dd = .slice elems spare ∧ f.dt.length ≤ elems.length + spare.length)

theorem bytes_cell {W : World} {H : Type} {enc : TypeId × Value → H} {m : Nat} {c : Value} {y : DataW H × List MemPlace} (h : DataW.trod enc Tryd.prog W 0 (fun _ => true) true m 22 [c] = some y) : ∃ ao len cap, c = .slice ao len cap := by
  rcases open_slice Tryd.underlying22 h with ⟨hcs, _⟩ | ⟨a, ln, cp, m, n, D, Pl, hcs, _⟩
  · simp at hcs; exact ⟨_, _, _, hcs⟩
  · simp at hcs; exact ⟨_, _, _, hcs⟩

theorem open_fileC {H : Type} {enc : TypeId × Value → H} {W : World} {n : Nat} {cs : List Value} {y : DataW H × List MemPlace} (h : DataW.trod enc Tryd.prog W 0 (fun _ => true) true n 39 cs = some y) :
    ∃ p : Fv, cs = (fcs p.1 p.2).toList ∧ SB W p.2 p.1.dt ∧ FD p.1 y.1 := by
  obtain ⟨xs, m, _, rfl, hl, hxl, hf⟩ := DataW.trod_struct Tryd.underlying39 h
  rw [cellsFile] at hl
  obtain ⟨c0, c1, c2, c3, c4, c5, c6, c7, c8, c9, rfl⟩ := flist10 hl
  obtain ⟨y0, y1, y2, y3, y4, y5, y6, y7, y8, y9, rfl⟩ := flist10 hxl
  have h0 : DataW.trod enc Tryd.prog W 0 (fun _ => true) true m 9 (([c0, c1, c2, c3, c4, c5, c6, c7, c8, c9].drop 0).take (Tryd.prog.cellsOf 9)) = some y0 := hf 0 _ rfl
  have h1 : DataW.trod enc Tryd.prog W 0 (fun _ => true) true m 9 (([c0, c1, c2, c3, c4, c5, c6, c7, c8, c9].drop 1).take (Tryd.prog.cellsOf 9)) = some y1 := hf 1 _ rfl
  have h2 : DataW.trod enc Tryd.prog W 0 (fun _ => true) true m 9 (([c0, c1, c2, c3, c4, c5, c6, c7, c8, c9].drop 2).take (Tryd.prog.cellsOf 9)) = some y2 := hf 2 _ rfl
  have h3 : DataW.trod enc Tryd.prog W 0 (fun _ => true) true m 9 (([c0, c1, c2, c3, c4, c5, c6, c7, c8, c9].drop 3).take (Tryd.prog.cellsOf 9)) = some y3 := hf 3 _ rfl
  have h4 : DataW.trod enc Tryd.prog W 0 (fun _ => true) true m 3 (([c0, c1, c2, c3, c4, c5, c6, c7, c8, c9].drop 4).take (Tryd.prog.cellsOf 3)) = some y4 := hf 4 _ rfl
  have h5 : DataW.trod enc Tryd.prog W 0 (fun _ => true) true m 3 (([c0, c1, c2, c3, c4, c5, c6, c7, c8, c9].drop 5).take (Tryd.prog.cellsOf 3)) = some y5 := hf 5 _ rfl
  have h6 : DataW.trod enc Tryd.prog W 0 (fun _ => true) true m 3 (([c0, c1, c2, c3, c4, c5, c6, c7, c8, c9].drop 6).take (Tryd.prog.cellsOf 3)) = some y6 := hf 6 _ rfl
  have h7 : DataW.trod enc Tryd.prog W 0 (fun _ => true) true m 3 (([c0, c1, c2, c3, c4, c5, c6, c7, c8, c9].drop 7).take (Tryd.prog.cellsOf 3)) = some y7 := hf 7 _ rfl
  have h8 : DataW.trod enc Tryd.prog W 0 (fun _ => true) true m 3 (([c0, c1, c2, c3, c4, c5, c6, c7, c8, c9].drop 8).take (Tryd.prog.cellsOf 3)) = some y8 := hf 8 _ rfl
  have h9 : DataW.trod enc Tryd.prog W 0 (fun _ => true) true m 22 (([c0, c1, c2, c3, c4, c5, c6, c7, c8, c9].drop 9).take (Tryd.prog.cellsOf 22)) = some y9 := hf 9 _ rfl
  rw [show Tryd.prog.cellsOf 3 = 1 by kernel_rfl] at h4 h5 h6 h7 h8
  rw [show Tryd.prog.cellsOf 9 = 1 by kernel_rfl] at h0 h1 h2 h3
  rw [show Tryd.prog.cellsOf 22 = 1 by kernel_rfl] at h9
  simp only [List.drop, List.take] at h0 h1 h2 h3 h4 h5 h6 h7 h8 h9
  obtain ⟨k0, e0, q0, _⟩ := DataW.trod_string Tryd.underlying9 h0
  obtain ⟨k1, e1, q1, _⟩ := DataW.trod_string Tryd.underlying9 h1
  obtain ⟨k2, e2, q2, _⟩ := DataW.trod_string Tryd.underlying9 h2
  obtain ⟨k3, e3, q3, _⟩ := DataW.trod_string Tryd.underlying9 h3
  obtain ⟨k4, e4, _, _⟩ := DataW.trod_int Tryd.underlying3 h4
  obtain ⟨k5, e5, _, _⟩ := DataW.trod_int Tryd.underlying3 h5
  obtain ⟨k6, e6, _, _⟩ := DataW.trod_int Tryd.underlying3 h6
  obtain ⟨k7, e7, _, _⟩ := DataW.trod_int Tryd.underlying3 h7
  obtain ⟨k8, e8, _, _⟩ := DataW.trod_int Tryd.underlying3 h8
  obtain ⟨ao, len, cap, rfl⟩ := bytes_cell h9
  obtain ⟨l, hsb, hby, hl9⟩ := open_bytes (d := y9.1) (ps := y9.2) ⟨m, h9⟩
  simp at e0 e1 e2 e3 e4 e5 e6 e7 e8
  subst e0 e1 e2 e3 e4 e5 e6 e7 e8
  refine ⟨(⟨k0, k1, k2, k3, k4, k5, k6, k7, k8, l⟩, .slice ao len cap), rfl, hsb, y4.1, y5.1, y6.1, y7.1, y8.1, y9.1, ?_, hl9⟩
  rw [q0, q1, q2, q3]
  rfl

theorem open_files {H : Type} {enc : TypeId × Value → H} {W : World} {ao : Option Addr} {len cap : Nat} {d : DataW H} {ps : List MemPlace}
    (h : DataW.Trod enc Tryd.prog W 0 (fun _ => true) true 23 (.slice ao len cap) d ps) :
    ∃ L : List Fv, RF W (.slice ao len cap) L ∧ (L = [] ∨ ∃ elems spare, d = .slice elems spare ∧ elems.length = L.length ∧ (∀ p ∈ L, ∃ y ∈ elems, FD p.1 y) ∧ ∀ y ∈ elems, ∃ p ∈ L, FD p.1 y) := by
  obtain ⟨fuel, hf⟩ := h
  rcases open_slice Tryd.underlying23 hf with ⟨hcs, _⟩ | ⟨a, ln, cp, m, n, D, Pl, hcs, _, hl, hm, hmm, hx, hel⟩
  · simp [Value.cells] at hcs
    obtain ⟨rfl, rfl, rfl⟩ := hcs
    exact ⟨[], ⟨⟨none, 0, rfl, Nat.le_refl _, by omega⟩, fun i p hp => by simp at hp, fun p hp => by cases hp⟩, .inl rfl⟩
  · simp [Value.cells] at hcs
    obtain ⟨rfl, rfl, rfl⟩ := hcs
    simp only [if_true] at hmm
    unfold maxLen at hm
    by_cases h0 : len = 0
    · subst h0
      exact ⟨[], ⟨⟨some a, cap, rfl, Nat.zero_le _, hm⟩, fun i p hp => by simp at hp, fun p hp => by cases hp⟩, .inl rfl⟩
    have hab' : ∃ b' of', a = ⟨b', of', none⟩ := by
      obtain ⟨cs0, hc0, ht0⟩ := hel 0 (by omega)
      rw [cellsFile] at hc0
      obtain ⟨_, hl0, hcell0⟩ := World.cells?_some hc0
      have h0 := hcell0 0 (by omega)
      rw [List.getElem?_eq_getElem (show 0 < cs0.length by omega), show (a.add (0 * 10)).add 0 = a.add 0 by simp [Addr.add]] at h0
      exact addr_lit h0
    obtain ⟨b', of', rfl⟩ := hab'
    obtain ⟨L, hlo, hL⟩ := exists_list (fun i (p : Fv) => (∀ j u, (fcs p.1 p.2)[j]? = some u → W.cell? ⟨b', of' + i * 10 + j, none⟩ = some u) ∧ SB W p.2 p.1.dt ∧ FD p.1 (D i)) len (fun i hi => by
      obtain ⟨cs', hc, ht⟩ := hel i (by omega)
      obtain ⟨p, rfl, hsb, hd⟩ := open_fileC ht
      rw [cellsFile] at hc
      obtain ⟨_, _, hcell⟩ := World.cells?_some hc
      refine ⟨p, fun j u hu => ?_, hsb, hd⟩
      have hj : j < 10 := (Array.getElem?_eq_some_iff.1 hu).1
      have := hcell j hj
      rw [Addr.add_lit, Addr.add_lit] at this
      rw [this, Array.getElem?_toList]
      exact hu)
    simp only [Prod.mk.injEq] at hx
    refine ⟨L, ⟨⟨some ⟨b', of', none⟩, cap, by rw [hlo], by omega, hm⟩, fun i p hp => ⟨b', of', cap, by rw [hlo], (hL i p hp).1⟩, fun p hp => ?_⟩, .inr ⟨_, _, hx.1, by simp [hlo], fun p hp => ?_, fun y hy => ?_⟩⟩
    · obtain ⟨i, hi⟩ := List.getElem?_of_mem hp
      exact (hL i p hi).2.1
    · obtain ⟨i, hi⟩ := List.getElem?_of_mem hp
      have hlt := (List.getElem?_eq_some_iff.1 hi).1
      exact ⟨D i, by simp; exact ⟨i, by omega, rfl⟩, (hL i p hi).2.2⟩
    · simp at hy
      obtain ⟨i, hi, rfl⟩ := hy
      obtain ⟨p, hp⟩ : ∃ p, L[i]? = some p := ⟨L[i]'(by omega), by simp⟩
      exact ⟨p, List.mem_of_getElem? hp, (hL i p hp).2.2⟩

theorem fb_one {H : Type} (d : DataW H) : 1 ≤ Rows.uptoBulk d := by
  cases d with
  | lit l => cases l <;> simp [Rows.uptoBulk]
  | _ => simp [Rows.uptoBulk]

theorem fb_mem {H : Type} {d : DataW H} : ∀ {l : List (DataW H)}, d ∈ l → Rows.uptoBulk d ≤ Rows.uptoBulkAll l
  | x :: r, h => by
    simp only [Rows.uptoBulkAll]
    rcases List.mem_cons.1 h with rfl | h
    · omega
    · have := fb_mem h; omega

theorem fb_len {H : Type} (k : Nat) : ∀ (l : List (DataW H)), (∀ y ∈ l, k ≤ Rows.uptoBulk y) → l.length * k ≤ Rows.uptoBulkAll l
  | [], _ => by simp [Rows.uptoBulkAll]
  | x :: r, h => by
    have h1 := h x (List.mem_cons_self ..)
    have h2 := fb_len k r fun y hy => h y (List.mem_cons_of_mem _ hy)
    simp only [Rows.uptoBulkAll, List.length_cons, Nat.succ_mul]
    omega

theorem fb_str {H : Type} (s : ByteArray) : Rows.uptoBulk (DataW.lit (.string s.data.toList) : DataW H) = s.size + 1 := by
  have : s.data.toList.length = s.size := by rw [Array.length_toList]; rfl
  simp [Rows.uptoBulk, this]

theorem bulk_files {H : Type} {ds : List (DataW H)} {d : DataW H} {L : List Fv} (hk : Rows.uptoSmall H ds = true) (hd : d ∈ ds)
    (hl : L = [] ∨ ∃ elems spare, d = .slice elems spare ∧ elems.length = L.length ∧ (∀ p ∈ L, ∃ y ∈ elems, FD p.1 y) ∧ ∀ y ∈ elems, ∃ p ∈ L, FD p.1 y) :
    L.length ≤ 1000000 - 1 ∧ (∀ p ∈ L, p.1.dt.length ≤ 1048576) ∧ ∀ p ∈ L, p.1.nm.size ≤ 1048576 ∧ p.1.lk.size ≤ 1048576 ∧ p.1.us.size ≤ 1048576 ∧ p.1.tm.size ≤ 1048576 := by
  rcases hl with rfl | ⟨e, s, rfl, h, hy, hz⟩
  · exact ⟨by simp, (fun l hl => by cases hl), (fun l hl => by cases hl)⟩
  · have h0 : Rows.uptoBulkAll ds ≤ 1048576 := of_decide_eq_true hk
    have h3 := fb_mem hd
    simp only [Rows.uptoBulk] at h3
    have h2 := fb_len 2 e fun y hy' => by
      obtain ⟨p, -, x4, x5, x6, x7, x8, dd, rfl, -⟩ := hz y hy'
      simp only [Rows.uptoBulk, Rows.uptoBulkAll, fb_str]
      omega
    have key : ∀ p ∈ L, p.1.dt.length ≤ 1048576 ∧ p.1.nm.size ≤ 1048576 ∧ p.1.lk.size ≤ 1048576 ∧ p.1.us.size ≤ 1048576 ∧ p.1.tm.size ≤ 1048576 := fun p hp => by
      obtain ⟨y, hye, x4, x5, x6, x7, x8, dd, rfl, hdt⟩ := hy p hp
      have h4 := fb_mem hye
      have hdd : p.1.dt.length ≤ Rows.uptoBulk dd := by
        rcases hdt with q | ⟨e2, s2, rfl, q⟩
        · rw [q]; exact Nat.zero_le _
        · have a1 := fb_len 1 e2 fun y _ => fb_one y
          have a2 := fb_len 1 s2 fun y _ => fb_one y
          simp only [Rows.uptoBulk]
          omega
      rw [Rows.uptoBulk] at h4
      simp only [Rows.uptoBulkAll, fb_str] at h4
      omega
    exact ⟨by omega, fun p hp => (key p hp).1, fun p hp => (key p hp).2⟩
end Go.Proofs.YtaeifigbnlffbaaDoor

