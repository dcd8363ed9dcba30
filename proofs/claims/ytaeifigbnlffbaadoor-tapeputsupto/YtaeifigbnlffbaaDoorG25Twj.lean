import Derived.Test.YtaeifigbnlffbaaDoorG24Twi
namespace Go.Proofs.YtaeifigbnlffbaaDoor
open Go.RowKit Go.Maps
set_option maxRecDepth 20000
set_option linter.unusedVariables false
set_option linter.unusedSimpArgs false

/-! Rows of files with room behind them. -/

theorem frow_app (A B : List Fv) : frow (A ++ B) = frow A ++ frow B := by simp [frow]

def BG (w : World) (g : Nat) (L : List Fv) : Prop := ∃ Z, w.heap[g]? = some (.cells (frow L ++ Z).toArray 39 (0, 0))

theorem BG.lt {w : World} {g : Nat} {L : List Fv} (h : BG w g L) : g < w.heap.size := by
  obtain ⟨Z, h⟩ := h
  exact (Array.getElem?_eq_some_iff.1 h).1

theorem BG.keep {w w' : World} {g : Nat} {L : List Fv} (h : BG w g L) (hb : w'.heap[g]? = w.heap[g]?) : BG w' g L := by
  obtain ⟨Z, h⟩ := h
  exact ⟨Z, hb.trans h⟩

theorem BG.cell {w : World} {g : Nat} {L : List Fv} (h : BG w g L) {i j : Nat} {p : Fv} {u : Value} (hp : L[i]? = some p) (hu : (fcs p.1 p.2)[j]? = some u) : w.cell? ⟨g, i * 10 + j, none⟩ = some u := by
  obtain ⟨Z, h⟩ := h
  have e := frow_get L i j p u hp hu
  unfold World.cell?
  rw [h]
  simp only [List.getElem?_toArray]
  rw [List.getElem?_append_left (List.getElem?_eq_some_iff.1 e).1]
  exact e

theorem BG.rf {w : World} {g : Nat} {M R : List Fv} (h : BG w g (M ++ R)) (hd : ∀ p ∈ M, SB w p.2 p.1.dt) {c : Nat} (hc : M.length ≤ c) (hm : c ≤ 9223372036854775807) : RF w (.slice (some ⟨g, 0, none⟩) M.length c) M where
  shape := ⟨_, _, rfl, hc, hm⟩
  get := fun i p hp => ⟨g, 0, c, rfl, fun j u hu => by
    rw [Nat.zero_add]
    exact h.cell (by rw [List.getElem?_append_left (List.getElem?_eq_some_iff.1 hp).1]; exact hp) hu⟩
  data := hd

theorem BG.set {w : World} {g : Nat} {L : List Fv} (h : BG w g L) {i : Nat} {f : Fl} {dv : Value} (hp : L[i]? = some (f, dv)) (u : Value) : BG (w.setCell ⟨g, i * 10 + 9, none⟩ u) g (L.set i (f, u)) := by
  obtain ⟨Z, h⟩ := h
  refine ⟨Z, ?_⟩
  have hi := (List.getElem?_eq_some_iff.1 hp).1
  rw [heap_setCell_same w g _ _ _ u h, ← frow_set L i f dv u hp]
  simp only [List.setIfInBounds_toArray]
  rw [List.set_append_left _ _ (by rw [frow_len]; omega)]

theorem BG.frozen {w : World} {g : Nat} {L : List Fv} (h : BG w g L) (i : Nat) : w.frozen? ⟨g, i, none⟩ = false := by
  obtain ⟨Z, h⟩ := h
  simp [World.frozen?, h]

theorem BG.of {w : World} {base k : Nat} {v : Value} {L : List Fv} (h : w.ownsRow base 39 10 v k (frow L)) (hk : 0 < k) : ∃ g cap, v = .slice (some ⟨g, 0, none⟩) k cap ∧ base ≤ g ∧ BG w g L ∧ k ≤ cap ∧ cap ≤ 9223372036854775807 := by
  rcases h.2 with ⟨_, h0⟩ | ⟨g, cap, cur, rfl, h1, h2, h3, h4, h5, h6⟩
  · omega
  · refine ⟨g, cap, rfl, h1, ⟨cur.toList.drop (k * 10), ?_⟩, h3, ?_⟩
    · rw [← h6, List.take_append_drop]
      exact h2
    · unfold maxLen at h4; omega

theorem BF.owns {w : World} {g base : Nat} {L : List Fv} (h : BF w g L) (hb : base ≤ g) (hm : L.length ≤ 1000000) : w.ownsRow base 39 10 (.slice (some ⟨g, 0, none⟩) L.length L.length) L.length (frow L) :=
  ⟨frow_len L, .inr ⟨g, L.length, (frow L).toArray, rfl, hb, h, Nat.le_refl _, by unfold maxLen; omega, by simp [frow_len], by simp only []; exact List.take_of_length_le (by rw [frow_len]; exact Nat.le_refl _)⟩⟩

def mkF : Fl := { nm := ⟨#[109, 97, 114, 107]⟩, lk := ⟨#[]⟩, us := ⟨#[]⟩, tm := ⟨#[]⟩, kd := 0, md := 0, ow := 0, gr := 0, ti := 0, dt := [] }
def mkV : Fv := (mkF, .slice none 0 0)

theorem sb_pre {w : World} {g n c : Nat} {a b : List Int} (h : SB w (.slice (some ⟨g, 0, none⟩) n c) (a ++ b)) (hn : n = (a ++ b).length) : SB w (.slice (some ⟨g, 0, none⟩) a.length c) a := by
  obtain ⟨ao, c', e, q1, q2, q3, q4⟩ := h
  simp only [Value.slice.injEq] at e
  obtain ⟨rfl, -, rfl⟩ := e
  refine ⟨_, _, rfl, by rw [List.length_append] at q1; omega, q2, fun q => (by cases q), fun x hx i hi => ?_⟩
  have := q4 x hx i (by rw [List.length_append]; omega)
  rw [this]
  simp [hi, List.getElem?_append_left hi]
end Go.Proofs.YtaeifigbnlffbaaDoor

