import Derived.Test.YtjdgeonlbjokaaaGTpo
namespace Go.Proofs.Ytjdgeonlbjokaaa
open Go.RowKit Go.Maps
set_option maxRecDepth 20000
set_option linter.unusedVariables false

/-- The blocks of the teller. -/
def TelB (g m : Nat) (v : Value) (f : Int × Int × Int → Value) (b : Nat) : Prop := b = g ∨ b = m ∨ v.ownBlock = some b ∨ ∃ k, Key3 k ∧ (f k).ownBlock = some b

/-- While its blocks stay, the teller stays. -/
theorem Tlr.kept {w w' : World} {base g m N W C a n nx : Nat} {v : Value} {D : List Int} {z : Bool} {f : Int × Int × Int → Value} (h : Tlr w base g m N v D W C z f a n nx) (hb : ∀ b, b < w.heap.size → TelB g m v f b → w'.heap[b]? = w.heap[b]?) : Tlr w' base g m N v D W C z f a n nx where
  box := (hb g h.lt.1 (.inl rfl)).trans h.box
  bg := h.bg
  bm := h.bm
  gm := h.gm
  dat := h.dat.move fun ad _ ha hbb => (World.cell?_of_block (hb ad.block (World.block_lt_of_cell? w ad ha) (.inr (.inr (.inl hbb))))).trans ha
  low := h.low
  map := h.map.move (hb m h.lt.2 (.inr (.inl rfl)))
  rows := fun q hq => (h.rows q hq).move fun b hbb => hb b ((h.rows q hq).lt b hbb).2 (.inr (.inr (.inr ⟨q, hq, hbb⟩)))
  off := h.off
  sep := h.sep

/-- What the teller does leaves a stranger's block alone, and it stays a stranger's. -/
theorem FT.stranger {w w' : World} {g m : Nat} {v : Value} {f f' : Int × Int × Int → Value} (h : FT g m f f' w w') {b : Nat} (hb : b < w.heap.size) (hn : ¬ TelB g m v f b) : w'.heap[b]? = w.heap[b]? ∧ ¬ TelB g m v f' b := by
  obtain ⟨e1, e2⟩ := h.2 b hb (fun e => hn (.inl e)) (fun e => hn (.inr (.inl e))) (fun k hk e => hn (.inr (.inr (.inr ⟨k, hk, e⟩))))
  refine ⟨e1, fun q => ?_⟩
  rcases q with q | q | q | ⟨k, hk, q⟩
  · exact hn (.inl q)
  · exact hn (.inr (.inl q))
  · exact hn (.inr (.inr (.inl q)))
  · exact e2 k hk q

/-- The teller at its beginning. -/
theorem Tlr.start {w : World} {base g m W C : Nat} {v : Value} {D : List Int} {z : Bool} (hb : TB w g v W C z m 0) (hg : base ≤ g) (hm : base ≤ m) (hgm : g ≠ m) (hd : SB w v D) (hl : ∀ k, v.ownBlock = some k → k < base) (hmp : w.heap[m]? = some (.map #[] 0)) : Tlx w base g m v D W C z (fun _ => .slice none 0 0) 0 where
  box := hb
  bg := hg
  bm := hm
  gm := hgm
  dat := hd
  low := hl
  map := MP.new hmp
  rows := fun k _ => by
    rw [Nat.zero_sub, Nat.zero_sub, plc_zero]
    exact OX.nil _ _
  off := fun k b _ h => by cases h
  sep := fun k q b _ _ _ h _ => by cases h
end Go.Proofs.Ytjdgeonlbjokaaa

