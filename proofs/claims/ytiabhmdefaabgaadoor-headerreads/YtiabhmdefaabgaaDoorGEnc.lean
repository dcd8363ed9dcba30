import Derived.Test.YtiabhmdefaabgaaDoorGBok
import Derived.Test.YtiabhmdefaabgaaDoorG3r
import Derived.Test.YtiabhmdefaabgaaDoorG3b
namespace Go.Proofs.YtiabhmdefaabgaaDoor
open Go.RowKit Go.Maps
set_option maxRecDepth 20000

theorem us_le {l : List Int} (h : bkE l = 0) : us l 16 ≤ 32768 := by
  obtain ⟨hl, h2, h3⟩ := bkE_zero h
  rw [us_sum hl.2]
  unfold shp at h2 h3
  by_cases c0 : tsum l = 0
  · have := (tsum_zero hl).1 c0
    have hz : ∀ n, n ≤ 16 → us l n = 0 := by
      intro n
      induction n with
      | zero => intro _; rfl
      | succ n ih => intro hn; simp only [us]; rw [ih (by omega), this n (by omega)]; simp
    rw [← us_sum hl.2, hz 16 (by omega)]; omega
  · rw [if_neg c0] at h2 h3
    by_cases c1 : tsum l = 1 ∧ usum l = 16384
    · rw [c1.2]; omega
    · rw [if_neg c1] at h2 h3
      by_cases c2 : 32768 < usum l
      · rw [if_pos c2] at h3; exact absurd rfl h3
      · omega

theorem wpList_loadB2 {ops : Array Oper} {rest : List Oper} {a : Act} {w : World} {Q : Exit → Act → World → Prop} {dst : Option Tmp} {x : Operand} {ty : TypeId} {pos : String} {after : Array Edge} (g : Nat) (vl vw : Value)
    (hx : a.eval x = .pointer (some ⟨g, 0, none⟩)) (hg : w.heap[g]? = some (.cells #[vl, vw] 133 (0, 0))) (h : wpList Tryd.prog ops Q rest (a.put dst (.agg #[vl, vw])) w) :
    wpList Tryd.prog ops Q ({ dst := dst, op := .load 133 x, type := ty, pos := pos, after := after, guard := none } :: rest) a w :=
  wpList_load_row rfl 133 x rfl g hx 133 #[vl, vw] (0, 0) _ hg Tryd.underlying133 rfl (by kernel_rfl) h

/-- How long a symbol's word is. -/
def lnI (l : List Int) (s : Int) : Nat := if 0 ≤ s ∧ s < l.length then ln l s.toNat else 0

/-- A word's bits, the first one first. -/
def wb (l : List Int) (s : Nat) : List Int := (bts (wd l s) (ln l s)).reverse

theorem wb_len (l : List Int) (s : Nat) : (wb l s).length = ln l s := by unfold wb; rw [List.length_reverse, length_bts]

theorem wb_bit (l : List Int) (s : Nat) : Bit (wb l s) := fun b hb => bit_bts _ _ b (List.mem_reverse.1 hb)

def epE (l row : List Int) (s : Int) : Int := if lnI l s = 0 then 56 else if row.length + lnI l s ≤ 268435456 then 0 else 1
def epR (l row : List Int) (s : Int) : List Int := if epE l row s = 0 then row ++ wb l s.toNat else row

theorem lnI_pos {l : List Int} {s : Int} (h : lnI l s ≠ 0) : 0 ≤ s ∧ s < l.length ∧ lnI l s = ln l s.toNat := by
  unfold lnI at h ⊢
  by_cases c : 0 ≤ s ∧ s < l.length
  · rw [if_pos c] at h ⊢; exact ⟨c.1, c.2, rfl⟩
  · rw [if_neg c] at h; exact absurd rfl h

end Go.Proofs.YtiabhmdefaabgaaDoor

