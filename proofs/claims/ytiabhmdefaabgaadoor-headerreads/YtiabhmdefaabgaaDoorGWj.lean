import Derived.Test.YtiabhmdefaabgaaDoorG3w
import Derived.Test.YtiabhmdefaabgaaDoorG3r
namespace Go.Proofs.YtiabhmdefaabgaaDoor
open Go.RowKit Go.Maps
set_option maxRecDepth 20000

end Go.Proofs.YtiabhmdefaabgaaDoor

namespace Go.Proofs.YtiabhmdefaabgaaDoor
open Go.RowKit Go.Maps
set_option maxRecDepth 20000

def rawE (row l : List Int) : Int := if 268435456 < row.length + 8 * l.length then 1 else if row.length % 8 ≠ 0 then 31 else 0
def rawRow (row l : List Int) : List Int := if 268435456 < row.length + 8 * l.length then row else if row.length % 8 ≠ 0 then row else row ++ unpack l

theorem SB.safe {w : World} {u : Value} {l : List Int} (h : SB w u l) {K : Nat → Nat} (hk : ∀ k, u.ownBlock = some k → k < w.heap.size → K k = 0) : ∀ wr K1, Fr K K1 w wr → SB wr u l :=
  fun wr K1 hF => h.move fun a x ha hb => by
    have hl := World.block_lt_of_cell? w a ha
    rw [World.cell?_of_block (w := w) (hF.block a.block hl (hk _ hb hl))]
    exact ha

theorem SB.len {w : World} {u : Value} {l : List Int} (h : SB w u l) : ∃ a c, u = .slice a l.length c := by
  obtain ⟨a, c, h, _⟩ := h
  exact ⟨a, c, h⟩

def joinE (row x : List Int) : Int := if 268435456 < row.length + x.length then 1 else 0
def joinRow (row x : List Int) : List Int := if 268435456 < row.length + x.length then row else row ++ x

theorem lies_join {row x d : List Int} {r : Int} {h : Nat} (L : Lies x d r h) : row ++ unpack d ++ bts r h = row ++ x := by
  rw [L.e, List.append_assoc]

theorem OB.sb_stays {w wr : World} {g q : Nat} {v v1 : Value} {d : List Int} {n1 : Nat} (h : OB w 0 v d) (hn : v.ownBlock ≠ some g) (hS : Stays g (w.drewN q) wr v d.length v1 n1) : SB wr v d := by
  obtain ⟨ao, cap, he, q1, q2, q3, q4⟩ := h.sb
  refine ⟨ao, cap, he, q1, q2, q3, fun x hx i hi => ?_⟩
  have hlt := fun k hk => (h.lt k hk).2
  have hget := fun b hb => h.get (b := b) hb hi
  rcases h.2 with ⟨rfl, h0⟩ | ⟨gb, c, cur, rfl, _⟩
  · omega
  · simp only [Value.slice.injEq] at he
    obtain ⟨rfl, -, -⟩ := he
    cases hx
    rw [Addr.add_lit, Nat.zero_add]
    rw [hS.c gb i (hlt gb rfl) (fun e => hn (by rw [← e]; rfl)) (fun _ => hi)]
    exact hget gb rfl

end Go.Proofs.YtiabhmdefaabgaaDoor

namespace Go.Proofs.YtiabhmdefaabgaaDoor
open Go.RowKit Go.Maps
set_option maxRecDepth 20000

end Go.Proofs.YtiabhmdefaabgaaDoor

