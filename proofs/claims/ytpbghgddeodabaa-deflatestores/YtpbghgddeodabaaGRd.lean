import Derived.Test.YtpbghgddeodabaaGWr2
import Derived.Test.YtpbghgddeodabaaG3
namespace Go.Proofs.Ytpbghgddeodabaa
open Go.RowKit Go.Maps
set_option maxRecDepth 20000

theorem pow256 (k : Nat) : (256 : Int) ^ k = 2 ^ (8 * k) := by
  rw [Int.pow_mul]
  rfl

theorem u64_mask {x : Int} {n : Nat} (h0 : 0 ≤ x) (h1 : x < 2 ^ 63) (hn : n ≤ 32) : bits .and .u64 x (2 ^ n - 1) = x % 2 ^ n :=
  bits_mask .u64 63 (by decide) (fun n a b => by rw [IntKind.wrap_u64]; omega) n (by omega) x h0 h1

theorem getD_piece (d : List Int) {F L k : Nat} (hk : k < L) : ((d.drop F).take L).getD k 0 = d.getD (F + k) 0 := by
  simp [List.getD, hk]

/-- The loop's slices are pieces of the bytes. -/
theorem piece_cells {w : World} {b c : Nat} {d l : List Int} {F L : Nat} (h : OB w 0 (.slice (some ⟨b, 0, none⟩) d.length c) d) (hl : l = (d.drop F).take L) (hb : F + L ≤ d.length) : l.length = L ∧ ∀ k, k < l.length → w.cell? ⟨b, F + k, none⟩ = some (.int .u8 (l.getD k 0)) := by
  have e : l.length = L := by rw [hl, List.length_take, List.length_drop]; omega
  refine ⟨e, fun k hk => ?_⟩
  rw [h.get rfl (i := F + k) (by omega), hl, getD_piece d (by omega)]

end Go.Proofs.Ytpbghgddeodabaa

