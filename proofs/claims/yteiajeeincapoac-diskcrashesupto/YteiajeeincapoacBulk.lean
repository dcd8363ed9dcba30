import Derived.Test.YteiajeeincapoacOpsWf
namespace Go.Proofs.Yteiajeeincapoac
open Go.RowKit

theorem bulk_pos {H : Type} : ∀ d : DataW H, 0 < Rows.uptoBulk d
  | .lit l => by cases l <;> simp [Rows.uptoBulk]
  | .nil => by simp [Rows.uptoBulk]
  | .ptr _ => by simp [Rows.uptoBulk]
  | .slice _ _ => by simp [Rows.uptoBulk]
  | .agg _ => by simp [Rows.uptoBulk]
  | .iface _ _ => by simp [Rows.uptoBulk]
  | .map _ => by simp [Rows.uptoBulk]
  | .held _ => by simp [Rows.uptoBulk]

theorem bulk_count {H : Type} : ∀ l : List (DataW H), l.length ≤ Rows.uptoBulkAll l
  | [] => Nat.zero_le _
  | d :: r => by
    have h1 := bulk_pos d
    have h2 := bulk_count r
    simp only [Rows.uptoBulkAll, List.length_cons]
    omega

theorem bulk_mem {H : Type} {d : DataW H} : ∀ {l : List (DataW H)}, d ∈ l → Rows.uptoBulk d ≤ Rows.uptoBulkAll l
  | x :: r, h => by
    simp only [Rows.uptoBulkAll]
    rcases List.mem_cons.1 h with e | e
    · rw [e]; omega
    · have := bulk_mem e; omega

theorem bulk_ops {H : Type} {ds : List (DataW H)} {d : DataW H} {ops : List OpP} {P : DataW H → Nat → OpP → Prop} (hk : Rows.uptoSmall H ds = true) (hd : d ∈ ds) (hl : ops = [] ∨ ∃ elems spare, d = .slice elems spare ∧ elems.length = ops.length ∧ P d 0 = P d 0) : ops.length ≤ 1048576 := by
  rcases hl with rfl | ⟨elems, spare, rfl, hlen, _⟩
  · exact Nat.zero_le _
  · have h1 : Rows.uptoBulkAll ds ≤ 1048576 := of_decide_eq_true hk
    have h2 := bulk_mem hd
    have h3 := bulk_count elems
    simp only [Rows.uptoBulk] at h2
    omega
end Go.Proofs.Yteiajeeincapoac
