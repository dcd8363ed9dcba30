import Derived.Test.YtlidmhdcikcpkaaGOpenW
namespace Go.Proofs.Ytlidmhdcikcpkaa
open Go.ChangeShapes Go.WideShapes Go.ChangeAt Go.RowKit Go.Joins Go.Deep
set_option maxRecDepth 20000

theorem bulk_pos {H : Type} : ∀ d : DataW H, 0 < Rows.uptoBulk d
  | .lit l => by cases l <;> simp [Rows.uptoBulk]
  | .nil => by simp [Rows.uptoBulk]
  | .ptr _ => by simp [Rows.uptoBulk]
  | .slice _ _ => by simp [Rows.uptoBulk]
  | .agg _ => by simp [Rows.uptoBulk]
  | .iface _ _ => by simp [Rows.uptoBulk]
  | .map _ => by simp [Rows.uptoBulk]
  | .held _ => by simp [Rows.uptoBulk]

theorem bulk_count {H : Type} : ∀ l : List (DataW H), l.length ≤ Rows.uptoBulkAll l
  | [] => Nat.zero_le _
  | d :: r => by
    have h1 := bulk_pos d
    have h2 := bulk_count r
    simp only [Rows.uptoBulkAll, List.length_cons]
    omega

theorem bulk_mem {H : Type} {d : DataW H} : ∀ {l : List (DataW H)}, d ∈ l → Rows.uptoBulk d ≤ Rows.uptoBulkAll l
  | x :: r, h => by
    simp only [Rows.uptoBulkAll]
    rcases List.mem_cons.1 h with e | e
    · rw [e]; omega
    · have := bulk_mem e; omega

theorem bulk_bytes {H : Type} {ds : List (DataW H)} {d : DataW H} {l : List Int} (hk : Rows.uptoSmall H ds = true) (hd : d ∈ ds) (hl : l = [] ∨ ∃ elems spare, d = .slice elems spare ∧ l.length ≤ elems.length + spare.length) : l.length ≤ 1048576 := by
  rcases hl with rfl | ⟨e, s, rfl, h⟩
  · exact Nat.zero_le _
  · have h0 : Rows.uptoBulkAll ds ≤ 1048576 := of_decide_eq_true hk
    have h3 := bulk_mem hd
    have h1 := bulk_count e
    have h2 := bulk_count s
    simp only [Rows.uptoBulk] at h3
    omega
end Go.Proofs.Ytlidmhdcikcpkaa

