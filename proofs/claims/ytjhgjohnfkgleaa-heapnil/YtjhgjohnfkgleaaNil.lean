import Derived.Test.YtjhgjohnfkgleaaBase
import Derived.Test.YtjhgjohnfkgleaaRng
import Derived.Shelf.Abstract
import Derived.Shelf.RegionOpen
import Derived.OwnWalkIn
import Derived.TacticsInMore
import Derived.LoopNIn
import Derived.LoopIn
namespace Go.Proofs.Ytjhgjohnfkgleaa
open Go.RowKit Go.Shelf
attribute [local go_sem] Oper.semAt_some
set_option maxRecDepth 20000

theorem sLen (w : World) : Calls Try.prog 17 #[.pointer none] w fun e w' => e = .returned (.int .i64 0) ∧ w' = w := by
  go_enter Try.func17, Try.ntmps17
  go_wp2
  go_ret
  exact ⟨rfl, rfl⟩

theorem sPush (k : Int) (s : ByteArray) (w : World) : Calls Try.prog 14 #[.pointer none, .int .i64 k, .string s] w fun e w' => e = .returned (.tuple #[]) ∧ w' = w := by
  go_enter Try.func14, Try.ntmps14
  go_wp2
  refine bodyPost_ret (results_none rfl _ _ _) rfl ?_
  exact ⟨rfl, rfl⟩

theorem sPeek (w : World) : Calls Try.prog 16 #[.pointer none] w fun e w' => e = .returned (.tuple #[.int .i64 0, .string ByteArray.empty, .bool false]) ∧ w' = w := by
  go_enter Try.func16, Try.ntmps16
  go_wp2_with fail
  refine (sLen _).mono ?_
  rintro e w1 ⟨rfl, rfl⟩
  go_wp2
  go_ret3
  exact ⟨rfl, rfl⟩

theorem sPop (w : World) : Calls Try.prog 15 #[.pointer none] w fun e w' => e = .returned (.tuple #[.int .i64 0, .string ByteArray.empty, .bool false]) ∧ w' = w := by
  go_enter Try.func15, Try.ntmps15
  go_wp2_with fail
  refine (sPeek _).mono ?_
  rintro e w1 ⟨rfl, rfl⟩
  go_wp2
  go_ret3
  exact ⟨rfl, rfl⟩

theorem sDrain (w : World) : Calls Try.prog 18 #[.pointer none] w fun e w' => e = .returned (.func (.func 37) #[] #[.pointer (some ⟨w.heap.size, 0, none⟩)]) ∧ w' = w.alloc (.cells #[.pointer none] 33) := by
  go_enter Try.func18, Try.ntmps18
  go_wp2
  go_ret
  exact ⟨rfl, rfl⟩

theorem eqlInFunc {P : Program} (w : World) (d : Nat) (t : TypeId) {ps rs : Array TypeId} {vr : Bool} (h : P.underlying t = some (.func ps rs vr)) (f : Fn) (x y : Array Value) : (Op.equalIn (d + 1) t (.func f x y) .nilFunc).run P w = .ok false w := by
  simp [Op.equalIn, run_underlying h]

theorem eqlFunc {P : Program} (w : World) (t : TypeId) {ps rs : Array TypeId} {vr : Bool} (h : P.underlying t = some (.func ps rs vr)) (f : Fn) (x y : Array Value) : (binOp .eql t (.func f x y) .nilFunc).run P w = .ok (.bool false) w := by
  simp only [binOp]
  simp [Op.equal, Op.maxDepth, eqlInFunc w 9999 t h f x y]

theorem rec_alloc (w : World) : Rec (w.heap.size + 1) fun o W => W = (w.alloc (.deferred (some []))).alloc o := by
  refine ⟨fun o W h => ?_, fun o o' W h => ?_⟩
  · subst h
    have := World.alloc_heap_new (w.alloc (.deferred (some []))) o
    rwa [World.size_alloc] at this
  · subst h
    have := put_alloc (w.alloc (.deferred (some []))) o o'
    rwa [World.size_alloc] at this

theorem sDrains (F : Fence) (n : Nat) (hF : F = Fence.wide) (l B : Nat) (W : World) (hB : W.cell? ⟨B, 0, none⟩ = some (.pointer none)) :
    CallsIn F n Try.prog 37 #[.func (.yield l) #[] #[], .pointer (some ⟨B, 0, none⟩)] W fun e W' => (∃ v, e = .returned v) ∧ W' = W := by
  subst hF
  refine callsIn_of_wp Try.func37 rfl trivial ?_ rfl
  simp only [Try.ntmps37, List.size_toArray, List.length_cons, List.length_nil, Nat.reduceAdd, Nat.reduceSub, Array.replicate_succ, Array.replicate_zero, List.push_toArray, List.append_toArray, List.nil_append, List.cons_append]
  have he := fun (w : World) (f : Fn) (x y : Array Value) => eqlFunc (P := Try.prog) w _ (Try.underlying71) f x y
  gi_wp2
  gi_loopw [3] (fun p wr => wr = W) (fun p wr => 0)
  case atStart => rfl
  case round =>
    subst hrel
    gi_wp2_with fail
    refine ⟨trivial, (fun h => by cases h), (callsIn_wide.2 (sPop _)).mono ?_⟩
    rintro e w1 ⟨rfl, rfl⟩
    gi_wp2
    refine ⟨fun _ h => (by cases h), ?_⟩
    gi_wp2
    refine bodyPost_ret (results_none rfl _ _ _) rfl ?_
    exact ⟨⟨_, rfl⟩, rfl⟩

set_option maxHeartbeats 1000000 in
theorem heapNil_walk (w : World) : Calls Try.prog 4 #[] w fun e w' => e = .returned (.bool true) ∧ Below w.heap.size w w' := by
  refine (callsIn_wide (n := 3)).1 ?_
  refine callsIn_of_wp_marks Try.func4 rfl trivial ?_ rfl
  simp only [Try.ntmps4, List.size_toArray, List.length_nil, Nat.reduceSub, Array.replicate_succ, Array.replicate_zero, List.push_toArray, List.append_toArray, List.nil_append, List.cons_append]
  gi_wp2_with fail
  refine ⟨trivial, (callsIn_wide.2 (sPush _ _ _)).mono ?_⟩
  rintro e w1 ⟨rfl, rfl⟩
  gi_wp2_with fail
  refine ⟨trivial, (callsIn_wide.2 (sPop _)).mono ?_⟩
  rintro e w1 ⟨rfl, rfl⟩
  gi_wp2_with fail
  refine ⟨trivial, (callsIn_wide.2 (sPeek _)).mono ?_⟩
  rintro e w1 ⟨rfl, rfl⟩
  gi_wp2_with fail
  refine ⟨trivial, (callsIn_wide.2 (sLen _)).mono ?_⟩
  rintro e w1 ⟨rfl, rfl⟩
  gi_wp2_with fail
  refine ⟨trivial, (callsIn_wide.2 (sDrain _)).mono ?_⟩
  rintro e w1 ⟨rfl, rfl⟩
  have he := fun (w : World) (f : Fn) (x y : Array Value) => eqlFunc (P := Try.prog) w _ (Try.underlying38) f x y
  gi_wp2_with fail
  obtain ⟨W2, hW2⟩ : ∃ W2, (w.alloc (Obj.cells #[Value.bool false] 4)).alloc (Obj.cells #[Value.pointer none] 33) = W2 := ⟨_, rfl⟩
  have hsz : W2.heap.size = w.heap.size + 2 := by rw [← hW2]; simp
  have hB : W2.cell? ⟨w.heap.size + 1, 0, none⟩ = some (.pointer none) := by
    have := cellNew (w.alloc (Obj.cells #[Value.bool false] 4)) (.pointer none) 33
    rw [World.size_alloc, hW2] at this
    exact this.1
  have hbel : Below w.heap.size w W2 := by rw [← hW2]; exact ((Below.refl _ _).alloc (Nat.le_refl _) _).alloc (by simp) _
  have hR : W2.cell? ⟨w.heap.size, 0, none⟩ = some (.bool false) ∧ W2.frozen? ⟨w.heap.size, 0, none⟩ = false := by
    have := cellNew w (.bool false) 4
    rw [← hW2]
    exact ⟨cellAlloc _ this.1, frozenAlloc _ this.1 this.2⟩
  rw [hW2]
  clear hW2
  refine wp_range (α := Empty) 0 rfl (by decide) (gf := 37) (lb := #[.pointer (some ⟨w.heap.size + 1, 0, none⟩)]) rfl trivial (enters_of Try.func37 (by kernel_rfl) rfl)
    (encs := fun x => x.elim) (fun x => x.elim) (fun _ o W => W = (W2.alloc (.deferred (some []))).alloc o) (fun _ x => x.elim) (fun o W => W = (W2.alloc (.deferred (some []))).alloc o) (fun _ o W => False ∧ W.heap[W2.heap.size + 1]? = some o)
    (fun _ => rec_alloc W2) (fun _ x => x.elim) (rec_alloc W2) (fun c => ⟨fun o W h => h.2, fun o o' W h => h.1.elim⟩) (fun o => rfl) ?seq (fun x => x.elim) (fun x => x.elim) (fun m x => x.elim) ?done (fun c o W h => h.1.elim)
  case seq =>
    intro o Jx _ W hW
    refine (sDrains Fence.wide 2 rfl _ (w.heap.size + 1) W ?_).mono ?_
    · rw [hW]
      exact cellAlloc _ (cellAlloc _ hB)
    · rintro e W' ⟨he, rfl⟩
      exact ⟨he, .inl hW⟩
  case done =>
    rintro o W rfl
    gi_wp2
    obtain ⟨W3, hW3⟩ : ∃ W3, W2.setCell ⟨w.heap.size, 0, none⟩ (Value.bool true) = W3 := ⟨_, rfl⟩
    have hs3 : W3.heap.size = W2.heap.size := by rw [← hW3]; simp
    have hb3 : Below w.heap.size w W3 := by rw [← hW3]; exact hbel.setCell (p := ⟨w.heap.size, 0, none⟩) (Nat.le_refl _) _
    have hc3 : W3.cell? ⟨w.heap.size, 0, none⟩ = some (.bool true) := by rw [← hW3]; exact World.cell?_setCell_same' _ _ _ (by rw [hR.1]; rfl)
    rw [hW3]
    have hD : ((W3.alloc (.deferred (some []))).alloc o).heap[W2.heap.size]? = some (.deferred (some [])) := by rw [← hs3]; exact (heap_two W3 _ _).2
    refine ⟨by simp, .inl ⟨_, _, rfl, run_takeDeferred hD, ?_⟩⟩
    have hc5 := cell_kept (cellAlloc o (cellAlloc (.deferred (some [])) hc3)) (grownBy_putObj' _ W2.heap.size (.deferred none)) (fun r e => by cases e; exact ⟨_, hD, rfl⟩)
    refine ⟨.bool true, ?_, rfl, ?_⟩
    · simp [results, Try.f4, go_sem, hc5]
    · refine ((hb3.alloc (by omega) _).alloc (by simp; omega) _).trans (belowK_b (w := w) (Nat.le_refl _) _ _ _ _ (by omega) hD rfl rfl)

end Go.Proofs.Ytjhgjohnfkgleaa
