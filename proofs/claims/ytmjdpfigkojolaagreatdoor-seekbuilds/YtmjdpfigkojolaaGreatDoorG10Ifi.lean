import Derived.Test.YtmjdpfigkojolaaGreatDoorG05Rw3
import Derived.Test.YtmjdpfigkojolaaGreatDoorG00Oix
namespace Go.Proofs.YtmjdpfigkojolaaGreatDoor
open Go.RowKit Go.Maps
set_option maxRecDepth 20000
set_option linter.unusedVariables false

set_option maxHeartbeats 8000000 in
theorem itLen_any (s : Nat) (h0 : 257 ≤ s) (h1 : s ≤ 287) (w : World) :
    Calls Tryz.prog 84 #[.int .i64 s] w fun en w' => w' = w ∧ ((s ≤ 285 ∧ en = .returned (.tuple #[.int .i64 (lnB s), .int .i64 (lnF s), .bool true])) ∨ (285 < s ∧ en = .returned (.tuple #[.int .i64 0, .int .i64 0, .bool false]))) := by
  have hs : s = 257 ∨ s = 258 ∨ s = 259 ∨ s = 260 ∨ s = 261 ∨ s = 262 ∨ s = 263 ∨ s = 264 ∨ s = 265 ∨ s = 266 ∨ s = 267 ∨ s = 268 ∨ s = 269 ∨ s = 270 ∨ s = 271 ∨ s = 272 ∨ s = 273 ∨ s = 274 ∨ s = 275 ∨ s = 276 ∨ s = 277 ∨ s = 278 ∨ s = 279 ∨ s = 280 ∨ s = 281 ∨ s = 282 ∨ s = 283 ∨ s = 284 ∨ s = 285 ∨ s = 286 ∨ s = 287 := by omega
  clear h1 h0
  go_enter Tryz.func84, Tryz.ntmps84
  rcases hs with rfl | rfl | rfl | rfl | rfl | rfl | rfl | rfl | rfl | rfl | rfl | rfl | rfl | rfl | rfl | rfl | rfl | rfl | rfl | rfl | rfl | rfl | rfl | rfl | rfl | rfl | rfl | rfl | rfl | rfl | rfl
  all_goals
    go_wp2
    first
      | refine bodyPost_ret (v := .tuple #[.int .i64 0, .int .i64 0, .bool false]) (by simp [results, Tryz.results84, go_sem]; done) rfl ?_
        exact ⟨rfl, .inr ⟨by decide, rfl⟩⟩
      | refine bodyPost_ret (by simp [results, Tryz.results84, go_sem]; rfl) rfl ?_
        exact ⟨rfl, .inl ⟨by decide, rfl⟩⟩

set_option maxHeartbeats 8000000 in
theorem itDist_any (s : Nat) (h1 : s ≤ 31) (w : World) :
    Calls Tryz.prog 85 #[.int .i64 s] w fun en w' => w' = w ∧ ((s ≤ 29 ∧ en = .returned (.tuple #[.int .i64 (dsB s), .int .i64 (dsF s), .bool true])) ∨ (29 < s ∧ en = .returned (.tuple #[.int .i64 0, .int .i64 0, .bool false]))) := by
  have hs : s = 0 ∨ s = 1 ∨ s = 2 ∨ s = 3 ∨ s = 4 ∨ s = 5 ∨ s = 6 ∨ s = 7 ∨ s = 8 ∨ s = 9 ∨ s = 10 ∨ s = 11 ∨ s = 12 ∨ s = 13 ∨ s = 14 ∨ s = 15 ∨ s = 16 ∨ s = 17 ∨ s = 18 ∨ s = 19 ∨ s = 20 ∨ s = 21 ∨ s = 22 ∨ s = 23 ∨ s = 24 ∨ s = 25 ∨ s = 26 ∨ s = 27 ∨ s = 28 ∨ s = 29 ∨ s = 30 ∨ s = 31 := by omega
  clear h1
  go_enter Tryz.func85, Tryz.ntmps85
  rcases hs with rfl | rfl | rfl | rfl | rfl | rfl | rfl | rfl | rfl | rfl | rfl | rfl | rfl | rfl | rfl | rfl | rfl | rfl | rfl | rfl | rfl | rfl | rfl | rfl | rfl | rfl | rfl | rfl | rfl | rfl | rfl | rfl
  all_goals
    go_wp2
    first
      | refine bodyPost_ret (v := .tuple #[.int .i64 0, .int .i64 0, .bool false]) (by simp [results, Tryz.results85, go_sem]; done) rfl ?_
        exact ⟨rfl, .inr ⟨by decide, rfl⟩⟩
      | refine bodyPost_ret (by simp [results, Tryz.results85, go_sem]; rfl) rfl ?_
        exact ⟨rfl, .inl ⟨by decide, rfl⟩⟩
end Go.Proofs.YtmjdpfigkojolaaGreatDoor

