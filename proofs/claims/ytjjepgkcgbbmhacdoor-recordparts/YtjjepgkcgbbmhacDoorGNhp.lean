import Derived.Test.YtjjepgkcgbbmhacDoorGNmn
import Derived.Test.YtjjepgkcgbbmhacDoorCards
import Derived.Test.YtjjepgkcgbbmhacDoorChecked
import Derived.Lib.Strings
import Derived.Lib.Slices
import Derived.Lib.Walk
import Derived.Lib.OthersKept
import Derived.WalkKit
import Derived.ProofKit
import Derived.OpenShut
import Derived.ShutString
import Derived.ChangeOld
import Derived.Below
import Derived.WalkLawsBesides
import Derived.WalkSpells
import Derived.Deep.QuietTactic
import Derived.BigQuiet
import Derived.Handy
import Derived.Lib.LaidTab
import Derived.Stop.LaidErr
import Derived.Maps.Own
import Derived.RowKit
namespace Go.Proofs.YtjjepgkcgbbmhacDoor
open Go.RowKit
set_option maxRecDepth 1000000

theorem hide6 {p : Prop} (h : p) : Hid p := h

set_option maxHeartbeats 1000000 in
theorem hasPre_any (s p : ByteArray) (w : World) :
    Calls Tryd.prog 14 #[.string s, .string p] w fun e w' => e = .returned (.bool (Lib.hasPrefix s.data.toList p.data.toList)) ∧ w' = w := by
  have HV : Hid (Lib.hasPrefix s.data.toList p.data.toList = (decide (p.size ≤ s.size) && ((s.extract 0 p.size).toList == p.toList))) := by
    show _ = _
    rw [← Lib.hasPrefix_of_take, ← Lib.size_eq, ← Lib.size_eq, Lib.extract_toList, Lib.toList_data]
    rfl
  by_cases hl : p.size ≤ s.size
  · go_enter Tryd.func14, Tryd.ntmps14
    go_wp2
    go_ret
    rw [HV.out, decide_eq_true hl]
    exact ⟨rfl, rfl⟩
  · go_enter Tryd.func14, Tryd.ntmps14
    go_wp2
    go_ret
    rw [HV.out, decide_eq_false hl]
    exact ⟨rfl, rfl⟩

set_option maxHeartbeats 1000000 in
theorem trimSuf_any (s p : ByteArray) (w : World) (hs : s.size ≤ 9223372036854775807) :
    Calls Tryd.prog 16 #[.string s, .string p] w fun e w' => e = .returned (.string ⟨(Lib.trimSuffix s.data.toList p.data.toList).toArray⟩) ∧ w' = w := by
  by_cases hl : p.size ≤ s.size
  case neg =>
    have HV := hide6 (Lib.trimSuffix_miss s p (by rw [decide_eq_false hl]; rfl))
    go_enter Tryd.func16, Tryd.ntmps16
    go_wp2
    go_ret
    rw [HV.out]
    exact ⟨rfl, rfl⟩
  have hw : ((s.size : Int) - (p.size : Int) + 9223372036854775808) % 18446744073709551616 - 9223372036854775808 = ((s.size - p.size : Nat) : Int) := by omega
  cases hb : ((s.extract (s.size - p.size) s.size).toList == p.toList)
  · have HV := hide6 (Lib.trimSuffix_miss s p (by rw [hb, Bool.and_false]))
    go_enter Tryd.func16, Tryd.ntmps16
    go_wp2
    go_ret
    rw [HV.out]
    exact ⟨rfl, rfl⟩
  · have HV := hide6 (Lib.trimSuffix_hit s p hl hb)
    go_enter Tryd.func16, Tryd.ntmps16
    go_wp2
    go_ret
    rw [HV.out]
    exact ⟨rfl, rfl⟩
end Go.Proofs.YtjjepgkcgbbmhacDoor

