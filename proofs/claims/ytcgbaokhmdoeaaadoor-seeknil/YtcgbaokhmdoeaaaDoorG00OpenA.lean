import Derived.Laws.BitsLemmas
import Derived.Test.YtcgbaokhmdoeaaaDoorRows
import Derived.WalkKit
import Derived.ProofKit
import Derived.OpenShut
import Derived.ShutString
import Derived.ChangeOld
import Derived.Below
import Derived.WalkLawsBesides
import Derived.WalkSpells
import Derived.Deep.QuietTactic
import Derived.BigQuiet
import Derived.Laws.CopyOwn
import Derived.SizedLaws
import Derived.Maps.Own
import Derived.Laws.BytesArg
import Derived.Lib.SmallJoins
import Derived.Deep.Slices
namespace Go.Proofs.YtcgbaokhmdoeaaaDoor

end Go.Proofs.YtcgbaokhmdoeaaaDoor

namespace Go.Proofs.YtcgbaokhmdoeaaaDoor
open Go.RowKit

theorem hide {p : Prop} (h : p) : Hid p := h
theorem unhide {p : Prop} (h : Hid p) : p := h

end Go.Proofs.YtcgbaokhmdoeaaaDoor

namespace Go.Proofs.YtcgbaokhmdoeaaaDoor
open Go.ChangeShapes Go.WideShapes Go.ChangeAt Go.RowKit Go.Joins Go.Deep

theorem own : ownKnob Tryd.prog.godebug = none := by kernel_rfl
theorem laidOut : laidOutB Tryd.prog = true := by kernel_rfl
theorem bytesByte : Tryd.prog.bytesOf 5 = 1 := by kernel_rfl

end Go.Proofs.YtcgbaokhmdoeaaaDoor

