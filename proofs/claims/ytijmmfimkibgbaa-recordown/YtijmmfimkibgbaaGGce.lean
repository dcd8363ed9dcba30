import Derived.Test.YtijmmfimkibgbaaGGcb
import Derived.Test.YtijmmfimkibgbaaGGcf
import Derived.Test.YtijmmfimkibgbaaGGcs
namespace Go.Proofs.Ytijmmfimkibgbaa
open Go.RowKit Go.Maps
set_option maxRecDepth 20000
set_option linter.unusedVariables false
set_option linter.unusedSimpArgs false

theorem getCentral_any (v : Value) (d : List Int) (at' : Int) (w : World) (h : SB w v d) (hB : Byt d) (h64 : Ok64 at') (hd : d.length ≤ 140737488355328) :
    Calls Try.prog 10 #[v, .int .i64 at'] w fun e w' => e = .returned (.tuple #[(ceA d at').v, .int .i64 (ceP d at'), .int .i64 (ceE d at')]) ∧ Below w.heap.size w w' := by
  by_cases h0 : beE d at' 46 33639248 = 0
  · by_cases h1 : ceE d at' = 0
    · exact getCentral_full v d at' w h hB h64 hd h1
    · refine getCentral_short v d at' w h hB h64 hd ⟨?_, h0⟩
      unfold ceE at h1 ⊢
      rw [if_neg (by simpa using h0)] at h1 ⊢
      split at h1
      · rename_i hc; rw [if_pos hc]
      · exact absurd rfl h1
  · exact getCentral_bad v d at' w h hB h64 hd h0
end Go.Proofs.Ytijmmfimkibgbaa

