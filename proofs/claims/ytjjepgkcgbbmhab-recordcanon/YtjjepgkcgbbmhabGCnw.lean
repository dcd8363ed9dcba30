import Derived.Test.YtjjepgkcgbbmhabGCnl
import Derived.Test.YtjjepgkcgbbmhabGCnc
import Derived.Test.YtjjepgkcgbbmhabGCne
import Derived.Test.YtjjepgkcgbbmhabGCnz
namespace Go.Proofs.Ytjjepgkcgbbmhab
open Go.RowKit Go.Maps
set_option maxRecDepth 20000

theorem canon_walk (v : Value) (d : List Int) (at' : Int) (w : World) (h : SB w v d) (hB : Byt d) (h64 : Ok64 at') (hd : d.length ≤ 140737488351232) :
    Calls Try.prog 3 #[v, .int .i64 at'] w fun e w' => e = .returned (.bool true) ∧ Below w.heap.size w w' := by
  have ho := one_only (d := d) (at' := at')
  by_cases h1 : loE d at' = 0
  · exact canon_lo v d at' w h hB h64 hd h1 (ho.1 h1).1 (ho.1 h1).2
  by_cases h2 : ceE d at' = 0
  · exact canon_ce v d at' w h hB h64 hd h1 h2 (ho.2 h2)
  by_cases h3 : enE d at' = 0
  · exact canon_en v d at' w h hB h64 hd h1 h2 h3
  · exact canon_no v d at' w h hB h64 hd h1 h2 h3
end Go.Proofs.Ytjjepgkcgbbmhab

