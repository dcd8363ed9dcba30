import Derived.Test.YtijmmfimkibgbaaGCu
namespace Go.Proofs.Ytijmmfimkibgbaa
open Go.RowKit
set_option maxRecDepth 20000
variable {X : Nat → Prop}

theorem nextSt_err {st : CSt} {n : Int} (h : (nextSt st n).e = 0) (h0 : st.e = 0) : okN st n := by
  unfold nextSt at h
  rw [if_neg (by simp [h0])] at h
  by_cases h1 : n < 0
  · rw [if_pos h1] at h; simp at h
  · rw [if_neg h1] at h
    by_cases h2 : (st.d.length : Int) - st.p < n
    · rw [if_pos h2] at h; simp at h
    · exact ⟨h0, by omega, by omega⟩

theorem nextSt_e {st : CSt} {n : Int} (h : ¬ okN st n) : (nextSt st n).e ≠ 0 := by
  unfold nextSt
  by_cases h0 : st.e = 0
  · rw [if_neg (by simp [h0])]
    by_cases h1 : n < 0
    · rw [if_pos h1]; simp
    · rw [if_neg h1]
      by_cases h2 : (st.d.length : Int) - st.p < n
      · rw [if_pos h2]; simp
      · exact absurd ⟨h0, by omega, by omega⟩ h
  · rw [if_pos h0]; exact h0

end Go.Proofs.Ytijmmfimkibgbaa

namespace Go.Proofs.Ytijmmfimkibgbaa
open Go.RowKit
set_option maxRecDepth 20000
variable {X : Nat → Prop}

end Go.Proofs.Ytijmmfimkibgbaa

