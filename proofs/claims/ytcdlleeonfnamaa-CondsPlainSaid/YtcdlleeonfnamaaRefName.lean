import Derived.Test.YtcdlleeonfnamaaName
namespace Go.Proofs.Ytcdlleeonfnamaa
open Go.RowKit

theorem isL_lo {n : Int} (h : isL n = true) : 58 ≤ n := by simp [isL] at h; omega
theorem isL_no {n : Int} (h : ¬ isL n = true) (h2 : isA n = true) : n ≤ 57 := by
  have : isD n = true := by simpa [isA, h] using h2
  simp [isD] at this; omega

end Go.Proofs.Ytcdlleeonfnamaa
