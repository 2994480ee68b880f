import Derived.Test.YtcdlleeonfnamaaBeyond
namespace Go.Proofs.Ytcdlleeonfnamaa
open Go.RowKit

/-- a letter, as a byte's number -/
def isL (n : Int) : Bool := decide (97 ≤ n ∧ n ≤ 122) || decide (65 ≤ n ∧ n ≤ 90)
def isD (n : Int) : Bool := decide (48 ≤ n ∧ n ≤ 57)
/-- a letter or a digit -/
def isA (n : Int) : Bool := isL n || isD n

set_option maxHeartbeats 400000 in
theorem isLetter_any (n : Int) (w : World) :
    Calls Try.prog 27 #[.int .u8 n] w fun e w' => e = .returned (.bool (isL n)) ∧ w = w' := by
  go_enter Try.func27, Try.ntmps27
  by_cases h1 : 97 ≤ n <;> by_cases h2 : n ≤ 122 <;> by_cases h3 : 65 ≤ n <;> by_cases h4 : n ≤ 90
  all_goals first | (exfalso; omega) | skip
  all_goals go_wp2
  all_goals go_ret
  all_goals exact ⟨ret_bool (by simp [isL]; omega), rfl⟩

set_option maxHeartbeats 400000 in
theorem isDigit_any (n : Int) (w : World) :
    Calls Try.prog 28 #[.int .u8 n] w fun e w' => e = .returned (.bool (isD n)) ∧ w = w' := by
  go_enter Try.func28, Try.ntmps28
  by_cases h1 : 48 ≤ n <;> by_cases h2 : n ≤ 57
  all_goals first | (exfalso; omega) | skip
  all_goals go_wp2
  all_goals go_ret
  all_goals exact ⟨ret_bool (by simp [isD]; omega), rfl⟩

end Go.Proofs.Ytcdlleeonfnamaa
