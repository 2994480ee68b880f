import Derived.Test.YtikeaiibociapaaGreatDoorBeyond
namespace Go.Proofs.YtikeaiibociapaaGreatDoor
open Go.RowKit

/-- a letter, as a byte's number -/
def isL (n : Int) : Bool := decide (97 ≤ n ∧ n ≤ 122) || decide (65 ≤ n ∧ n ≤ 90)
def isD (n : Int) : Bool := decide (48 ≤ n ∧ n ≤ 57)
/-- a letter or a digit -/
def isA (n : Int) : Bool := isL n || isD n

set_option maxHeartbeats 400000 in
theorem isLetter_any (n : Int) (w : World) :
    Calls Tryz.prog 107 #[.int .u8 n] w fun e w' => e = .returned (.bool (isL n)) ∧ w = w' := by
  go_enter Tryz.func107, Tryz.ntmps107
  by_cases h1 : 97 ≤ n <;> by_cases h2 : n ≤ 122 <;> by_cases h3 : 65 ≤ n <;> by_cases h4 : n ≤ 90
  all_goals first | (exfalso; omega) | skip
  all_goals go_wp2
  all_goals go_ret
  all_goals exact ⟨ret_bool (by simp [isL]; omega), rfl⟩

set_option maxHeartbeats 400000 in
theorem isDigit_any (n : Int) (w : World) :
    Calls Tryz.prog 108 #[.int .u8 n] w fun e w' => e = .returned (.bool (isD n)) ∧ w = w' := by
  go_enter Tryz.func108, Tryz.ntmps108
  by_cases h1 : 48 ≤ n <;> by_cases h2 : n ≤ 57
  all_goals first | (exfalso; omega) | skip
  all_goals go_wp2
  all_goals go_ret
  all_goals exact ⟨ret_bool (by simp [isD]; omega), rfl⟩

set_option maxHeartbeats 400000 in
theorem refLetter_any (n : Int) (w : World) :
    Calls Tryz.prog 111 #[.int .u8 n] w fun e w' => e = .returned (.bool (isA n)) ∧ w = w' := by
  go_enter Tryz.func111, Tryz.ntmps111
  by_cases h1 : 97 ≤ n <;> by_cases h2 : n ≤ 122 <;> by_cases h3 : 65 ≤ n <;> by_cases h4 : n ≤ 90 <;> by_cases h5 : 48 ≤ n <;> by_cases h6 : n ≤ 57
  all_goals first | (exfalso; omega) | skip
  all_goals go_wp2
  all_goals go_ret
  all_goals exact ⟨ret_bool (by simp [isA, isL, isD]; omega), rfl⟩
end Go.Proofs.YtikeaiibociapaaGreatDoor
