import Derived.Test.YtllpikcfjlibeaaFnv
import Derived.Test.YtllpikcfjlibeaaRows
import Derived.WalkKit
import Derived.WalkSpells
import Derived.WalkLawsBesides
import Derived.Lib.Hide
namespace Go.Proofs.Ytllpikcfjlibeaa
open Go.RowKit

theorem ret_u64 {a b : Nat} (h : a = b) : Ending.returned (.int .u64 (a : Int)) = .returned (.int .u64 (b : Int)) := by rw [h]

set_option maxHeartbeats 400000 in
theorem refMore_any (d : Nat) (hd : d < 18446744073709551616) (s : ByteArray) (hs : s.size ≤ maxLen) (w : World) :
    Calls Try.prog 13 #[.int .u64 (d : Int), .string s] w fun e w' => e = .returned (.int .u64 ((moreD d s.data.toList : Nat) : Int)) ∧ w = w' := by
  unfold maxLen at hs
  go_enter Try.func13, Try.ntmps13
  go_wp2
  go_loop [0, 5] (fun x i => ∃ k : Nat, k ≤ s.size ∧ i = .int .i64 k ∧ x = .int .u64 ((moreD d (s.data.toList.take k) : Nat) : Int)) (fun _ i => s.size - (intOf i).toNat)
  case atStart => exact ⟨0, by omega, rfl, by simp [moreD_nil]⟩
  case round =>
    obtain ⟨k, hk, rfl, rfl⟩ := hrel
    by_cases hlt : k < s.size
    · have hl := moreD_lt d hd (s.data.toList.take k)
      have hq := step_run (moreD d (s.data.toList.take k)) s[k] hl
      have HS := Lib.hid (show moreD d (s.data.toList.take (k + 1)) = stepD (moreD d (s.data.toList.take k)) s[k] from moreD_take d s.data.toList k (by simpa using hlt))
      go_wp2
      go_round
      case rel => exact ⟨k + 1, by omega, by go_num, by rw [HS.out]⟩
      case measure => simp [intOf]; omega
    · have HE := Lib.hid (show s.data.toList.take k = s.data.toList from List.take_of_length_le (by simp; omega))
      go_wp2
      go_ret
      exact ⟨ret_u64 (by rw [HE.out]), rfl⟩

set_option maxHeartbeats 400000 in
theorem more_any (d : Nat) (hd : d < 18446744073709551616) (s : ByteArray) (hs : s.size ≤ maxLen) (w : World) :
    Calls Try.prog 12 #[.int .u64 (d : Int), .string s] w fun e w' => e = .returned (.int .u64 ((moreD d s.data.toList : Nat) : Int)) ∧ w = w' := by
  unfold maxLen at hs
  go_enter Try.func12, Try.ntmps12
  go_wp2
  go_loop [0, 8] (fun x i => ∃ k : Nat, k ≤ s.size ∧ i = .int .i64 k ∧ x = .int .u64 ((moreD d (s.data.toList.take k) : Nat) : Int)) (fun _ i => s.size - (intOf i).toNat)
  case atStart => exact ⟨0, by omega, rfl, by simp [moreD_nil]⟩
  case round =>
    obtain ⟨k, hk, rfl, rfl⟩ := hrel
    by_cases hlt : k < s.size
    · have hl := moreD_lt d hd (s.data.toList.take k)
      have hq := step_run (moreD d (s.data.toList.take k)) s[k] hl
      have HS := Lib.hid (show moreD d (s.data.toList.take (k + 1)) = stepD (moreD d (s.data.toList.take k)) s[k] from moreD_take d s.data.toList k (by simpa using hlt))
      go_wp2
      go_round
      case rel => exact ⟨k + 1, by omega, by go_num, by rw [HS.out]⟩
      case measure => simp [intOf]; omega
    · have HE := Lib.hid (show s.data.toList.take k = s.data.toList from List.take_of_length_le (by simp; omega))
      go_wp2
      go_ret
      exact ⟨ret_u64 (by rw [HE.out]), rfl⟩

theorem of_any (s : ByteArray) (hs : s.size ≤ maxLen) (w : World) :
    Calls Try.prog 10 #[.string s] w fun e w' => e = .returned (.int .u64 ((ofD s.data.toList : Nat) : Int)) ∧ w = w' := by
  have h := more_any 14695981039346656037 (by decide +kernel) s hs
  unfold ofD
  go_enter Try.func10, Try.ntmps10
  go_wp2_with (refine (h _).mono ?_; rintro e w' ⟨rfl, rfl⟩)
  go_ret
  exact ⟨rfl, rfl⟩
theorem refOf_any (s : ByteArray) (hs : s.size ≤ maxLen) (w : World) :
    Calls Try.prog 11 #[.string s] w fun e w' => e = .returned (.int .u64 ((ofD s.data.toList : Nat) : Int)) ∧ w = w' := by
  have h := refMore_any 14695981039346656037 (by decide +kernel) s hs
  unfold ofD
  go_enter Try.func11, Try.ntmps11
  go_wp2_with (refine (h _).mono ?_; rintro e w' ⟨rfl, rfl⟩)
  go_ret
  exact ⟨rfl, rfl⟩
end Go.Proofs.Ytllpikcfjlibeaa
