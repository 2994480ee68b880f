import Derived.Test.YtljkcdmcjbhgaaaName
import Derived.Test.YtljkcdmcjbhgaaaOrd
namespace Go.Proofs.Ytljkcdmcjbhgaaa
open Go.RowKit

theorem isA_cases (n : Int) : (n < 48 ∧ isA n = false) ∨ (48 ≤ n ∧ n ≤ 57 ∧ isA n = true) ∨ (57 < n ∧ n < 65 ∧ isA n = false) ∨ (65 ≤ n ∧ n ≤ 90 ∧ isA n = true) ∨ (90 < n ∧ n < 97 ∧ isA n = false) ∨ (97 ≤ n ∧ n ≤ 122 ∧ isA n = true) ∨ (122 < n ∧ isA n = false) := by
  simp only [isA, isL, isD, Bool.or_eq_true, Bool.or_eq_false_iff, decide_eq_true_eq, decide_eq_false_iff_not]
  omega

/-- has a text letters and digits alone? -/
def plainB (l : List UInt8) : Bool := l.all alnum

set_option maxHeartbeats 1000000 in
theorem plain_any (s : ByteArray) (w : World) (hs : s.size ≤ maxLen) :
    Calls Try.prog 19 #[.string s] w fun e w' => e = .returned (.bool (plainB s.data.toList)) ∧ w = w' := by
  unfold maxLen at hs
  go_enter Try.func19, Try.ntmps19
  go_wp2
  go_loop [3] (fun i => ∃ k : Nat, k ≤ s.size ∧ i = .int .i64 k ∧ (s.data.toList.take k).all alnum = true) (fun i => s.size - (intOf i).toNat)
  case atStart => exact ⟨0, by omega, rfl, by simp⟩
  case round =>
    obtain ⟨k, hk, rfl, ha⟩ := hrel
    have HA := Lib.hid ha
    clear ha
    by_cases hlt : k < s.size
    · have HY := Lib.hid (fun (h2 : alnum s[k] = true) => all_take_succ s.data.toList alnum k (by simpa using hlt) HA.out h2)
      have HN := Lib.hid (fun (h2 : alnum s[k] = false) => all_false s.data.toList alnum k (by simpa using hlt) h2)
      rcases isA_cases (s[k].toNat : Int) with ⟨h1, h⟩ | ⟨h1, h2, h⟩ | ⟨h1, h2, h⟩ | ⟨h1, h2, h⟩ | ⟨h1, h2, h⟩ | ⟨h1, h2, h⟩ | ⟨h1, h⟩
      all_goals have H := Lib.hid h
      all_goals clear h
      all_goals go_wp2
      all_goals first
        | (go_ret; exact ⟨ret_bool (HN.out H.out).symm, rfl⟩)
        | (go_round; (case rel => exact ⟨k + 1, by omega, by go_num, HY.out H.out⟩); (case measure => (simp [intOf]; omega)))
    · have HE := Lib.hid (show s.data.toList.take k = s.data.toList from List.take_of_length_le (by simp; omega))
      go_wp2
      go_ret
      exact ⟨ret_bool (by unfold plainB; rw [← HE.out, HA.out]), rfl⟩
end Go.Proofs.Ytljkcdmcjbhgaaa
