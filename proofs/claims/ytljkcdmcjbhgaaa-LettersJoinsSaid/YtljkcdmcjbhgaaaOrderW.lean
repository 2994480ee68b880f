import Derived.Test.YtljkcdmcjbhgaaaOrd
import Derived.Test.YtljkcdmcjbhgaaaRefLower
import Derived.Lib.Slices
namespace Go.Proofs.Ytljkcdmcjbhgaaa
open Go.RowKit
open Go.Lib (compareBytes)

set_option maxHeartbeats 400000 in
theorem compareString_any (a b : ByteArray) (w : World) :
    Calls Try.prog 34 #[.string a, .string b] w fun e w' => e = .returned (.int .i64 (compareBytes a.data.toList b.data.toList)) ∧ w = w' := by
  go_enter Try.func34, Try.ntmps34
  go_wp2
  rw [run_callFunc_extern Try.func36 (by kernel_rfl) (by kernel_rfl) (by kernel_rfl) (e := Extern.BytealgCompare.compare) (by kernel_rfl), Lib.run_compareString]
  simp only [Result.andThen]
  rw [Oper.upon_value]
  go_wp2
  go_ret
  exact ⟨rfl, rfl⟩

theorem compare_any (a b : ByteArray) (w : World) :
    Calls Try.prog 24 #[.string a, .string b] w fun e w' => e = .returned (.int .i64 (compareBytes a.data.toList b.data.toList)) ∧ w = w' := by
  go_enter Try.func24, Try.ntmps24
  go_wp2_with (go_at_call 34; refine (compareString_any _ _ _).mono ?_; rintro e w' ⟨rfl, rfl⟩)
  go_ret
  exact ⟨rfl, rfl⟩

theorem ret_i64 {a b : Int} (h : a = b) : Ending.returned (.int .i64 a) = .returned (.int .i64 b) := by rw [h]

theorem sign_any (a b : ByteArray) (w : World) :
    Calls Try.prog 26 #[.string a, .string b] w fun e w' => e = .returned (.int .i64 (compareBytes a.data.toList b.data.toList)) ∧ w = w' := by
  have H1 := Lib.hid (less_eq a.data.toList b.data.toList)
  have H2 := Lib.hid (cb_range a.data.toList b.data.toList)
  have H3 := Lib.hid (cb_zero a.data.toList b.data.toList)
  go_enter Try.func26, Try.ntmps26
  go_wp2
  · have h : Op.bytesLess a.toList b.toList = true := by assumption
    go_ret
    rw [Lib.toList_data, Lib.toList_data, H1.out] at h
    exact ⟨ret_i64 (of_decide_eq_true h).symm, rfl⟩
  · have h : Op.bytesLess a.toList b.toList = false := by assumption
    have h' : (!a.toList == b.toList) = true := by assumption
    go_ret
    rw [Lib.toList_data, Lib.toList_data, H1.out] at h
    rw [Lib.toList_data, Lib.toList_data] at h'
    have h1 := H2.out
    have h2 : ¬ compareBytes a.data.toList b.data.toList = 0 := fun e => by rw [H3.out.1 e] at h'; simp at h'
    have h3 : ¬ compareBytes a.data.toList b.data.toList = -1 := of_decide_eq_false h
    exact ⟨ret_i64 (by omega), rfl⟩
  · have h' : (!a.toList == b.toList) = false := by assumption
    go_ret
    rw [Lib.toList_data, Lib.toList_data] at h'
    have h2 : a.data.toList = b.data.toList := by simpa using h'
    exact ⟨ret_i64 (H3.out.2 h2).symm, rfl⟩
end Go.Proofs.Ytljkcdmcjbhgaaa
