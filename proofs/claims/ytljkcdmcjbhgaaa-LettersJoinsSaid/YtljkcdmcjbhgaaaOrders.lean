import Derived.Test.YtljkcdmcjbhgaaaKey
namespace Go.Proofs.Ytljkcdmcjbhgaaa
open Go.RowKit
open Go.Lib (compareBytes)

theorem behindB {B : Nat} {a w w' : World} (h : Below B a w) (k : Below w.heap.size w w') (hB : B ≤ w.heap.size) : Below B a w' := h.trans (k.mono hB)

theorem data_eq (l : List UInt8) : (ByteArray.mk l.toArray).data.toList = l := by simp

set_option maxHeartbeats 400000 in
theorem order_any (a b : ByteArray) (w : World) (ha : a.size ≤ 140737488351232) (hb : b.size ≤ 140737488351232) :
    Calls Try.prog 14 #[.string a, .string b] w fun e w' => e = .returned (.int .i64 (ordL a.data.toList b.data.toList)) ∧ Below w.heap.size w w' := by
  have HO : Hid (ordL a.data.toList b.data.toList = if compareBytes (keyL a.data.toList) (keyL b.data.toList) = 0 then compareBytes a.data.toList b.data.toList else compareBytes (keyL a.data.toList) (keyL b.data.toList)) := by exact Lib.hid rfl
  by_cases h0 : compareBytes (keyL a.data.toList) (keyL b.data.toList) = 0
  · have hz : (compareBytes (keyL a.data.toList) (keyL b.data.toList) != 0) = false := by simpa using h0
    rw [if_pos h0] at HO
    clear h0
    go_enter Try.func14, Try.ntmps14
    go_wp2_with fail
    refine (key_any a ha _).mono ?_
    rintro e w1 ⟨rfl, hb1⟩
    go_wp2_with fail
    refine (key_any b hb _).mono ?_
    rintro e w2 ⟨rfl, hb2⟩
    go_wp2_with fail
    refine (compare_any _ _ _).mono ?_
    rintro e w3 ⟨rfl, rfl⟩
    rw [data_eq, data_eq]
    go_wp2_with fail
    refine (compare_any _ _ _).mono ?_
    rintro e w3 ⟨rfl, rfl⟩
    go_wp2
    go_ret
    exact ⟨ret_i64 HO.out.symm, behindB hb1 hb2 hb1.size⟩
  · have hz : (compareBytes (keyL a.data.toList) (keyL b.data.toList) != 0) = true := by simpa using h0
    rw [if_neg h0] at HO
    clear h0
    go_enter Try.func14, Try.ntmps14
    go_wp2_with fail
    refine (key_any a ha _).mono ?_
    rintro e w1 ⟨rfl, hb1⟩
    go_wp2_with fail
    refine (key_any b hb _).mono ?_
    rintro e w2 ⟨rfl, hb2⟩
    go_wp2_with fail
    refine (compare_any _ _ _).mono ?_
    rintro e w3 ⟨rfl, rfl⟩
    rw [data_eq, data_eq]
    go_wp2
    go_ret
    exact ⟨ret_i64 HO.out.symm, behindB hb1 hb2 hb1.size⟩

set_option maxHeartbeats 400000 in
theorem refOrder_any (a b : ByteArray) (w : World) (ha : a.size ≤ 140737488351232) (hb : b.size ≤ 140737488351232) :
    Calls Try.prog 15 #[.string a, .string b] w fun e w' => e = .returned (.int .i64 (ordL a.data.toList b.data.toList)) ∧ Below w.heap.size w w' := by
  have HO : Hid (ordL a.data.toList b.data.toList = if compareBytes (keyL a.data.toList) (keyL b.data.toList) = 0 then compareBytes a.data.toList b.data.toList else compareBytes (keyL a.data.toList) (keyL b.data.toList)) := by exact Lib.hid rfl
  by_cases h0 : compareBytes (keyL a.data.toList) (keyL b.data.toList) = 0
  · have hz : (compareBytes (keyL a.data.toList) (keyL b.data.toList) != 0) = false := by simpa using h0
    rw [if_pos h0] at HO
    clear h0
    go_enter Try.func15, Try.ntmps15
    go_wp2_with fail
    refine (refKey_any a _ ha).mono ?_
    rintro e w1 ⟨rfl, hb1⟩
    go_wp2_with fail
    refine (refKey_any b _ hb).mono ?_
    rintro e w2 ⟨rfl, hb2⟩
    go_wp2_with fail
    refine (sign_any _ _ _).mono ?_
    rintro e w3 ⟨rfl, rfl⟩
    rw [data_eq, data_eq]
    go_wp2_with fail
    refine (sign_any _ _ _).mono ?_
    rintro e w3 ⟨rfl, rfl⟩
    go_wp2
    go_ret
    exact ⟨ret_i64 HO.out.symm, behindB hb1 hb2 hb1.size⟩
  · have hz : (compareBytes (keyL a.data.toList) (keyL b.data.toList) != 0) = true := by simpa using h0
    rw [if_neg h0] at HO
    clear h0
    go_enter Try.func15, Try.ntmps15
    go_wp2_with fail
    refine (refKey_any a _ ha).mono ?_
    rintro e w1 ⟨rfl, hb1⟩
    go_wp2_with fail
    refine (refKey_any b _ hb).mono ?_
    rintro e w2 ⟨rfl, hb2⟩
    go_wp2_with fail
    refine (sign_any _ _ _).mono ?_
    rintro e w3 ⟨rfl, rfl⟩
    rw [data_eq, data_eq]
    go_wp2
    go_ret
    exact ⟨ret_i64 HO.out.symm, behindB hb1 hb2 hb1.size⟩
end Go.Proofs.Ytljkcdmcjbhgaaa
