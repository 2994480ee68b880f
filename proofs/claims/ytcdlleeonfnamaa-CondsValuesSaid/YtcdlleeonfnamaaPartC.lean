import Derived.Test.YtcdlleeonfnamaaCutC
namespace Go.Proofs.Ytcdlleeonfnamaa
open Go.RowKit
set_option maxRecDepth 100000

theorem pre_yes (t : List UInt8) : Lib.hasPrefix (33 :: t) [33] = true ∧ Lib.trimPrefix (33 :: t) [33] = t := by
  have h : Lib.hasPrefix (33 :: t) [33] = true := by simp [Lib.hasPrefix]
  exact ⟨h, by unfold Lib.trimPrefix; rw [if_pos h]; rfl⟩
theorem pre_no {l : List UInt8} (h : l.head? ≠ some 33) : Lib.hasPrefix l [33] = false ∧ Lib.trimPrefix l [33] = l := by
  have h1 : Lib.hasPrefix l [33] = false := by
    cases l with
    | nil => rfl
    | cons x l =>
      have : ¬ 33 = x := fun e => h (by rw [← e]; rfl)
      show ((33 : UInt8) == x && ([] : List UInt8).isPrefixOf l) = false
      rw [beq_eq_false_iff_ne.2 this]; rfl
  exact ⟨h1, by unfold Lib.trimPrefix; rw [if_neg (by rw [h1]; decide)]⟩
theorem suf_yes (a : List UInt8) : Lib.hasSuffix (a ++ [33]) [33] = true ∧ Lib.trimSuffix (a ++ [33]) [33] = a := by
  have h : Lib.hasSuffix (a ++ [33]) [33] = true := by
    unfold Lib.hasSuffix
    rw [List.isSuffixOf_iff_suffix]
    exact List.suffix_append a [33]
  exact ⟨h, by unfold Lib.trimSuffix; rw [if_pos h]; simp⟩
theorem suf_no {a : List UInt8} (h : a.getLast? ≠ some 33) : Lib.hasSuffix a [33] = false ∧ Lib.trimSuffix a [33] = a := by
  have h1 : Lib.hasSuffix a [33] = false := by
    cases e : Lib.hasSuffix a [33] with
    | false => rfl
    | true =>
      unfold Lib.hasSuffix at e
      rw [List.isSuffixOf_iff_suffix] at e
      obtain ⟨t, rfl⟩ := e
      exact absurd (by simp) h
  exact ⟨h1, by unfold Lib.trimSuffix; rw [if_neg (by rw [h1]; decide)]⟩

theorem parts_not (s : ByteArray) (t : List UInt8) (w : World) (h : s.data.toList = 33 :: t) :
    Calls Try.prog 29 #[.string s] w fun e w' => e = .returned (.tuple #[.string ⟨#[33]⟩, .string (bT t), .string ⟨#[]⟩]) ∧ Below w.heap.size w w' := by
  have hP := Try.strings_CutPrefix s ⟨#[33]⟩ w
  obtain ⟨e1, e2⟩ := pre_yes t
  rw [show (⟨#[33]⟩ : ByteArray).data.toList = [33] from rfl, h, e1, e2] at hP
  rw [show (⟨t.toArray⟩ : ByteArray) = bT t from rfl] at hP
  clear e1 e2 h
  go_enter Try.func29, Try.ntmps29
  go_wp2_with (go_at_call 38; refine hP.mono ?_; rintro e w2 ⟨rfl, rfl⟩)
  go_ret3
  exact ⟨rfl, Below.refl _ _⟩
theorem parts_is (s : ByteArray) (w : World) (h : s.data.toList.head? ≠ some 33) (h6 : (61 : UInt8) ∉ s.data.toList) :
    Calls Try.prog 29 #[.string s] w fun e w' => e = .returned (.tuple #[.string ⟨#[]⟩, .string s, .string ⟨#[]⟩]) ∧ Below w.heap.size w w' := by
  have hP := Try.strings_CutPrefix s ⟨#[33]⟩ w
  obtain ⟨e1, e2⟩ := pre_no h
  rw [show (⟨#[33]⟩ : ByteArray).data.toList = [33] from rfl, e1, e2] at hP
  rw [show (⟨s.data.toList.toArray⟩ : ByteArray) = s from bT_data s] at hP
  have hC := cut_no s 61 w h6
  clear e1 e2 h h6
  go_enter Try.func29, Try.ntmps29
  go_wp2_with (first | (go_at_call 38; refine hP.mono ?_; rintro e w2 ⟨rfl, rfl⟩) | (go_at_call 39; refine hC.mono ?_; rintro e w3 ⟨rfl, hb3⟩))
  go_ret3
  exact ⟨rfl, hb3⟩
theorem partC_ne (s : ByteArray) (a b : List UInt8) (w : World) (hs : s.size ≤ 140737488351232) (h : s.data.toList.head? ≠ some 33) (h6 : (61 : UInt8) ∉ a) (hs2 : s.data.toList = a ++ 33 :: 61 :: b) :
    Calls Try.prog 29 #[.string s] w fun e w' => e = .returned (.tuple #[.string ⟨#[33, 61]⟩, .string (bT a), .string (bT b)]) ∧ Below w.heap.size w w' := by
  have hP := Try.strings_CutPrefix s ⟨#[33]⟩ w
  obtain ⟨e1, e2⟩ := pre_no h
  rw [show (⟨#[33]⟩ : ByteArray).data.toList = [33] from rfl, e1, e2] at hP
  rw [show (⟨s.data.toList.toArray⟩ : ByteArray) = s from bT_data s] at hP
  have hC := cut_at s 61 (a ++ [33]) b w hs (by rw [hs2]; simp) (by simp; exact h6)
  have hz : (bT (a ++ [33])).size ≤ 9223372036854775807 := by
    have h1 : s.data.toList.length = s.size := by simp
    have h2 : (bT (a ++ [33])).size = (a ++ [33]).length := by show (a ++ [33]).toArray.size = _; simp
    rw [hs2] at h1; rw [h2]; simp at h1 ⊢; omega
  have hS := fun w => Try.strings_CutSuffix (bT (a ++ [33])) ⟨#[33]⟩ w hz
  obtain ⟨e3, e4⟩ := suf_yes a
  rw [show (⟨#[33]⟩ : ByteArray).data.toList = [33] from rfl, bT_list, e3, e4] at hS
  rw [show (⟨a.toArray⟩ : ByteArray) = bT a from rfl] at hS
  clear e1 e2 e3 e4 h h6 hs2 hz
  go_enter Try.func29, Try.ntmps29
  go_wp2_with (first | (go_at_call 38; refine hP.mono ?_; rintro e w2 ⟨rfl, rfl⟩) | (go_at_call 39; refine hC.mono ?_; rintro e w3 ⟨rfl, hb3⟩) | (go_at_call 40; refine (hS _).mono ?_; rintro e w4 ⟨rfl, rfl⟩))
  go_ret3
  exact ⟨rfl, hb3⟩
theorem parts_eq (s : ByteArray) (a b : List UInt8) (w : World) (hs : s.size ≤ 140737488351232) (h : s.data.toList.head? ≠ some 33) (h6 : (61 : UInt8) ∉ a) (h3 : a.getLast? ≠ some 33) (hs2 : s.data.toList = a ++ 61 :: b) :
    Calls Try.prog 29 #[.string s] w fun e w' => e = .returned (.tuple #[.string ⟨#[61]⟩, .string (bT a), .string (bT b)]) ∧ Below w.heap.size w w' := by
  have hP := Try.strings_CutPrefix s ⟨#[33]⟩ w
  obtain ⟨e1, e2⟩ := pre_no h
  rw [show (⟨#[33]⟩ : ByteArray).data.toList = [33] from rfl, e1, e2] at hP
  rw [show (⟨s.data.toList.toArray⟩ : ByteArray) = s from bT_data s] at hP
  have hC := cut_at s 61 a b w hs hs2 h6
  have hz : (bT a).size ≤ 9223372036854775807 := by
    have h1 : s.data.toList.length = s.size := by simp
    have h2 : (bT a).size = a.length := by show a.toArray.size = _; simp
    rw [hs2] at h1; rw [h2]; simp at h1 ⊢; omega
  have hS := fun w => Try.strings_CutSuffix (bT a) ⟨#[33]⟩ w hz
  obtain ⟨e3, e4⟩ := suf_no h3
  rw [show (⟨#[33]⟩ : ByteArray).data.toList = [33] from rfl, bT_list, e3, e4] at hS
  rw [show (⟨a.toArray⟩ : ByteArray) = bT a from rfl] at hS
  clear e1 e2 e3 e4 h h6 hs2 hz h3
  go_enter Try.func29, Try.ntmps29
  go_wp2_with (first | (go_at_call 38; refine hP.mono ?_; rintro e w2 ⟨rfl, rfl⟩) | (go_at_call 39; refine hC.mono ?_; rintro e w3 ⟨rfl, hb3⟩) | (go_at_call 40; refine (hS _).mono ?_; rintro e w4 ⟨rfl, rfl⟩))
  go_ret3
  exact ⟨rfl, hb3⟩
end Go.Proofs.Ytcdlleeonfnamaa
