import Derived.Test.YtcdlleeonfnamaaShelf
import Derived.Test.YtcdlleeonfnamaaParts4
import Derived.BigQuiet
import Derived.Deep.QuietTactic
import Derived.IntWalk
namespace Go.Proofs.Ytcdlleeonfnamaa
open Go.RowKit
set_option maxRecDepth 100000

theorem slCut_at (s : ByteArray) (c : UInt8) (i : Nat) (w : World) (hs : s.size ≤ 140737488351232) (hi : i < s.size) (h : Lib.indexByte s.data.toList c = i) :
    Calls Try.prog 49 #[.string s, .string ⟨#[c]⟩] w fun e w' => e = .returned (.tuple #[.string (s.extract 0 i), .string (s.extract (i + 1) s.size), .bool true]) ∧ ∃ q, w' = w.drewN q := by
  have hI := Try.stringslite_Index_one s c w
  rw [h] at hI
  have c1 : (0 : Int) ≤ (i : Int) := by omega
  have c2 : (i : Int) ≤ (s.size : Int) := by omega
  have c3 : (0 : Int) ≤ (i : Int) + 1 := by omega
  have c4 : (i : Int) + 1 ≤ (s.size : Int) := by omega
  have c5 : IntKind.i64.wrap ((i : Int) + 1) = (i : Int) + 1 := by rw [IntKind.wrap_i64]; omega
  have c6 : ((i : Int) + 1).toNat = i + 1 := by omega
  go_enter Try.func49, Try.ntmps49
  go_wp2_with (go_at_call 53; refine hI.mono ?_; rintro e w2 ⟨rfl, rfl⟩)
  go_quiet (fail)
  go_wp2
  go_ret3
  exact ⟨rfl, _, rfl⟩
theorem slCut_no (s : ByteArray) (c : UInt8) (w : World) (h : Lib.indexByte s.data.toList c = -1) :
    Calls Try.prog 49 #[.string s, .string ⟨#[c]⟩] w fun e w' => e = .returned (.tuple #[.string s, .string ⟨#[]⟩, .bool false]) ∧ ∃ q, w' = w.drewN q := by
  have hI := Try.stringslite_Index_one s c w
  rw [h] at hI
  go_enter Try.func49, Try.ntmps49
  go_wp2_with (go_at_call 53; refine hI.mono ?_; rintro e w2 ⟨rfl, rfl⟩)
  go_ret3
  exact ⟨rfl, 0, rfl⟩
theorem bT_eq {s : ByteArray} {l : List UInt8} (h : s.data.toList = l) : s = bT l := by rw [← h, bT_data]
theorem cut_at (s : ByteArray) (c : UInt8) (a b : List UInt8) (w : World) (hs : s.size ≤ 140737488351232) (h : s.data.toList = a ++ c :: b) (hc : c ∉ a) :
    Calls Try.prog 39 #[.string s, .string ⟨#[c]⟩] w fun e w' => e = .returned (.tuple #[.string (bT a), .string (bT b), .bool true]) ∧ Below w.heap.size w w' := by
  have hz : s.data.toList.length = s.size := by simp
  have hl : s.size = a.length + 1 + b.length := by rw [← hz, h]; simp; omega
  have hi : Lib.indexByte s.data.toList c = (a.length : Int) := by
    rcases index_at c s.data.toList with ⟨h1, _⟩ | ⟨a', b', h1, h2, h3⟩
    · exact absurd (by rw [h]; simp) h1
    · obtain ⟨rfl, rfl⟩ := first_one (h1.symm.trans h) h2 hc
      exact h3
  have hC := slCut_at s c a.length w hs (by omega) hi
  have e1 : s.extract 0 a.length = bT a := bT_eq (by rw [extract_take, h, List.take_left])
  have e2 : s.extract (a.length + 1) s.size = bT b := bT_eq (by rw [extract_list, h, List.drop_append]; simp)
  rw [e1, e2] at hC
  clear e1 e2 hi hl hz h
  go_enter Try.func39, Try.ntmps39
  go_wp2_with (go_at_call 49; refine hC.mono ?_; rintro e w2 ⟨rfl, q, hw2⟩)
  go_ret3
  exact ⟨rfl, below_drewN (Below.refl _ _) q⟩
theorem cut_no (s : ByteArray) (c : UInt8) (w : World) (hc : c ∉ s.data.toList) :
    Calls Try.prog 39 #[.string s, .string ⟨#[c]⟩] w fun e w' => e = .returned (.tuple #[.string s, .string ⟨#[]⟩, .bool false]) ∧ Below w.heap.size w w' := by
  have hi : Lib.indexByte s.data.toList c = -1 := by
    rcases index_at c s.data.toList with ⟨_, h2⟩ | ⟨a', b', h1, h2, h3⟩
    · exact h2
    · exact absurd (by rw [h1]; simp) hc
  have hC := slCut_no s c w hi
  go_enter Try.func39, Try.ntmps39
  go_wp2_with (go_at_call 49; refine hC.mono ?_; rintro e w2 ⟨rfl, q, hw2⟩)
  go_ret3
  exact ⟨rfl, below_drewN (Below.refl _ _) q⟩
end Go.Proofs.Ytcdlleeonfnamaa
