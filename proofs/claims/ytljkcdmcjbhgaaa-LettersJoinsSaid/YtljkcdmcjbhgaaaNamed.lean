import Derived.Test.YtljkcdmcjbhgaaaAlive
import Derived.Test.YtljkcdmcjbhgaaaPlain
namespace Go.Proofs.Ytljkcdmcjbhgaaa
open Go.RowKit

theorem byte_of {n : Int} (h : (Lit.int .u8 n).wf = true) : ∃ c : UInt8, n = (c.toNat : Int) := by
  have hx : 0 ≤ n ∧ n ≤ 255 := by simpa [Lit.wf, IntKind.min, IntKind.max, IntKind.signed, IntKind.bits] using h
  exact ⟨UInt8.ofNat n.toNat, by simp; omega⟩

theorem isL_low (c : UInt8) : isL ((lowB c).toNat : Int) = isL (c.toNat : Int) := by
  rw [lowB_toNat, Bool.eq_iff_iff]
  unfold lowN isL
  simp only [Bool.or_eq_true, decide_eq_true_eq]
  split <;> omega
theorem nm_low (c : UInt8) : nmB (lowB c) = nmB c := by
  unfold nmB
  rw [lowB_toNat, Bool.eq_iff_iff]
  unfold lowN isA isL isD
  simp only [Bool.or_eq_true, decide_eq_true_eq]
  split <;> omega
theorem name_low (l : List UInt8) (h : nameB l = true) : nameB (lowL l) = true := by
  unfold nameB at *
  simp only [Bool.and_eq_true, decide_eq_true_eq] at *
  obtain ⟨⟨⟨h1, h2⟩, h3⟩, h4⟩ := h
  have hlen : (lowL l).length = l.length := by simp [lowL]
  refine ⟨⟨⟨by omega, by omega⟩, ?_⟩, ?_⟩
  · cases l with
    | nil => simp at h1
    | cons c l => simpa [lowL, isL_low] using h3
  · unfold lowL
    rw [List.all_map]
    simpa [Function.comp_def, nm_low] using h4

theorem name_snoc_yes (l : List UInt8) (c : UInt8) (h : nameB l = true) : nameB (l ++ [c]) = (nmB c && decide (l.length < 60)) := by
  unfold nameB at *
  simp only [Bool.and_eq_true, decide_eq_true_eq] at h
  obtain ⟨⟨⟨h1, h2⟩, h3⟩, h4⟩ := h
  cases l with
  | nil => simp at h1
  | cons d l =>
    have e1 : decide (1 ≤ (d :: l ++ [c]).length) = true := by simp
    have e2 : decide ((d :: l ++ [c]).length ≤ 60) = decide ((d :: l).length < 60) := by rw [decide_eq_decide]; simp; omega
    have e3 : isL (((d :: l ++ [c]).headD 0).toNat : Int) = true := by simpa using h3
    have e4 : (d :: l ++ [c]).all nmB = nmB c := by rw [List.all_append, h4]; simp
    rw [e1, e2, e3, e4]
    simp [Bool.and_comm]

theorem name_snoc_no (l : List UInt8) (c : UInt8) (h : nameB l = false) (h0 : l ≠ []) : nameB (l ++ [c]) = false := by
  unfold nameB at *
  cases l with
  | nil => exact absurd rfl h0
  | cons d l =>
    rw [List.all_append]
    by_cases h2 : (d :: l).length ≤ 60
    · rw [decide_eq_true h2] at h
      cases h3 : isL (((d :: l).headD 0).toNat : Int)
      · have : isL (((d :: l ++ [c]).headD 0).toNat : Int) = false := by simpa using h3
        rw [this]; simp
      · rw [h3] at h
        have : (d :: l).all nmB = false := by simpa using h
        rw [this]; simp
    · have : decide ((d :: l ++ [c]).length ≤ 60) = false := decide_eq_false (by simp at h2 ⊢; omega)
      rw [this]; simp

theorem name_hyphen (l : List UInt8) : nameB (45 :: l) = false := by simp [nameB, isL]
theorem name_one (l : List UInt8) : nameB (49 :: l) = false := by simp [nameB, isL]

theorem cat_data (a b : ByteArray) : (a ++ b).data.toList = a.data.toList ++ b.data.toList := by
  rw [ByteArray.data_append]; simp
theorem cat_size (a b : ByteArray) : (a ++ b).size = a.size + b.size := ByteArray.size_append

/-- 'string([]byte{c})' -/
theorem conv_one (W : World) (c : UInt8) : (convert 31 9 (.slice (some ⟨W.heap.size, 0, none⟩) 1 1)).run Try.prog (W.alloc (.cells #[.int .u8 (c.toNat : Int)] 5)) = .ok (.string ⟨#[c]⟩) (W.alloc (.cells #[.int .u8 (c.toNat : Int)] 5)) := by
  have h := run_convert_bytes_back (P := Try.prog) (W.alloc (.cells #[.int .u8 (c.toNat : Int)] 5)) 31 9 5 ⟨W.heap.size, 0, none⟩ 1 [c] Try.underlying31 Try.underlying5 Try.underlying9 (fun j hj => by
    obtain rfl : j = 0 := by simpa using hj
    simp [Addr.add])
  exact h

theorem conv_one_drew (W : World) (c : UInt8) : (convert 31 9 (.slice (some ⟨W.heap.size, 0, none⟩) 1 1)).run Try.prog (W.alloc (.cells #[.int .u8 (c.toNat : Int)] 5)).drew = .ok (.string ⟨#[c]⟩) (W.alloc (.cells #[.int .u8 (c.toNat : Int)] 5)).drew := by
  have h := run_convert_bytes_back (P := Try.prog) (W.alloc (.cells #[.int .u8 (c.toNat : Int)] 5)).drew 31 9 5 ⟨W.heap.size, 0, none⟩ 1 [c] Try.underlying31 Try.underlying5 Try.underlying9 (fun j hj => by
    obtain rfl : j = 0 := by simpa using hj
    simp [Addr.add])
  exact h

theorem plain_one (c : UInt8) : plainB [c] = alnum c := by simp [plainB]
end Go.Proofs.Ytljkcdmcjbhgaaa
