import Derived.Test.YtllpikcfjlibeaaDigitsW
import Derived.Laws.IdiomStrings
namespace Go.Proofs.Ytllpikcfjlibeaa
open Go.RowKit

theorem RowIn.cell {w : World} {b : Nat} {l : List UInt8} (h : RowIn w b l) (j : Nat) (hj : j < 16) : w.cell? ⟨b, j, none⟩ = some (.int .u8 ((l.getD j 0).toNat : Int)) := by
  rw [cell_of_row w b j _ _ _ h.1]
  have hl := h.2
  unfold rowV
  rw [List.getElem?_toArray, List.getElem?_map, List.getD_eq_getElem?_getD, List.getElem?_eq_getElem (by omega)]
  rfl
theorem RowIn.free {w : World} {b : Nat} {l : List UInt8} (h : RowIn w b l) (j : Nat) : w.frozen? ⟨b, j, none⟩ = false := by simp [World.frozen?, h.1]
theorem rowV_set (l : List UInt8) (j : Nat) (x : UInt8) : (rowV l).setIfInBounds j (.int .u8 (x.toNat : Int)) = rowV (l.set j x) := by
  unfold rowV
  rw [List.setIfInBounds_toArray, List.map_set]
theorem RowIn.set {w : World} {b : Nat} {l : List UInt8} (h : RowIn w b l) (j : Nat) (x : UInt8) : RowIn (w.setCell ⟨b, j, none⟩ (.int .u8 (x.toNat : Int))) b (l.set j x) := by
  rw [setCell_eq_setRow w b j _ _ _ _ h.1, rowV_set]
  exact h.row _ (by rw [List.length_set]; exact h.2)
theorem RowIn.setOther {w : World} {b c : Nat} {l : List UInt8} (h : RowIn w b l) (hne : b ≠ c) (j : Nat) (v : Value) : RowIn (w.setCell ⟨c, j, none⟩ v) b l :=
  ⟨by rw [Below.heap_setCell _ _ _ _ (by simpa using hne)]; exact h.1, h.2⟩
/-- 'string(row[:])' -/
theorem conv_row (w : World) (b : Nat) (l : List UInt8) (h : RowIn w b l) : (convert 35 9 (.slice (some ⟨b, 0, none⟩) 16 16)).run Try.prog w = .ok (.string ⟨l.toArray⟩) w := by
  have := run_convert_bytes_back (P := Try.prog) w 35 9 5 ⟨b, 0, none⟩ 16 l Try.underlying35 Try.underlying5 Try.underlying9 (fun j hj => by
    have hl := h.2
    have e := h.cell j (by omega)
    have ea : (⟨b, 0, none⟩ : Addr).add j = ⟨b, j, none⟩ := by by_cases hj0 : j = 0 <;> simp [Addr.add, hj0]
    rw [ea, e]; simp [hj])
  rw [h.2] at this
  exact this

/-- the row of which k places are filled -/
def fillD (k d : Nat) : List UInt8 := List.replicate (16 - k) 0 ++ lowD k d
theorem fillD_step (k d : Nat) (hk : k < 16) : (fillD k d).set (15 - k) (hexB (d / 16 ^ k % 16)) = fillD (k + 1) d := by
  unfold fillD
  rw [show 16 - k = (15 - k) + 1 from by omega, List.replicate_succ', List.append_assoc, List.set_append_right _ _ (by simp)]
  simp only [List.length_replicate, Nat.sub_self]
  rw [show 16 - (k + 1) = 15 - k from by omega]
  rfl

set_option maxHeartbeats 400000 in
theorem text_any (d : Nat) (hd : d < 18446744073709551616) (W w : World) (hb : Below W.heap.size W w) : Calls Try.prog 16 #[.int .u64 (d : Int)] w fun e w' => e = .returned (.string ⟨(textD d).toArray⟩) ∧ Below W.heap.size W w' := by
  go_enter Try.func16, Try.ntmps16
  go_wp2_with fail
  refine (digits_any w).mono ?_
  rintro e w1 ⟨rfl, hb1⟩
  have HB1 := Lib.hid (hb.trans (hb1.mono hb.size))
  clear hb1
  have h0 := heap_alloc_new w1 (.cells (rowV zeros) 39)
  have h1 : RowIn (w1.alloc (.cells (rowV zeros) 39)) w1.heap.size zeros := ⟨h0, rfl⟩
  rw [zeros_row] at h1
  have H1 := Lib.hid h1
  clear h0 h1
  go_wp2_with (refine wl_store H1.out (m := hexL) rfl rfl _ _ rfl rfl rfl ?_)
  have hr1 := (H1.out.row hexL rfl)
  have hz := heap_alloc_new ((w1.alloc (.cells (rowV zeros) 39)).setRow w1.heap.size (rowV hexL)) (.cells (rowV zeros) 39)
  have hr2 : RowIn (((w1.alloc (.cells (rowV zeros) 39)).setRow w1.heap.size (rowV hexL)).alloc (.cells (rowV zeros) 39)) (w1.heap.size + 1) zeros := ⟨by simpa using hz, rfl⟩
  clear hz
  rw [zeros_row] at hr2
  have hr3 : RowIn (((w1.alloc (.cells (rowV zeros) 39)).setRow w1.heap.size (rowV hexL)).alloc (.cells (rowV zeros) 39)) w1.heap.size hexL := ⟨by rw [zeros_row, Below.heap_alloc _ _ _ (by simp)]; exact hr1.1, rfl⟩
  rw [zeros_row] at hr3
  have hb3 := ((below_setRow (HB1.out.alloc (HB1.out.size) (.cells (rowV zeros) 39)) (HB1.out.size) (rowV hexL)).alloc (by simp; exact Nat.le_succ_of_le HB1.out.size) (.cells (rowV zeros) 39))
  rw [zeros_row] at hb3
  clear hr1 H1 hb
  go_loopw [0, 7] (fun x i wr => ∃ k : Nat, k ≤ 16 ∧ i = .int .i64 k ∧ x = .int .u64 ((d / 16 ^ k : Nat) : Int) ∧ RowIn wr (w1.heap.size + 1) (fillD k d) ∧ RowIn wr w1.heap.size hexL ∧ Below W.heap.size W wr) (fun _ i _ => 16 - (intOf i).toNat)
  case atStart => exact ⟨0, by omega, rfl, by simp, hr2, hr3, hb3⟩
  case round =>
    clear hr2 hr3 hb3
    obtain ⟨k, hk, rfl, rfl, hr2, hr3, hb3⟩ := hrel
    by_cases hlt : k < 16
    · have HS := Lib.hid (fillD_step k d hlt)
      have HX := Lib.hid (show d / 16 ^ k / 16 = d / 16 ^ (k + 1) by rw [Nat.pow_succ, Nat.div_div_eq_div_mul])
      have HD := Lib.hid (show d / 16 ^ k < 18446744073709551616 from Nat.lt_of_le_of_lt (Nat.div_le_self _ _) hd)
      obtain ⟨D, HE⟩ : ∃ D : Nat, Hid (d / 16 ^ k = D) := ⟨_, Lib.hid rfl⟩
      rw [HE.out] at HX HS HD ⊢
      have hD : D < 18446744073709551616 := HD.out
      have hm : D % 16 < 16 := Nat.mod_lt _ (by decide)
      have hc1 := hr3.cell (D % 16) hm
      rw [hexL_at _ hm] at hc1
      have hc2 := hr2.cell (15 - k) (by omega)
      have hf2 := hr2.free (15 - k)
      go_wp2
      refine ⟨⟨k + 1, by omega, by go_num, ?_, ?_, ?_, ?_⟩, by simp [intOf]; omega⟩
      · rw [← HX.out]; rfl
      · rw [← HS.out]; exact hr2.set _ _
      · exact hr3.setOther (by omega) _ _
      · exact hb3.setCell (Nat.le_succ_of_le HB1.out.size) _
    · have hk16 : k = 16 := by omega
      subst hk16
      have hcv := conv_row wr (w1.heap.size + 1) (fillD 16 d) hr2
      have HB := Lib.hid hb3
      clear hr2 hr3 hb3
      go_wp2
      go_ret
      exact ⟨rfl, HB.out⟩

/-- 'string of a digit' of the sixteen -/
theorem digit_slice : ∀ r, r < 16 → ((⟨#[48, 49, 50, 51, 52, 53, 54, 55, 56, 57, 97, 98, 99, 100, 101, 102]⟩ : ByteArray).extract r (r + 1)) = ⟨#[hexB r]⟩ := by decide +kernel

set_option maxHeartbeats 400000 in
theorem refText_any (d : Nat) (hd : d < 18446744073709551616) (w : World) : Calls Try.prog 17 #[.int .u64 (d : Int)] w fun e w' => e = .returned (.string ⟨(textD d).toArray⟩) ∧ w = w' := by
  go_enter Try.func17, Try.ntmps17
  go_wp2
  go_loop [0, 3, 4] (fun x s i => ∃ (k : Nat) (t : ByteArray), k ≤ 16 ∧ i = .int .i64 k ∧ x = .int .u64 ((d / 16 ^ k : Nat) : Int) ∧ s = .string t ∧ t = ⟨(lowD k d).toArray⟩) (fun _ _ i => 16 - (intOf i).toNat)
  case atStart => exact ⟨0, ⟨#[]⟩, by omega, rfl, by simp, rfl, rfl⟩
  case round =>
    obtain ⟨k, t, hk, rfl, rfl, rfl, ht⟩ := hrel
    have HT := Lib.hid ht
    have hz : t.size = k := by rw [ht]; show (lowD k d).toArray.size = k; simp [lowD_length]
    clear ht
    by_cases hlt : k < 16
    · have HX := Lib.hid (show d / 16 ^ k / 16 = d / 16 ^ (k + 1) by rw [Nat.pow_succ, Nat.div_div_eq_div_mul])
      have HD := Lib.hid (show d / 16 ^ k < 18446744073709551616 from Nat.lt_of_le_of_lt (Nat.div_le_self _ _) hd)
      have HS : Hid (lowD (k + 1) d = hexB (d / 16 ^ k % 16) :: lowD k d) := Lib.hid rfl
      obtain ⟨D, HE⟩ : ∃ D : Nat, Hid (d / 16 ^ k = D) := ⟨_, Lib.hid rfl⟩
      rw [HE.out] at HX HS HD ⊢
      have hD : D < 18446744073709551616 := HD.out
      have hm : D % 16 < 16 := Nat.mod_lt _ (by decide)
      have hx := digit_slice _ hm
      go_wp2
      refine ⟨⟨k + 1, _, by omega, by go_num, ?_, rfl, ?_⟩, by simp [intOf]; omega⟩
      · rw [← HX.out]; rfl
      · rw [HS.out, HT.out]
        apply ByteArray.ext
        simp
    · have hk16 : k = 16 := by omega
      subst hk16
      go_wp2
      go_ret
      exact ⟨by rw [HT.out]; rfl, rfl⟩
end Go.Proofs.Ytllpikcfjlibeaa
