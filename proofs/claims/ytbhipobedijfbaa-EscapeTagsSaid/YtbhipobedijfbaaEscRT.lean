import Derived.Test.YtbhipobedijfbaaEscF
namespace Go.Proofs.Ytbhipobedijfbaa
open Go.RowKit Go.Maps
set_option maxRecDepth 100000

/-! ### the document's own answer: Text -/
theorem text_next (s : ByteArray) (k : Nat) (h : k < s.size) : textL (s.data.toList.take (k + 1)) = textL (s.data.toList.take k) ++ oneL s[k] := by
  have hl : k < s.data.toList.length := by simpa using h
  rw [List.take_succ_eq_append_getElem hl, text_append]
  congr 1
  show oneL s[k] ++ [] = _
  simp
theorem str_ne {b : ByteArray} (h : ¬ b.size = 0) : b.toList.isEmpty = false := by
  rw [Go.ByteArray.toList_eq, List.isEmpty_eq_false_iff]
  intro e
  have := congrArg List.length e
  simp at this
  exact h (by rw [this]; rfl)
theorem text_take_len (s : ByteArray) (k : Nat) : (textL (s.data.toList.take k)).length ≤ 6 * s.size := by
  have h1 := text_len (s.data.toList.take k)
  rw [List.length_take] at h1
  have h2 := size_len s
  omega

set_option maxHeartbeats 4000000 in
theorem refText_c (s : ByteArray) (w : World) (hs : s.size ≤ 10000000) : Calls Try.prog 13 #[.string s] w fun e w' => e = .returned (.string (bT (textL s.data.toList))) ∧ Below w.heap.size w w' := by
  obtain ⟨i0, hi, hz0, hz1, hz2⟩ := info_parts byteInfo
  have HST := Lib.hid stands_c
  have HL := Lib.hid (text_take_len s)
  go_enter Try.func13, Try.ntmps13
  go_wp2
  go_loopw [3, 4] (fun bv0 iv wr => ∃ bv, bv = bv0 ∧ ∃ k : Nat, k ≤ s.size ∧ iv = .int .i64 (k : Int) ∧ wr.ownsRow w.heap.size 5 1 bv (textL (s.data.toList.take k)).length (Lib.byteCells (textL (s.data.toList.take k))) ∧ Below w.heap.size w wr) (fun _ iv _ => s.size - (intOf iv).toNat)
  case atStart => exact ⟨_, rfl, 0, by omega, rfl, ⟨rfl, .inl ⟨rfl, rfl⟩⟩, Below.refl _ _⟩
  case round =>
    obtain ⟨bv, rfl, k, hk, rfl, hrow, hbel⟩ := hrel
    have HR := Lib.hid hrow
    have hzz := hbel.size
    have HB := Lib.hid hbel
    have hlen := HL.out k
    by_cases hlt : k < s.size
    · have HT := Lib.hid (text_next s k hlt)
      obtain ⟨c, hc⟩ : ∃ c, s[k] = c := ⟨_, rfl⟩
      rw [hc] at HT
      clear hrow
      cases hm : markL c with
      | none =>
        have h1 : stB c = ⟨#[]⟩ := by unfold stB; rw [hm]; rfl
        have h2 : oneL c = [c] := by unfold oneL; rw [hm]; rfl
        have HS := fun w => (stands_c c w)
        rw [h1] at HS
        rw [h2] at HT
        clear h1 h2 hm
        go_wp2_with (first
          | (go_at_call 25; refine (HS _).mono ?_; rintro e w2 ⟨rfl, rfl⟩)
          | (at_builtin; refine wpList_append_own _ rfl _ _ 44 rfl w.heap.size 5 i0 (.int .u8 0) 1 1 Try.underlying44 hi hz0 hz1 hz2 rfl (by decide) _ _ _ rfl (HR.out.alloc _) ⟨wr.heap.size, 0, none⟩ 1 1 [.int .u8 (c.toNat : Int)] rfl rfl (cell_one_new _ _ _) (by simp [Value.oneCell']) (by unfold maxLen; omega) (by omega) (by simp; omega) ?_; intro bv6 w6 r6 g6 _))
        have hb6 : Below w.heap.size w w6 := (behind HB.out (laidNew wr _)).grown g6 (by simp; omega) (fun j e => by have := (HR.out.lt j e).1; omega)
        have r7 : w6.ownsRow w.heap.size 5 1 bv6 (textL (s.data.toList.take (k + 1))).length (Lib.byteCells (textL (s.data.toList.take (k + 1)))) := by
          rw [HT.out, List.length_append]
          have : Lib.byteCells (textL (s.data.toList.take k) ++ [c]) = Lib.byteCells (textL (s.data.toList.take k)) ++ [.int .u8 (c.toNat : Int)] := by simp [Lib.byteCells]
          rw [this]; exact r6
        go_roundw
        case rel => exact ⟨_, rfl, k + 1, by omega, by go_num, r7, hb6⟩
        case measure => simp [intOf]; omega
      | some m =>
        have h1 : stB c = bT m := by unfold stB; rw [hm]; rfl
        have h2 : oneL c = m := by unfold oneL; rw [hm]; rfl
        obtain ⟨mb, hmb⟩ : ∃ mb, bT m = mb := ⟨_, rfl⟩
        have hml : mb.data.toList = m := by rw [← hmb, bT_list]
        have hmz : mb.size ≤ 6 := by rw [size_len, hml, ← h2]; exact oneL_len c
        have hm0 : ¬ mb.size = 0 := by
          obtain ⟨t, e⟩ := markL_head hm
          rw [size_len, hml, e]; simp
        have hne := str_ne hm0
        have HS := fun w => (stands_c c w)
        rw [h1, hmb] at HS
        rw [h2, ← hml] at HT
        clear h1 h2 hm hmb hml hm0
        go_wp2_with (first
          | (go_at_call 25; refine (HS _).mono ?_; rintro e w2 ⟨rfl, rfl⟩)
          | (at_builtin; refine Lib.wpList_append_own_string _ rfl _ _ 44 9 rfl w.heap.size 5 i0 Try.underlying44 Try.underlying9 hi hz0 hz1 hz2 _ _ _ rfl HR.out mb rfl (by unfold maxLen; omega) (by omega) (by omega) ?_; intro bv6 w6 r6 g6 _))
        have hb6 : Below w.heap.size w w6 := HB.out.grown g6 (by omega) (fun j e => by have := (HR.out.lt j e).1; omega)
        have r7 : w6.ownsRow w.heap.size 5 1 bv6 (textL (s.data.toList.take (k + 1))).length (Lib.byteCells (textL (s.data.toList.take (k + 1)))) := by
          rw [HT.out, List.length_append, ← size_len, ← cells_cat]; exact r6
        go_roundw
        case rel => exact ⟨_, rfl, k + 1, by omega, by go_num, r7, hb6⟩
        case measure => simp [intOf]; omega
    · have hcv := conv_row _ _ _ _ _ hrow
      rw [List.take_of_length_le (by simp; omega)] at hcv
      go_wp2
      go_ret
      exact ⟨rfl, HB.out⟩
end Go.Proofs.Ytbhipobedijfbaa
