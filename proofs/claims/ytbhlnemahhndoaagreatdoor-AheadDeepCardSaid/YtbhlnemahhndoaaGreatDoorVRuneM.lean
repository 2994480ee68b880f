/- Merged: RuneM. -/
import Derived.Test.YtbhlnemahhndoaaGreatDoorShelfR
import Derived.Test.YtbhlnemahhndoaaGreatDoorLaw
import Derived.Test.YtbhlnemahhndoaaGreatDoorUnder
import Derived.Test.YtbhlnemahhndoaaGreatDoorU1
import Derived.Deep.LoopGhost
import Derived.Deep.QuietTactic
import Derived.BigQuiet
import Derived.Lib.Hide
import Derived.Lib.TrimU
import Derived.Lib.OthersKept
namespace Go.Proofs.YtbhlnemahhndoaaGreatDoor
open Go.RowKit
set_option maxRecDepth 100000

/-! ### a rune that is not of ASCII is no blank -/
theorem conv_rune (R : Int) (w : World) : (convert 21 9 (.int .i32 R)).run Tryz.prog w = .ok (.string (Utf8.encode R)) w := by rfl
set_option maxHeartbeats 4000000 in
theorem rune_err (w : World) : Calls Tryz.prog 221 #[.string ⟨#[32, 9]⟩, .int .i32 65533] w fun e w' => e = .returned (.int .i64 (-1)) ∧ Below w.heap.size w w' := by
  go_enter Tryz.func221, Tryz.ntmps221
  go_wp2
  go_loopg [] 2 (fun gf wr => ∃ pos : Nat, wr.heap[w.heap.size]? = some (.stringIter ⟨#[32, 9]⟩ pos) ∧ Below w.heap.size w wr ∧ pos + gf = 2) 
  case atStart => exact ⟨0, World.iter_heap w ⟨#[32, 9]⟩ 0, (Below.refl _ w).alloc (Nat.le_refl _) _, rfl⟩
  case round =>
    obtain ⟨pos, hit, hbw, hfu⟩ := hrel
    by_cases hps : pos < 2
    · obtain ⟨g', rfl⟩ : ∃ g', gk = g' + 1 := ⟨gk - 1, by omega⟩
      have hnx : ∀ ty, (Instr.next (.pointer (some ⟨w.heap.size, 0, none⟩)) true ty).run Tryz.prog wr = _ := fun ty => Lib.run_next_any_at wr w.heap.size ⟨#[32, 9]⟩ pos ty hit hps
      obtain ⟨r, hr, hr2⟩ : ∃ r, Utf8.decode ⟨#[32, 9]⟩ pos = (r, 1) ∧ r < 128 := by
        rcases (show pos = 0 ∨ pos = 1 by omega) with rfl | rfl
        · exact ⟨32, rfl, by omega⟩
        · exact ⟨9, rfl, by omega⟩
      rw [hr] at hnx
      have hit2 := Lib.iterAt_heap wr w.heap.size ⟨#[32, 9]⟩ pos (pos + 1) hit
      have hbw2 := Lib.below_iterAt hbw (k := w.heap.size) (Nat.le_refl _) ⟨#[32, 9]⟩ (pos + 1)
      have f1 : ((r : Int) == 65533) = false := by rw [beq_eq_false_iff_ne]; omega
      obtain ⟨W, hWd⟩ : ∃ W, wr.iterAt w.heap.size ⟨#[32, 9]⟩ (pos + 1) = W := ⟨_, rfl⟩
      rw [hWd] at hit2 hbw2
      simp only [hWd] at hnx
      clear hWd hit hr
      go_wp2
      go_roundg g'
      case measure => omega
      case rel => exact ⟨pos + 1, hit2, hbw2, by omega⟩
    · have hnx : ∀ ty, (Instr.next (.pointer (some ⟨w.heap.size, 0, none⟩)) true ty).run Tryz.prog wr = _ := fun ty => Lib.run_next_end_at wr w.heap.size ⟨#[32, 9]⟩ pos ty hit hps
      clear hit
      go_wp2
      go_ret
      exact ⟨rfl, hbw⟩
theorem enc_two {R : Nat} (h1 : 128 ≤ R) (h2 : R < 2048) : ∃ x y : UInt8, Utf8.encode (R : Int) = ⟨#[x, y]⟩ ∧ 128 ≤ y.toNat := by
  have hv : Utf8.valid (R : Int) = true := by unfold Utf8.valid; simp; omega
  unfold Utf8.encode
  simp only [hv, if_true, Int.toNat_natCast]
  rw [if_neg (by omega), if_pos (by omega)]
  exact ⟨_, _, rfl, by rw [UInt8.toNat_ofNat']; omega⟩
set_option maxHeartbeats 4000000 in
theorem rune_two (R : Nat) (h1 : 128 ≤ R) (h2 : R < 2048) (w : World) : Calls Tryz.prog 221 #[.string ⟨#[32, 9]⟩, .int .i32 (R : Int)] w fun e w' => e = .returned (.int .i64 (-1)) ∧ Below w.heap.size w w' := by
  obtain ⟨x, y, henc, hy⟩ := enc_two h1 h2
  have hcv := fun w => (conv_rune (R : Int) w).trans (by rw [henc])
  have hV := fun w => (Tryz.utf8_ValidRune (R : Int) w).mono fun e w' h => (⟨h.1.trans (by rw [show Lib.validRune (R : Int) = true by unfold Lib.validRune; simp; omega]), h.2.symm⟩ : e = .returned (.bool true) ∧ w = w')
  have hIB := fun w => (Tryz.strings_IndexByte ⟨#[]⟩ (y.toNat : Int) w).mono fun e w' h => (⟨h.1, h.2 ▸ Below.refl _ _⟩ : e = .returned (.int .i64 (-1)) ∧ Below w.heap.size w w')
  have f1 : ((9 : Int) == (y.toNat : Int)) = false := by rw [beq_eq_false_iff_ne]; omega
  have f2 : ¬ (R : Int) < 128 := by omega
  have f4 : ((9 : Int) != (y.toNat : Int)) = true := by simp only [bne, f1, Bool.not_false]
  have f3 : ((R : Int) == 65533) = false := by rw [beq_eq_false_iff_ne]; omega
  clear henc
  go_enter Tryz.func221, Tryz.ntmps221
  go_wp2_with (first
    | (go_at_call 249; (with_reducible refine (hV _).mono ?_); rintro e w1 ⟨rfl, rfl⟩))
  go_step3
  go_wp2
  go_loopw [9, 10] (fun iv fv wr => iv = .int .i64 1 ∧ fv = .int .i64 0 ∧ wr = w) (fun _ _ _ => 0)
  case atStart => exact ⟨rfl, rfl, rfl⟩
  case round =>
    obtain ⟨rfl, rfl, rfl⟩ := hrel
    go_wp2
    go_step3
    go_wp2
    go_quiet (fail)
    go_wp2
    · refine wp_region_under _ (by kernel_rfl) (by kernel_rfl) (Below.refl _ _) ?_
      repeat (go_big_quiet_step ((go_at_call 248; exact under_call (hIB _))))
      all_goals (refine wpQuiet_nil ?_; intro w3 hw3; obtain ⟨u, hu⟩ := hw3; subst hu)
      go_wp2
      rename_i Q1 _ Q2 _ _ _ _ _
      unfold Exit.noGoto Exit.inBlock
      simp only [Q2, Exit.then, Exit.inBlock, Exit.noGoto, Q1]
      refine bodyPost_ret (results_tmp rfl _ _ _) rfl ?_
      exact ⟨rfl, (below_drewN (Below.refl _ _) _).trans u.ok⟩
    · rename_i hq _ _
      exact absurd (hq.symm.trans f4) (by decide)
theorem valid_rune {R : Nat} (hv : Utf8.valid (R : Int) = true) : Lib.validRune (R : Int) = true := by
  unfold Lib.validRune; unfold Utf8.valid at hv
  simp only [Bool.or_eq_true, Bool.and_eq_true, decide_eq_true_eq] at hv ⊢
  omega
theorem enc_three {R : Nat} (h1 : 2048 ≤ R) (h2 : R < 65536) (hv : Utf8.valid (R : Int) = true) : ∃ x y z : UInt8, Utf8.encode (R : Int) = ⟨#[x, y, z]⟩ := by
  unfold Utf8.encode
  simp only [hv, if_true, Int.toNat_natCast]
  rw [if_neg (by omega), if_neg (by omega), if_pos (by omega)]
  exact ⟨_, _, _, rfl⟩
set_option maxHeartbeats 4000000 in
theorem rune_three (R : Nat) (h1 : 2048 ≤ R) (h2 : R < 65536) (hv : Utf8.valid (R : Int) = true) (hne : R ≠ 65533) (w : World) : Calls Tryz.prog 221 #[.string ⟨#[32, 9]⟩, .int .i32 (R : Int)] w fun e w' => e = .returned (.int .i64 (-1)) ∧ Below w.heap.size w w' := by
  obtain ⟨x, y, z, henc⟩ := enc_three h1 h2 hv
  have hcv := fun w => (conv_rune (R : Int) w).trans (by rw [henc])
  have hV := fun w => (Tryz.utf8_ValidRune (R : Int) w).mono fun e w' h => (⟨h.1.trans (by rw [valid_rune hv]), h.2.symm⟩ : e = .returned (.bool true) ∧ w = w')
  have f2 : ¬ (R : Int) < 128 := by omega
  have f3 : ((R : Int) == 65533) = false := by rw [beq_eq_false_iff_ne]; omega
  clear henc
  go_enter Tryz.func221, Tryz.ntmps221
  go_wp2_with (first
    | (go_at_call 249; (with_reducible refine (hV _).mono ?_); rintro e w1 ⟨rfl, rfl⟩))
  go_step3
  go_wp2
  go_loopw [9, 10] (fun iv fv wr => iv = .int .i64 2 ∧ fv = .int .i64 0 ∧ wr = w) (fun _ _ _ => 0)
  case atStart => exact ⟨rfl, rfl, rfl⟩
  case round =>
    obtain ⟨rfl, rfl, rfl⟩ := hrel
    go_wp2
    simp only [Exit.inBlock, Exit.noGoto]
    refine bodyPost_ret (results_tmp rfl _ _ _) rfl ?_
    exact ⟨rfl, Below.refl _ _⟩

theorem enc_four {R : Nat} (h1 : 65536 ≤ R) (hv : Utf8.valid (R : Int) = true) : ∃ x y z u : UInt8, Utf8.encode (R : Int) = ⟨#[x, y, z, u]⟩ := by
  unfold Utf8.encode
  simp only [hv, if_true, Int.toNat_natCast]
  rw [if_neg (by omega), if_neg (by omega), if_neg (by omega)]
  exact ⟨_, _, _, _, rfl⟩
set_option maxHeartbeats 4000000 in
theorem rune_four (R : Nat) (h1 : 65536 ≤ R) (hv : Utf8.valid (R : Int) = true) (w : World) : Calls Tryz.prog 221 #[.string ⟨#[32, 9]⟩, .int .i32 (R : Int)] w fun e w' => e = .returned (.int .i64 (-1)) ∧ Below w.heap.size w w' := by
  obtain ⟨x, y, z, u, henc⟩ := enc_four h1 hv
  have hcv := fun w => (conv_rune (R : Int) w).trans (by rw [henc])
  have hV := fun w => (Tryz.utf8_ValidRune (R : Int) w).mono fun e w' h => (⟨h.1.trans (by rw [valid_rune hv]), h.2.symm⟩ : e = .returned (.bool true) ∧ w = w')
  have f2 : ¬ (R : Int) < 128 := by omega
  have f3 : ((R : Int) == 65533) = false := by rw [beq_eq_false_iff_ne]; omega
  clear henc
  go_enter Tryz.func221, Tryz.ntmps221
  go_wp2_with (first
    | (go_at_call 249; (with_reducible refine (hV _).mono ?_); rintro e w1 ⟨rfl, rfl⟩))
  go_step3
  go_wp2
  go_loopw [9, 10] (fun iv fv wr => iv = .int .i64 3 ∧ fv = .int .i64 0 ∧ wr = w) (fun _ _ _ => 0)
  case atStart => exact ⟨rfl, rfl, rfl⟩
  case round =>
    obtain ⟨rfl, rfl, rfl⟩ := hrel
    go_wp2
    simp only [Exit.inBlock, Exit.noGoto]
    refine bodyPost_ret (results_tmp rfl _ _ _) rfl ?_
    exact ⟨rfl, Below.refl _ _⟩

end Go.Proofs.YtbhlnemahhndoaaGreatDoor
