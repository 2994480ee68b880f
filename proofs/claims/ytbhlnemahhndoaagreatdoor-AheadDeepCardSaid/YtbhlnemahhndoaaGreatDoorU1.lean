/- Merged: Beyond, Small, Name, RefName, Run, May. -/
import Derived.Test.YtbhlnemahhndoaaGreatDoorRows
import Derived.WalkKit
import Derived.WalkSpells
import Derived.WalkLawsBesides
import Derived.Lib.Hide
namespace Go.Proofs.YtbhlnemahhndoaaGreatDoor
open Go.RowKit

theorem ret_bool {a b : Bool} (h : a = b) : Ending.returned (.bool a) = .returned (.bool b) := by rw [h]

theorem sum_take_succ (xs : List Int) (k : Nat) (h : k < xs.length) : (xs.take (k + 1)).sum = (xs.take k).sum + xs[k] := by
  rw [List.take_succ_eq_append_getElem h, List.sum_append]; simp

theorem sum_nonneg (xs : List Int) (h : ∀ x ∈ xs, 0 ≤ x) : 0 ≤ xs.sum := by
  induction xs with
  | nil => simp
  | cons x xs ih =>
    have h1 := h x (by simp)
    have h2 := ih (fun y hy => h y (by simp [hy]))
    simp only [List.sum_cons]; omega

theorem sum_take_le (xs : List Int) (k : Nat) (h : ∀ x ∈ xs, 0 ≤ x) : (xs.take k).sum ≤ xs.sum := by
  have e : xs.sum = (xs.take k).sum + (xs.drop k).sum := by rw [← List.sum_append, List.take_append_drop]
  have := sum_nonneg (xs.drop k) (fun x hx => h x (List.mem_of_mem_drop hx))
  omega

set_option maxHeartbeats 400000 in
theorem beyond_any (b : Nat) (xs : List Int) (w : World) (hn : xs.length ≤ 100) (hx : ∀ i, i < xs.length → w.cell? ⟨b, i, none⟩ = some (.int .i64 (xs[i]?.getD 0)))
    (hp : ∀ x ∈ xs, 0 ≤ x ∧ x ≤ 140737488351232) :
    Calls Tryz.prog 20 #[.slice (some ⟨b, 0, none⟩) xs.length xs.length] w fun e w' => e = .returned (.bool (decide (1048576 < xs.sum))) ∧ w = w' := by
  go_enter Tryz.func20, Tryz.ntmps20
  go_wp2
  go_loop [3, 4] (fun n i => ∃ k : Nat, k ≤ xs.length ∧ (xs.take k).sum ≤ 1048576 ∧ 0 ≤ (xs.take k).sum ∧ i = .int .i64 k ∧ n = .int .i64 ((xs.take k).sum)) (fun _ i => xs.length - (intOf i).toNat)
  case atStart => exact ⟨0, by omega, by simp, by simp, rfl, by simp⟩
  case round =>
    obtain ⟨k, hk, hs, hs0, rfl, rfl⟩ := hrel
    by_cases hlt : k < xs.length
    · have hc := hx k hlt
      obtain ⟨hb1, hb2⟩ := hp xs[k] (List.getElem_mem hlt)
      have HS := Lib.hid (sum_take_succ xs k hlt)
      have HL := sum_take_le xs (k + 1) (fun x hx => (hp x hx).1)
      clear hx
      go_wp2
      · go_ret
        have h1 : 1048576 < (List.take k xs).sum + xs[k] := by assumption
        have h2 := HS.out
        exact ⟨ret_bool (by simp; omega), rfl⟩
      · have h1 : (List.take k xs).sum + xs[k] ≤ 1048576 := by assumption
        go_round
        case rel => exact ⟨k + 1, by omega, by rw [HS.out]; exact h1, by rw [HS.out]; omega, by go_num, by rw [HS.out]⟩
        case measure => simp [intOf]; omega
    · have hk' : k = xs.length := by omega
      have HE : Hid (List.take k xs = xs) := by exact Lib.hid (by rw [hk', List.take_length])
      clear hk'
      go_wp2
      go_ret
      rw [HE.out] at hs
      exact ⟨ret_bool (by simp; omega), rfl⟩

theorem beyond1 (b : Nat) (x : Int) (w : World) (h0 : w.cell? ⟨b, 0, none⟩ = some (.int .i64 x)) (hx : 0 ≤ x ∧ x ≤ 140737488351232) :
    Calls Tryz.prog 20 #[.slice (some ⟨b, 0, none⟩) 1 1] w fun e w' => e = .returned (.bool (decide (1048576 < x))) ∧ w = w' := by
  have := beyond_any b [x] w (by simp) (by intro i hi; have : i = 0 := by simp at hi; omega
                                           subst this; simpa using h0) (by simpa using hx)
  simpa using this

theorem beyond2 (b : Nat) (x y : Int) (w : World) (h0 : w.cell? ⟨b, 0, none⟩ = some (.int .i64 x)) (h1 : w.cell? ⟨b, 1, none⟩ = some (.int .i64 y)) (hx : 0 ≤ x ∧ x ≤ 140737488351232) (hy : 0 ≤ y ∧ y ≤ 140737488351232) :
    Calls Tryz.prog 20 #[.slice (some ⟨b, 0, none⟩) 2 2] w fun e w' => e = .returned (.bool (decide (1048576 < x + y))) ∧ w = w' := by
  have := beyond_any b [x, y] w (by simp) (by intro i hi; have : i = 0 ∨ i = 1 := by simp at hi; omega
                                              rcases this with rfl | rfl <;> simpa) (by simpa using ⟨hx, hy⟩)
  simpa using this

theorem beyond3 (b : Nat) (x y z : Int) (w : World) (h0 : w.cell? ⟨b, 0, none⟩ = some (.int .i64 x)) (h1 : w.cell? ⟨b, 1, none⟩ = some (.int .i64 y)) (h2 : w.cell? ⟨b, 2, none⟩ = some (.int .i64 z))
    (hx : 0 ≤ x ∧ x ≤ 140737488351232) (hy : 0 ≤ y ∧ y ≤ 140737488351232) (hz : 0 ≤ z ∧ z ≤ 140737488351232) :
    Calls Tryz.prog 20 #[.slice (some ⟨b, 0, none⟩) 3 3] w fun e w' => e = .returned (.bool (decide (1048576 < x + y + z))) ∧ w = w' := by
  have := beyond_any b [x, y, z] w (by simp) (by intro i hi; have : i = 0 ∨ i = 1 ∨ i = 2 := by simp at hi; omega
                                                 rcases this with rfl | rfl | rfl <;> simpa) (by simpa using ⟨hx, hy, hz⟩)
  simpa [← Int.add_assoc] using this
theorem ret_int {a b : Int} (h : a = b) : Ending.returned (.int .i64 a) = .returned (.int .i64 b) := by rw [h]
theorem ret_v {a b : Value} (h : a = b) : Ending.returned a = .returned b := by rw [h]
theorem quiet_same {P : Program} {f : FuncId} {args : Array Value} {w : World} {a n : Nat} {v : Value} (h : Calls P f args (w.drewN (a + n)) fun e w' => e = .returned v ∧ w.drewN (a + n) = w') :
    Calls P f args (w.drewN (a + n)) fun e w'' => e = .returned v ∧ ∃ m, w'' = w.drewN (a + m) := h.mono fun _ _ ⟨he, hm⟩ => ⟨he, n, hm.symm⟩
theorem below_drewN {B : Nat} {a w : World} (h : Below B a w) (n : Nat) : Below B a (w.drewN n) := ⟨h.os, h.tape, h.output, h.size, h.block⟩

end Go.Proofs.YtbhlnemahhndoaaGreatDoor
namespace Go.Proofs.YtbhlnemahhndoaaGreatDoor
open Go.RowKit

/-- a letter, as a byte's number -/
def isL (n : Int) : Bool := decide (97 ≤ n ∧ n ≤ 122) || decide (65 ≤ n ∧ n ≤ 90)
def isD (n : Int) : Bool := decide (48 ≤ n ∧ n ≤ 57)
/-- a letter or a digit -/
def isA (n : Int) : Bool := isL n || isD n

set_option maxHeartbeats 400000 in
theorem isLetter_any (n : Int) (w : World) :
    Calls Tryz.prog 107 #[.int .u8 n] w fun e w' => e = .returned (.bool (isL n)) ∧ w = w' := by
  go_enter Tryz.func107, Tryz.ntmps107
  by_cases h1 : 97 ≤ n <;> by_cases h2 : n ≤ 122 <;> by_cases h3 : 65 ≤ n <;> by_cases h4 : n ≤ 90
  all_goals first | (exfalso; omega) | skip
  all_goals go_wp2
  all_goals go_ret
  all_goals exact ⟨ret_bool (by simp [isL]; omega), rfl⟩

set_option maxHeartbeats 400000 in
theorem isDigit_any (n : Int) (w : World) :
    Calls Tryz.prog 108 #[.int .u8 n] w fun e w' => e = .returned (.bool (isD n)) ∧ w = w' := by
  go_enter Tryz.func108, Tryz.ntmps108
  by_cases h1 : 48 ≤ n <;> by_cases h2 : n ≤ 57
  all_goals first | (exfalso; omega) | skip
  all_goals go_wp2
  all_goals go_ret
  all_goals exact ⟨ret_bool (by simp [isD]; omega), rfl⟩

set_option maxHeartbeats 400000 in
theorem refLetter_any (n : Int) (w : World) :
    Calls Tryz.prog 111 #[.int .u8 n] w fun e w' => e = .returned (.bool (isA n)) ∧ w = w' := by
  go_enter Tryz.func111, Tryz.ntmps111
  by_cases h1 : 97 ≤ n <;> by_cases h2 : n ≤ 122 <;> by_cases h3 : 65 ≤ n <;> by_cases h4 : n ≤ 90 <;> by_cases h5 : 48 ≤ n <;> by_cases h6 : n ≤ 57
  all_goals first | (exfalso; omega) | skip
  all_goals go_wp2
  all_goals go_ret
  all_goals exact ⟨ret_bool (by simp [isA, isL, isD]; omega), rfl⟩
end Go.Proofs.YtbhlnemahhndoaaGreatDoor
namespace Go.Proofs.YtbhlnemahhndoaaGreatDoor
open Go.RowKit

/-- a byte that a name may have -/
def nmB (c : UInt8) : Bool := isA c.toNat || decide ((c.toNat : Int) = 45)
/-- is a text a name? -/
def nameB (l : List UInt8) : Bool := decide (1 ≤ l.length) && decide (l.length ≤ 60) && isL (l.headD 0).toNat && l.all nmB

theorem all_take_succ (l : List UInt8) (p : UInt8 → Bool) (k : Nat) (h : k < l.length) (h1 : (l.take k).all p = true) (h2 : p l[k] = true) : (l.take (k + 1)).all p = true := by
  rw [List.take_succ_eq_append_getElem h, List.all_append, h1]; simp [h2]
theorem all_false (l : List UInt8) (p : UInt8 → Bool) (k : Nat) (h : k < l.length) (h2 : p l[k] = false) : l.all p = false := by
  rw [List.all_eq_false]; exact ⟨l[k], List.getElem_mem h, by simp [h2]⟩
theorem headD_eq (l : List UInt8) (h : 0 < l.length) : l.headD 0 = l[0] := by cases l with | nil => simp at h | cons a r => rfl
theorem nameB_yes (l : List UInt8) (h0 : 1 ≤ l.length) (h60 : l.length ≤ 60) (hl : isL (l[0]).toNat = true) (ha : l.all nmB = true) : nameB l = true := by
  unfold nameB; rw [headD_eq l (by omega)]; simp [h0, h60, hl, ha]
theorem nameB_all (l : List UInt8) (ha : l.all nmB = false) : nameB l = false := by
  unfold nameB; rw [ha]; simp
theorem nameB_head (l : List UInt8) (h0 : 1 ≤ l.length) (ha : isL (l[0]).toNat = false) : nameB l = false := by
  unfold nameB; rw [headD_eq l (by omega), ha]; simp
theorem nameB_short (l : List UInt8) (h0 : ¬ 1 ≤ l.length) : nameB l = false := by
  unfold nameB; rw [decide_eq_false h0]; simp
theorem nameB_long (l : List UInt8) (h0 : ¬ l.length ≤ 60) : nameB l = false := by
  unfold nameB; rw [decide_eq_false h0]; simp

set_option maxHeartbeats 400000 in
theorem name_any (s : ByteArray) (w : World) (hs : s.size ≤ maxLen) :
    Calls Tryz.prog 37 #[.string s] w fun e w' => e = .returned (.bool (nameB s.data.toList)) ∧ w = w' := by
  unfold maxLen at hs
  have hz : s.data.toList.length = s.size := by simp
  by_cases h0 : 1 ≤ s.size
  · by_cases h60 : s.size ≤ 60
    · by_cases hl : isL ↑s[0].toNat = true
      · go_enter Tryz.func37, Tryz.ntmps37
        go_wp2_with (go_at_call 107; refine (isLetter_any _ _).mono ?_; rintro e w' ⟨rfl, rfl⟩)
        go_loop [20] (fun i => ∃ k : Nat, k ≤ s.size ∧ i = .int .i64 k ∧ (s.data.toList.take k).all nmB = true) (fun i => s.size - (intOf i).toNat)
        case atStart => exact ⟨0, by omega, rfl, by simp⟩
        case round =>
          obtain ⟨k, hk, rfl, ha⟩ := hrel
          have HA := Lib.hid ha
          clear ha
          by_cases hlt : k < s.size
          · have HY := Lib.hid (fun (h2 : nmB s[k] = true) => all_take_succ s.data.toList nmB k (by simpa using hlt) HA.out h2)
            have HN := Lib.hid (fun (h2 : nmB s[k] = false) => nameB_all _ (all_false s.data.toList nmB k (by simpa using hlt) h2))
            by_cases h1 : isL ↑s[k].toNat = true
            · go_wp2_with (first | (go_at_call 107; refine (isLetter_any _ _).mono ?_; rintro e w' ⟨rfl, rfl⟩) | (go_at_call 108; refine (isDigit_any _ _).mono ?_; rintro e w' ⟨rfl, rfl⟩))
              go_round
              case rel => exact ⟨k + 1, by omega, by go_num, HY.out (by simp [nmB, isA, h1])⟩
              case measure => simp [intOf]; omega
            · by_cases h2 : isD ↑s[k].toNat = true
              · go_wp2_with (first | (go_at_call 107; refine (isLetter_any _ _).mono ?_; rintro e w' ⟨rfl, rfl⟩) | (go_at_call 108; refine (isDigit_any _ _).mono ?_; rintro e w' ⟨rfl, rfl⟩))
                go_round
                case rel => exact ⟨k + 1, by omega, by go_num, HY.out (by simp [nmB, isA, h2])⟩
                case measure => simp [intOf]; omega
              · go_wp2_with (first | (go_at_call 107; refine (isLetter_any _ _).mono ?_; rintro e w' ⟨rfl, rfl⟩) | (go_at_call 108; refine (isDigit_any _ _).mono ?_; rintro e w' ⟨rfl, rfl⟩))
                · go_ret
                  have h3 : (↑s[k].toNat != (45 : Int)) = true := by assumption
                  exact ⟨ret_bool (HN.out (by simp [nmB, isA, h1, h2]; simpa using h3)).symm, rfl⟩
                · have h3 : (↑s[k].toNat != (45 : Int)) = false := by assumption
                  go_round
                  case rel => exact ⟨k + 1, by omega, by go_num, HY.out (by simp [nmB]; right; simpa using h3)⟩
                  case measure => simp [intOf]; omega
          · have HE := Lib.hid (show s.data.toList.take k = s.data.toList from List.take_of_length_le (by simp; omega))
            go_wp2
            go_ret
            exact ⟨ret_bool (nameB_yes _ (by omega) (by omega) hl (by rw [← HE.out]; exact HA.out)).symm, rfl⟩
      · go_enter Tryz.func37, Tryz.ntmps37
        go_wp2_with (go_at_call 107; refine (isLetter_any _ _).mono ?_; rintro e w' ⟨rfl, rfl⟩)
        go_ret
        exact ⟨ret_bool (nameB_head _ (by omega) (Bool.eq_false_iff.2 hl)).symm, rfl⟩
    · go_enter Tryz.func37, Tryz.ntmps37
      go_wp2
      go_ret
      exact ⟨ret_bool (nameB_long _ (by omega)).symm, rfl⟩
  · go_enter Tryz.func37, Tryz.ntmps37
    go_wp2
    go_ret
    exact ⟨ret_bool (nameB_short _ (by omega)).symm, rfl⟩
end Go.Proofs.YtbhlnemahhndoaaGreatDoor
namespace Go.Proofs.YtbhlnemahhndoaaGreatDoor
open Go.RowKit

theorem isL_lo {n : Int} (h : isL n = true) : 58 ≤ n := by simp [isL] at h; omega
theorem isL_no {n : Int} (h : ¬ isL n = true) (h2 : isA n = true) : n ≤ 57 := by
  have : isD n = true := by simpa [isA, h] using h2
  simp [isD] at this; omega

set_option maxHeartbeats 400000 in
theorem refName_any (s : ByteArray) (w : World) (hs : s.size ≤ maxLen) :
    Calls Tryz.prog 43 #[.string s] w fun e w' => e = .returned (.bool (nameB s.data.toList)) ∧ w = w' := by
  unfold maxLen at hs
  have hz : s.data.toList.length = s.size := by simp
  by_cases h0 : 1 ≤ s.size
  · by_cases h60 : s.size ≤ 60
    · by_cases hl : isL ↑s[0].toNat = true
      · have hlo := isL_lo hl
        have hl2 : (isA ↑s[0].toNat) = true := by simp [isA, hl]
        go_enter Tryz.func43, Tryz.ntmps43
        go_wp2_with (go_at_call 111; refine (refLetter_any _ _).mono ?_; rintro e w' ⟨rfl, rfl⟩)
        go_loop [3] (fun i => ∃ k : Nat, k ≤ s.size ∧ i = .int .i64 k ∧ (s.data.toList.take k).all nmB = true) (fun i => s.size - (intOf i).toNat)
        case atStart => exact ⟨0, by omega, rfl, by simp⟩
        case round =>
          obtain ⟨k, hk, rfl, ha⟩ := hrel
          have HA := Lib.hid ha
          clear ha
          have HL := Lib.hid hl
          clear hl hl2
          by_cases hlt : k < s.size
          · have HY := Lib.hid (fun (h2 : nmB s[k] = true) => all_take_succ s.data.toList nmB k (by simpa using hlt) HA.out h2)
            have HN := Lib.hid (fun (h2 : nmB s[k] = false) => nameB_all _ (all_false s.data.toList nmB k (by simpa using hlt) h2))
            cases h1 : (isA ↑s[k].toNat)
            · go_wp2_with (go_at_call 111; refine (refLetter_any _ _).mono ?_; rintro e w' ⟨rfl, rfl⟩)
              · go_ret
                have h3 : (↑s[k].toNat != (45 : Int)) = true := by assumption
                exact ⟨ret_bool (HN.out (by unfold nmB; rw [h1]; simpa using h3)).symm, rfl⟩
              · have h3 : (↑s[k].toNat != (45 : Int)) = false := by assumption
                go_round
                case rel => exact ⟨k + 1, by omega, by go_num, HY.out (by unfold nmB; rw [h1]; simpa using h3)⟩
                case measure => simp [intOf]; omega
            · go_wp2_with (go_at_call 111; refine (refLetter_any _ _).mono ?_; rintro e w' ⟨rfl, rfl⟩)
              go_round
              case rel => exact ⟨k + 1, by omega, by go_num, HY.out (by unfold nmB; rw [h1]; rfl)⟩
              case measure => simp [intOf]; omega
          · have HE := Lib.hid (show s.data.toList.take k = s.data.toList from List.take_of_length_le (by simp; omega))
            go_wp2
            go_ret
            exact ⟨ret_bool (nameB_yes _ (by omega) (by omega) HL.out (by rw [← HE.out]; exact HA.out)).symm, rfl⟩
      · have HF := Lib.hid (nameB_head s.data.toList (by omega) (Bool.eq_false_iff.2 hl))
        cases hl2 : (isA ↑s[0].toNat)
        · clear hl
          go_enter Tryz.func43, Tryz.ntmps43
          go_wp2_with (go_at_call 111; refine (refLetter_any _ _).mono ?_; rintro e w' ⟨rfl, rfl⟩)
          go_ret
          exact ⟨ret_bool HF.out.symm, rfl⟩
        · have hlo := isL_no hl hl2
          clear hl
          go_enter Tryz.func43, Tryz.ntmps43
          go_wp2_with (go_at_call 111; refine (refLetter_any _ _).mono ?_; rintro e w' ⟨rfl, rfl⟩)
          go_ret
          exact ⟨ret_bool HF.out.symm, rfl⟩
    · go_enter Tryz.func43, Tryz.ntmps43
      go_wp2
      go_ret
      exact ⟨ret_bool (nameB_long _ (by omega)).symm, rfl⟩
  · go_enter Tryz.func43, Tryz.ntmps43
    go_wp2
    go_ret
    exact ⟨ret_bool (nameB_short _ (by omega)).symm, rfl⟩
end Go.Proofs.YtbhlnemahhndoaaGreatDoor
namespace Go.Proofs.YtbhlnemahhndoaaGreatDoor
open Go.RowKit

/-- how many signs of a name a text begins with -/
def runL (l : List UInt8) : Nat := (l.takeWhile nmB).length
theorem runL_le (l : List UInt8) : runL l ≤ l.length := (List.takeWhile_sublist nmB).length_le
theorem run_stop (l : List UInt8) (k : Nat) (h : k < l.length) (h1 : (l.take k).all nmB = true) (h2 : nmB l[k] = false) : runL l = k := by
  have e : l = l.take k ++ l[k] :: l.drop (k + 1) := by rw [← List.drop_eq_getElem_cons h, List.take_append_drop]
  unfold runL
  rw [e, List.takeWhile_append_of_pos (fun x hx => List.all_eq_true.1 h1 x hx), List.takeWhile_cons, h2]
  simp; omega
theorem run_end (l : List UInt8) (h1 : l.all nmB = true) : runL l = l.length := by
  unfold runL
  congr 1
  have := List.takeWhile_append_of_pos (p := nmB) (l₁ := l) (l₂ := []) (fun x hx => List.all_eq_true.1 h1 x hx)
  simpa using this

theorem ret_nat {a b : Nat} (h : a = b) : Ending.returned (.int .i64 (a : Int)) = .returned (.int .i64 (b : Int)) := by rw [h]

set_option maxHeartbeats 1000000 in
theorem refRun_any (s : ByteArray) (w : World) (hs : s.size ≤ maxLen) : Calls Tryz.prog 42 #[.string s] w fun e w' => e = .returned (.int .i64 ((runL s.data.toList : Nat) : Int)) ∧ w = w' := by
  unfold maxLen at hs
  have HZ := Lib.hid (show s.data.toList.length = s.size by simp)
  go_enter Tryz.func42, Tryz.ntmps42
  go_wp2
  go_loop [3] (fun i => ∃ k : Nat, k ≤ s.size ∧ i = .int .i64 k ∧ (s.data.toList.take k).all nmB = true) (fun i => s.size - (intOf i).toNat)
  case atStart => exact ⟨0, by omega, rfl, by simp⟩
  case round =>
    obtain ⟨k, hk, rfl, ha⟩ := hrel
    have HA := Lib.hid ha
    clear ha
    by_cases hlt : k < s.size
    · have HY := Lib.hid (fun (h2 : nmB s[k] = true) => all_take_succ s.data.toList nmB k (by simpa using hlt) HA.out h2)
      have HN := Lib.hid (fun (h2 : nmB s[k] = false) => run_stop s.data.toList k (by simpa using hlt) HA.out h2)
      have hL := refLetter_any (s[k].toNat : Int)
      cases h1 : isA (s[k].toNat : Int) with
      | true =>
        rw [h1] at hL
        have HB : Hid (nmB s[k] = true) := Lib.hid (by unfold nmB; rw [h1]; rfl)
        clear h1
        go_wp2_with (go_at_call 111; refine (hL _).mono ?_; rintro e w' ⟨rfl, rfl⟩)
        go_round
        case rel => exact ⟨k + 1, by omega, by go_num, HY.out HB.out⟩
        case measure => simp [intOf]; omega
      | false =>
        rw [h1] at hL
        by_cases h2 : (s[k].toNat : Int) = 45
        · have HB : Hid (nmB s[k] = true) := Lib.hid (by unfold nmB; rw [decide_eq_true h2]; simp)
          have e : ((s[k].toNat : Int) == 45) = true := by simp [h2]
          clear h1 h2
          go_wp2_with (go_at_call 111; refine (hL _).mono ?_; rintro e w' ⟨rfl, rfl⟩)
          go_round
          case rel => exact ⟨k + 1, by omega, by go_num, HY.out HB.out⟩
          case measure => simp [intOf]; omega
        · have HB : Hid (nmB s[k] = false) := Lib.hid (by unfold nmB; rw [h1, decide_eq_false h2]; rfl)
          have e : ((s[k].toNat : Int) == 45) = false := by simpa using h2
          clear h1 h2
          go_wp2_with (go_at_call 111; refine (hL _).mono ?_; rintro e w' ⟨rfl, rfl⟩)
          go_ret
          exact ⟨ret_nat (HN.out HB.out).symm, rfl⟩
    · have HE := Lib.hid (show s.data.toList.take k = s.data.toList from List.take_of_length_le (by simp; omega))
      go_wp2
      go_ret
      exact ⟨ret_nat (by have := HA.out; rw [HE.out] at this; rw [run_end _ this, HZ.out]; omega), rfl⟩
end Go.Proofs.YtbhlnemahhndoaaGreatDoor
namespace Go.Proofs.YtbhlnemahhndoaaGreatDoor
open Go.RowKit

/-- a byte that a value may have -/
def okB (c : UInt8) : Bool := decide (32 ≤ c.toNat) && !decide (c.toNat = 127)
/-- may a value be? -/
def mayL (l : List UInt8) : Bool := l.all okB && decide (l.length ≤ 1024)

end Go.Proofs.YtbhlnemahhndoaaGreatDoor
