import Derived.Test.YtcdlleeonfnamaaSmall
namespace Go.Proofs.Ytcdlleeonfnamaa
open Go.RowKit

/-- a byte that a name may have -/
def nmB (c : UInt8) : Bool := isA c.toNat || decide ((c.toNat : Int) = 45)
/-- is a text a name? -/
def nameB (l : List UInt8) : Bool := decide (1 ≤ l.length) && decide (l.length ≤ 60) && isL (l.headD 0).toNat && l.all nmB

theorem all_take_succ (l : List UInt8) (p : UInt8 → Bool) (k : Nat) (h : k < l.length) (h1 : (l.take k).all p = true) (h2 : p l[k] = true) : (l.take (k + 1)).all p = true := by
  rw [List.take_succ_eq_append_getElem h, List.all_append, h1]; simp [h2]
theorem all_false (l : List UInt8) (p : UInt8 → Bool) (k : Nat) (h : k < l.length) (h2 : p l[k] = false) : l.all p = false := by
  rw [List.all_eq_false]; exact ⟨l[k], List.getElem_mem h, by simp [h2]⟩
theorem headD_eq (l : List UInt8) (h : 0 < l.length) : l.headD 0 = l[0] := by cases l with | nil => simp at h | cons a r => rfl
theorem nameB_yes (l : List UInt8) (h0 : 1 ≤ l.length) (h60 : l.length ≤ 60) (hl : isL (l[0]).toNat = true) (ha : l.all nmB = true) : nameB l = true := by
  unfold nameB; rw [headD_eq l (by omega)]; simp [h0, h60, hl, ha]
theorem nameB_all (l : List UInt8) (ha : l.all nmB = false) : nameB l = false := by
  unfold nameB; rw [ha]; simp
theorem nameB_head (l : List UInt8) (h0 : 1 ≤ l.length) (ha : isL (l[0]).toNat = false) : nameB l = false := by
  unfold nameB; rw [headD_eq l (by omega), ha]; simp
theorem nameB_short (l : List UInt8) (h0 : ¬ 1 ≤ l.length) : nameB l = false := by
  unfold nameB; rw [decide_eq_false h0]; simp
theorem nameB_long (l : List UInt8) (h0 : ¬ l.length ≤ 60) : nameB l = false := by
  unfold nameB; rw [decide_eq_false h0]; simp

set_option maxHeartbeats 400000 in
theorem name_any (s : ByteArray) (w : World) (hs : s.size ≤ maxLen) :
    Calls Try.prog 14 #[.string s] w fun e w' => e = .returned (.bool (nameB s.data.toList)) ∧ w = w' := by
  unfold maxLen at hs
  have hz : s.data.toList.length = s.size := by simp
  by_cases h0 : 1 ≤ s.size
  · by_cases h60 : s.size ≤ 60
    · by_cases hl : isL ↑s[0].toNat = true
      · go_enter Try.func14, Try.ntmps14
        go_wp2_with (go_at_call 27; refine (isLetter_any _ _).mono ?_; rintro e w' ⟨rfl, rfl⟩)
        go_loop [20] (fun i => ∃ k : Nat, k ≤ s.size ∧ i = .int .i64 k ∧ (s.data.toList.take k).all nmB = true) (fun i => s.size - (intOf i).toNat)
        case atStart => exact ⟨0, by omega, rfl, by simp⟩
        case round =>
          obtain ⟨k, hk, rfl, ha⟩ := hrel
          have HA := Lib.hid ha
          clear ha
          by_cases hlt : k < s.size
          · have HY := Lib.hid (fun (h2 : nmB s[k] = true) => all_take_succ s.data.toList nmB k (by simpa using hlt) HA.out h2)
            have HN := Lib.hid (fun (h2 : nmB s[k] = false) => nameB_all _ (all_false s.data.toList nmB k (by simpa using hlt) h2))
            by_cases h1 : isL ↑s[k].toNat = true
            · go_wp2_with (first | (go_at_call 27; refine (isLetter_any _ _).mono ?_; rintro e w' ⟨rfl, rfl⟩) | (go_at_call 28; refine (isDigit_any _ _).mono ?_; rintro e w' ⟨rfl, rfl⟩))
              go_round
              case rel => exact ⟨k + 1, by omega, by go_num, HY.out (by simp [nmB, isA, h1])⟩
              case measure => simp [intOf]; omega
            · by_cases h2 : isD ↑s[k].toNat = true
              · go_wp2_with (first | (go_at_call 27; refine (isLetter_any _ _).mono ?_; rintro e w' ⟨rfl, rfl⟩) | (go_at_call 28; refine (isDigit_any _ _).mono ?_; rintro e w' ⟨rfl, rfl⟩))
                go_round
                case rel => exact ⟨k + 1, by omega, by go_num, HY.out (by simp [nmB, isA, h2])⟩
                case measure => simp [intOf]; omega
              · go_wp2_with (first | (go_at_call 27; refine (isLetter_any _ _).mono ?_; rintro e w' ⟨rfl, rfl⟩) | (go_at_call 28; refine (isDigit_any _ _).mono ?_; rintro e w' ⟨rfl, rfl⟩))
                · go_ret
                  have h3 : (↑s[k].toNat != (45 : Int)) = true := by assumption
                  exact ⟨ret_bool (HN.out (by simp [nmB, isA, h1, h2]; simpa using h3)).symm, rfl⟩
                · have h3 : (↑s[k].toNat != (45 : Int)) = false := by assumption
                  go_round
                  case rel => exact ⟨k + 1, by omega, by go_num, HY.out (by simp [nmB]; right; simpa using h3)⟩
                  case measure => simp [intOf]; omega
          · have HE := Lib.hid (show s.data.toList.take k = s.data.toList from List.take_of_length_le (by simp; omega))
            go_wp2
            go_ret
            exact ⟨ret_bool (nameB_yes _ (by omega) (by omega) hl (by rw [← HE.out]; exact HA.out)).symm, rfl⟩
      · go_enter Try.func14, Try.ntmps14
        go_wp2_with (go_at_call 27; refine (isLetter_any _ _).mono ?_; rintro e w' ⟨rfl, rfl⟩)
        go_ret
        exact ⟨ret_bool (nameB_head _ (by omega) (Bool.eq_false_iff.2 hl)).symm, rfl⟩
    · go_enter Try.func14, Try.ntmps14
      go_wp2
      go_ret
      exact ⟨ret_bool (nameB_long _ (by omega)).symm, rfl⟩
  · go_enter Try.func14, Try.ntmps14
    go_wp2
    go_ret
    exact ⟨ret_bool (nameB_short _ (by omega)).symm, rfl⟩
end Go.Proofs.Ytcdlleeonfnamaa
