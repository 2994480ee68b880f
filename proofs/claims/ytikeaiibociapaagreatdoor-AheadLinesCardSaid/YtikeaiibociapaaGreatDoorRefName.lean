import Derived.Test.YtikeaiibociapaaGreatDoorName
namespace Go.Proofs.YtikeaiibociapaaGreatDoor
open Go.RowKit

theorem isL_lo {n : Int} (h : isL n = true) : 58 ≤ n := by simp [isL] at h; omega
theorem isL_no {n : Int} (h : ¬ isL n = true) (h2 : isA n = true) : n ≤ 57 := by
  have : isD n = true := by simpa [isA, h] using h2
  simp [isD] at this; omega

set_option maxHeartbeats 400000 in
theorem refName_any (s : ByteArray) (w : World) (hs : s.size ≤ maxLen) :
    Calls Tryz.prog 43 #[.string s] w fun e w' => e = .returned (.bool (nameB s.data.toList)) ∧ w = w' := by
  unfold maxLen at hs
  have hz : s.data.toList.length = s.size := by simp
  by_cases h0 : 1 ≤ s.size
  · by_cases h60 : s.size ≤ 60
    · by_cases hl : isL ↑s[0].toNat = true
      · have hlo := isL_lo hl
        have hl2 : (isA ↑s[0].toNat) = true := by simp [isA, hl]
        go_enter Tryz.func43, Tryz.ntmps43
        go_wp2_with (go_at_call 111; refine (refLetter_any _ _).mono ?_; rintro e w' ⟨rfl, rfl⟩)
        go_loop [3] (fun i => ∃ k : Nat, k ≤ s.size ∧ i = .int .i64 k ∧ (s.data.toList.take k).all nmB = true) (fun i => s.size - (intOf i).toNat)
        case atStart => exact ⟨0, by omega, rfl, by simp⟩
        case round =>
          obtain ⟨k, hk, rfl, ha⟩ := hrel
          have HA := Lib.hid ha
          clear ha
          have HL := Lib.hid hl
          clear hl hl2
          by_cases hlt : k < s.size
          · have HY := Lib.hid (fun (h2 : nmB s[k] = true) => all_take_succ s.data.toList nmB k (by simpa using hlt) HA.out h2)
            have HN := Lib.hid (fun (h2 : nmB s[k] = false) => nameB_all _ (all_false s.data.toList nmB k (by simpa using hlt) h2))
            cases h1 : (isA ↑s[k].toNat)
            · go_wp2_with (go_at_call 111; refine (refLetter_any _ _).mono ?_; rintro e w' ⟨rfl, rfl⟩)
              · go_ret
                have h3 : (↑s[k].toNat != (45 : Int)) = true := by assumption
                exact ⟨ret_bool (HN.out (by unfold nmB; rw [h1]; simpa using h3)).symm, rfl⟩
              · have h3 : (↑s[k].toNat != (45 : Int)) = false := by assumption
                go_round
                case rel => exact ⟨k + 1, by omega, by go_num, HY.out (by unfold nmB; rw [h1]; simpa using h3)⟩
                case measure => simp [intOf]; omega
            · go_wp2_with (go_at_call 111; refine (refLetter_any _ _).mono ?_; rintro e w' ⟨rfl, rfl⟩)
              go_round
              case rel => exact ⟨k + 1, by omega, by go_num, HY.out (by unfold nmB; rw [h1]; rfl)⟩
              case measure => simp [intOf]; omega
          · have HE := Lib.hid (show s.data.toList.take k = s.data.toList from List.take_of_length_le (by simp; omega))
            go_wp2
            go_ret
            exact ⟨ret_bool (nameB_yes _ (by omega) (by omega) HL.out (by rw [← HE.out]; exact HA.out)).symm, rfl⟩
      · have HF := Lib.hid (nameB_head s.data.toList (by omega) (Bool.eq_false_iff.2 hl))
        cases hl2 : (isA ↑s[0].toNat)
        · clear hl
          go_enter Tryz.func43, Tryz.ntmps43
          go_wp2_with (go_at_call 111; refine (refLetter_any _ _).mono ?_; rintro e w' ⟨rfl, rfl⟩)
          go_ret
          exact ⟨ret_bool HF.out.symm, rfl⟩
        · have hlo := isL_no hl hl2
          clear hl
          go_enter Tryz.func43, Tryz.ntmps43
          go_wp2_with (go_at_call 111; refine (refLetter_any _ _).mono ?_; rintro e w' ⟨rfl, rfl⟩)
          go_ret
          exact ⟨ret_bool HF.out.symm, rfl⟩
    · go_enter Tryz.func43, Tryz.ntmps43
      go_wp2
      go_ret
      exact ⟨ret_bool (nameB_long _ (by omega)).symm, rfl⟩
  · go_enter Tryz.func43, Tryz.ntmps43
    go_wp2
    go_ret
    exact ⟨ret_bool (nameB_short _ (by omega)).symm, rfl⟩
end Go.Proofs.YtikeaiibociapaaGreatDoor
