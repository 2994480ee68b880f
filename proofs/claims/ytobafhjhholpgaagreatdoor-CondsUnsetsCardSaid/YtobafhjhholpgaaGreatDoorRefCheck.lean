import Derived.Test.YtobafhjhholpgaaGreatDoorCheckL
import Derived.Test.YtobafhjhholpgaaGreatDoorRefName
import Derived.BigQuiet
import Derived.Deep.QuietTactic
namespace Go.Proofs.YtobafhjhholpgaaGreatDoor
open Go.RowKit

set_option maxHeartbeats 2000000 in
theorem refCheck_any (v : Value) (l : List At) (w : World) (h : Attrs w v l) : Calls Tryz.prog 26 #[v] w fun e w' => e = .returned (.bool (checkL l)) ∧ ∃ q, w' = w.drewN q := by
  obtain ⟨p, cap, rfl, hl, ⟨hs, -⟩, hc⟩ := h
  by_cases h64 : l.length ≤ 64
  · go_enter Tryz.func26, Tryz.ntmps26
    go_wp2
    go_loopw [3] (fun i wr => ∃ k q : Nat, k ≤ l.length ∧ i = .int .i64 k ∧ (l.take k).all attB = true ∧ riseB (l.take k) = true ∧ wr = w.drewN q) (fun i _ => l.length - (intOf i).toNat)
    case atStart => exact ⟨0, 0, by omega, rfl, by simp, by simp [riseB], rfl⟩
    case round =>
      obtain ⟨k, q, hk, rfl, ha, hr, rfl⟩ := hrel
      have HA := Lib.hid ha
      have HR := Lib.hid hr
      clear ha hr
      by_cases hlt : k < l.length
      · obtain ⟨b, o, rfl, hb, hcc⟩ := hc (by omega)
        obtain ⟨c1, c2⟩ := hcc k hlt
        obtain ⟨s1, s2⟩ := hs l[k] (List.getElem_mem hlt)
        have hN := refName_any l[k].1 (hs := by unfold maxLen; omega)
        have hV := refValue_any l[k].2 (hs := by unfold maxLen; omega)
        have HCL := Lib.hid (fun h => check_att (l := l) k hlt h)
        have HCY := Lib.hid (fun h => att_take l k hlt HA.out h)
        clear hc
        cases hn : nameB l[k].1.data.toList with
        | false =>
          have HF : Hid (checkL l = false) := Lib.hid (HCL.out (by unfold attB; rw [hn]; rfl))
          rw [hn] at hN
          clear hn hcc s1 s2
          go_wp2
          go_quiet ((first | (go_at_call 27; exact quiet_same (hN _)) | (go_at_call 28; exact quiet_same (hV _))))
          go_wp2
          go_ret
          exact ⟨ret_bool HF.out.symm, _, World.drewN_drewN _ _ _⟩
        | true =>
          rw [hn] at hN
          cases hv : mayL l[k].2.data.toList with
          | false =>
            have HF : Hid (checkL l = false) := Lib.hid (HCL.out (by unfold attB; rw [hn, hv]; rfl))
            rw [hv] at hV
            clear hn hv hcc s1 s2
            go_wp2
            go_quiet ((first | (go_at_call 27; exact quiet_same (hN _)) | (go_at_call 28; exact quiet_same (hV _))))
            go_wp2
            go_ret
            exact ⟨ret_bool HF.out.symm, _, World.drewN_drewN _ _ _⟩
          | true =>
            have HY : Hid ((l.take (k + 1)).all attB = true) := Lib.hid (HCY.out (by unfold attB; rw [hn, hv]; rfl))
            rw [hv] at hV
            clear hn hv
            by_cases h0 : 0 < k
            · obtain ⟨d1, _⟩ := hcc (k - 1) (by omega)
              have HRT := Lib.hid (rise_take l k h0 hlt)
              have e1 : IntKind.i64.wrap ((k : Int) - 1) = ((k - 1 : Nat) : Int) := by rw [IntKind.wrap_i64]; omega
              have hd0 : decide ((0 : Int) < (k : Int)) = true := by simp; omega
              cases hless : Op.bytesLess l[k - 1].1.toList l[k].1.toList with
              | false =>
                have HF : Hid (checkL l = false) := Lib.hid (check_rise k h0 hlt hless)
                clear hcc s1 s2
                go_wp2
                go_quiet ((first | (go_at_call 27; exact quiet_same (hN _)) | (go_at_call 28; exact quiet_same (hV _))))
                go_wp2
                go_ret
                exact ⟨ret_bool HF.out.symm, _, World.drewN_drewN _ _ _⟩
              | true =>
                have HR2 : Hid (riseB (l.take (k + 1)) = true) := Lib.hid (by rw [HRT.out, HR.out]; exact hless)
                clear hcc s1 s2
                go_wp2
                go_quiet ((first | (go_at_call 27; exact quiet_same (hN _)) | (go_at_call 28; exact quiet_same (hV _))))
                go_wp2
                go_roundw
                case rel => exact ⟨k + 1, _, by omega, by go_num, HY.out, HR2.out, rfl⟩
                case measure => simp [intOf]; omega
            · have hk0 : k = 0 := by omega
              have HR2 : Hid (riseB (l.take (k + 1)) = true) := Lib.hid (by subst hk0; exact rise_one l hlt)
              have hd0 : decide ((0 : Int) < (k : Int)) = false := by simp; omega
              clear hcc s1 s2 hk0
              go_wp2
              go_quiet ((first | (go_at_call 27; exact quiet_same (hN _)) | (go_at_call 28; exact quiet_same (hV _))))
              go_wp2
              go_roundw
              case rel => exact ⟨k + 1, _, by omega, by go_num, HY.out, HR2.out, rfl⟩
              case measure => simp [intOf]; omega
      · have HE := Lib.hid (show l.take k = l from List.take_of_length_le (by omega))
        rw [HE.out] at HA HR
        go_wp2
        go_ret
        exact ⟨ret_bool (check_yes h64 HA.out HR.out).symm, q, rfl⟩
  · go_enter Tryz.func26, Tryz.ntmps26
    go_wp2
    go_ret
    exact ⟨ret_bool (check_long h64).symm, 0, rfl⟩
end Go.Proofs.YtobafhjhholpgaaGreatDoor
