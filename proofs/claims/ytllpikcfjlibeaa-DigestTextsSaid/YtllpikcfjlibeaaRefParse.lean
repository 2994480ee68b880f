import Derived.Test.YtllpikcfjlibeaaParseW
namespace Go.Proofs.Ytllpikcfjlibeaa
open Go.RowKit

theorem valB_digit {c : UInt8} (h1 : 48 ≤ c.toNat) (h2 : c.toNat ≤ 57) : valB c = some (c.toNat - 48) := by unfold valB; rw [if_pos ⟨h1, h2⟩]
theorem valB_letter {c : UInt8} (h1 : 97 ≤ c.toNat) (h2 : c.toNat ≤ 102) : valB c = some (c.toNat - 87) := by unfold valB; rw [if_neg (by omega), if_pos ⟨h1, h2⟩]
theorem valB_none {c : UInt8} (h1 : ¬ (48 ≤ c.toNat ∧ c.toNat ≤ 57)) (h2 : ¬ (97 ≤ c.toNat ∧ c.toNat ≤ 102)) : valB c = none := by unfold valB; rw [if_neg h1, if_neg h2]

set_option maxHeartbeats 1000000 in
theorem refParse_any (s : ByteArray) (w : World) : Calls Try.prog 15 #[.string s] w fun e w' => e = .returned (ansV (parseD s.data.toList)) ∧ w = w' := by
  by_cases h16 : s.size = 16
  · have HP : Hid (parseD s.data.toList = goD 0 s.data.toList) := Lib.hid (by unfold parseD; rw [if_pos (by simpa using h16)])
    have hn : ((s.size : Int) != 16) = false := by simp [h16]
    go_enter Try.func15, Try.ntmps15
    go_wp2
    go_loop [4, 5] (fun x i => ∃ k D : Nat, k ≤ 16 ∧ i = .int .i64 k ∧ x = .int .u64 (D : Int) ∧ D < 16 ^ k ∧ goD 0 s.data.toList = goD D (s.data.toList.drop k)) (fun _ i => 16 - (intOf i).toNat)
    case atStart => exact ⟨0, 0, by omega, rfl, rfl, by simp, by simp⟩
    case round =>
      obtain ⟨k, D, hk, rfl, rfl, hp, hg⟩ := hrel
      by_cases hlt : k < 16
      · have hfit := pow_fits hp (by omega)
        have HV := Lib.hid hp
        have HG := Lib.hid hg
        clear hp hg
        have hlt' : k < s.data.toList.length := by simp; omega
        have hlt2 : k < s.size := by omega
        have H1 := Lib.hid (fun (h : valB s[k] = none) => goD_stop (D := D) hlt' h)
        have H2 := Lib.hid (fun v (h : valB s[k] = some v) => goD_step (D := D) hlt' h)
        have hB := s[k].toNat_lt
        by_cases h1 : 48 ≤ (s[k].toNat : Int) <;> by_cases h2 : (s[k].toNat : Int) ≤ 57 <;> by_cases h3 : 97 ≤ (s[k].toNat : Int) <;> by_cases h4 : (s[k].toNat : Int) ≤ 102
        all_goals first | (exfalso; omega) | skip
        all_goals go_wp2
        all_goals first
          | (go_ret2; exact ⟨ret_v (ans_none (by rw [HP.out, HG.out]; exact H1.out (valB_none (by omega) (by omega)))), rfl⟩)
          | (refine ⟨⟨k + 1, D * 16 + (s[k].toNat - 48), by omega, by go_num, by go_num, pow_next HV.out (by omega), by rw [HG.out]; exact H2.out _ (valB_digit (by omega) (by omega))⟩, by simp [intOf]; omega⟩)
          | (refine ⟨⟨k + 1, D * 16 + (s[k].toNat - 87), by omega, by go_num, by go_num, pow_next HV.out (by omega), by rw [HG.out]; exact H2.out _ (valB_letter (by omega) (by omega))⟩, by simp [intOf]; omega⟩)
      · have hk16 : k = 16 := by omega
        have HG := Lib.hid (show goD 0 s.data.toList = some D by rw [hg, List.drop_of_length_le (by simp; omega)]; rfl)
        clear hg
        go_wp2
        go_ret2
        exact ⟨ret_v (ans_some (by rw [HP.out, HG.out])), rfl⟩
  · have HP : Hid (parseD s.data.toList = none) := Lib.hid (by unfold parseD; rw [if_neg (by simpa using h16)])
    have hn : ((s.size : Int) != 16) = true := by simp; omega
    go_enter Try.func15, Try.ntmps15
    go_wp2
    go_ret2
    exact ⟨ret_v (ans_none HP.out), rfl⟩
end Go.Proofs.Ytllpikcfjlibeaa
