import Derived.Test.YtikeaiibociapaaGreatDoorRefName
namespace Go.Proofs.YtikeaiibociapaaGreatDoor
open Go.RowKit

/-- how many signs of a name a text begins with -/
def runL (l : List UInt8) : Nat := (l.takeWhile nmB).length
theorem runL_le (l : List UInt8) : runL l ≤ l.length := (List.takeWhile_sublist nmB).length_le
theorem run_stop (l : List UInt8) (k : Nat) (h : k < l.length) (h1 : (l.take k).all nmB = true) (h2 : nmB l[k] = false) : runL l = k := by
  have e : l = l.take k ++ l[k] :: l.drop (k + 1) := by rw [← List.drop_eq_getElem_cons h, List.take_append_drop]
  unfold runL
  rw [e, List.takeWhile_append_of_pos (fun x hx => List.all_eq_true.1 h1 x hx), List.takeWhile_cons, h2]
  simp; omega
theorem run_end (l : List UInt8) (h1 : l.all nmB = true) : runL l = l.length := by
  unfold runL
  congr 1
  have := List.takeWhile_append_of_pos (p := nmB) (l₁ := l) (l₂ := []) (fun x hx => List.all_eq_true.1 h1 x hx)
  simpa using this

theorem ret_nat {a b : Nat} (h : a = b) : Ending.returned (.int .i64 (a : Int)) = .returned (.int .i64 (b : Int)) := by rw [h]

set_option maxHeartbeats 1000000 in
theorem refRun_any (s : ByteArray) (w : World) (hs : s.size ≤ maxLen) : Calls Tryz.prog 42 #[.string s] w fun e w' => e = .returned (.int .i64 ((runL s.data.toList : Nat) : Int)) ∧ w = w' := by
  unfold maxLen at hs
  have HZ := Lib.hid (show s.data.toList.length = s.size by simp)
  go_enter Tryz.func42, Tryz.ntmps42
  go_wp2
  go_loop [3] (fun i => ∃ k : Nat, k ≤ s.size ∧ i = .int .i64 k ∧ (s.data.toList.take k).all nmB = true) (fun i => s.size - (intOf i).toNat)
  case atStart => exact ⟨0, by omega, rfl, by simp⟩
  case round =>
    obtain ⟨k, hk, rfl, ha⟩ := hrel
    have HA := Lib.hid ha
    clear ha
    by_cases hlt : k < s.size
    · have HY := Lib.hid (fun (h2 : nmB s[k] = true) => all_take_succ s.data.toList nmB k (by simpa using hlt) HA.out h2)
      have HN := Lib.hid (fun (h2 : nmB s[k] = false) => run_stop s.data.toList k (by simpa using hlt) HA.out h2)
      have hL := refLetter_any (s[k].toNat : Int)
      cases h1 : isA (s[k].toNat : Int) with
      | true =>
        rw [h1] at hL
        have HB : Hid (nmB s[k] = true) := Lib.hid (by unfold nmB; rw [h1]; rfl)
        clear h1
        go_wp2_with (go_at_call 111; refine (hL _).mono ?_; rintro e w' ⟨rfl, rfl⟩)
        go_round
        case rel => exact ⟨k + 1, by omega, by go_num, HY.out HB.out⟩
        case measure => simp [intOf]; omega
      | false =>
        rw [h1] at hL
        by_cases h2 : (s[k].toNat : Int) = 45
        · have HB : Hid (nmB s[k] = true) := Lib.hid (by unfold nmB; rw [decide_eq_true h2]; simp)
          have e : ((s[k].toNat : Int) == 45) = true := by simp [h2]
          clear h1 h2
          go_wp2_with (go_at_call 111; refine (hL _).mono ?_; rintro e w' ⟨rfl, rfl⟩)
          go_round
          case rel => exact ⟨k + 1, by omega, by go_num, HY.out HB.out⟩
          case measure => simp [intOf]; omega
        · have HB : Hid (nmB s[k] = false) := Lib.hid (by unfold nmB; rw [h1, decide_eq_false h2]; rfl)
          have e : ((s[k].toNat : Int) == 45) = false := by simpa using h2
          clear h1 h2
          go_wp2_with (go_at_call 111; refine (hL _).mono ?_; rintro e w' ⟨rfl, rfl⟩)
          go_ret
          exact ⟨ret_nat (HN.out HB.out).symm, rfl⟩
    · have HE := Lib.hid (show s.data.toList.take k = s.data.toList from List.take_of_length_le (by simp; omega))
      go_wp2
      go_ret
      exact ⟨ret_nat (by have := HA.out; rw [HE.out] at this; rw [run_end _ this, HZ.out]; omega), rfl⟩
end Go.Proofs.YtikeaiibociapaaGreatDoor
