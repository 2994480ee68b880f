import Derived.Test.YtobafhjhholpgaaGreatDoorName
namespace Go.Proofs.YtobafhjhholpgaaGreatDoor
open Go.RowKit

/-- a byte that a value may have -/
def okB (c : UInt8) : Bool := decide (32 ≤ c.toNat) && !decide (c.toNat = 127)
/-- may a value be? -/
def mayL (l : List UInt8) : Bool := l.all okB && decide (l.length ≤ 1024)

set_option maxHeartbeats 400000 in
theorem refValue_any (s : ByteArray) (w : World) (hs : s.size ≤ maxLen) :
    Calls Tryz.prog 28 #[.string s] w fun e w' => e = .returned (.bool (mayL s.data.toList)) ∧ w = w' := by
  unfold maxLen at hs
  have hz : s.data.toList.length = s.size := by simp
  have HZ := Lib.hid hz
  clear hz
  go_enter Tryz.func28, Tryz.ntmps28
  go_wp2
  go_loop [3] (fun i => ∃ k : Nat, k ≤ s.size ∧ i = .int .i64 k ∧ (s.data.toList.take k).all okB = true) (fun i => s.size - (intOf i).toNat)
  case atStart => exact ⟨0, by omega, rfl, by simp⟩
  case round =>
    obtain ⟨k, hk, rfl, ha⟩ := hrel
    have HA := Lib.hid ha
    clear ha
    by_cases hlt : k < s.size
    · have HY := Lib.hid (fun (h2 : okB s[k] = true) => all_take_succ s.data.toList okB k (by simpa using hlt) HA.out h2)
      have HN := Lib.hid (fun (h2 : okB s[k] = false) => all_false s.data.toList okB k (by simpa using hlt) h2)
      by_cases h1 : 32 ≤ (s[k].toNat : Int)
      · by_cases h2 : (s[k].toNat : Int) = 127
        · have e : ((s[k].toNat : Int) == 127) = true := by simp [h2]
          go_wp2
          go_ret
          exact ⟨ret_bool (by unfold mayL; rw [HN.out (by simp [okB]; omega)]; rfl), rfl⟩
        · have e : ((s[k].toNat : Int) == 127) = false := by simpa using h2
          go_wp2
          go_round
          case rel => exact ⟨k + 1, by omega, by go_num, HY.out (by simp [okB]; omega)⟩
          case measure => simp [intOf]; omega
      · go_wp2
        go_ret
        exact ⟨ret_bool (by unfold mayL; rw [HN.out (by simp [okB]; omega)]; rfl), rfl⟩
    · have HE := Lib.hid (show s.data.toList.take k = s.data.toList from List.take_of_length_le (by simp; omega))
      go_wp2
      go_ret
      exact ⟨ret_bool (by unfold mayL; rw [← HE.out, HA.out, HE.out, HZ.out]; simp; omega), rfl⟩
end Go.Proofs.YtobafhjhholpgaaGreatDoor
