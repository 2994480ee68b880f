import Derived.Test.YtikeaiibociapaaGreatDoorAtt
import Derived.Test.YtikeaiibociapaaGreatDoorLinesC
namespace Go.Proofs.YtikeaiibociapaaGreatDoor.src
open Go.RowKit

set_option maxHeartbeats 400000 in
theorem refGet_any (v : Value) (l : List At) (n : ByteArray) (w : World) (h : Attrs w v l) : Calls Tryz.prog 25 #[v, .string n] w fun e w' => e = .returned (getV (getL l n)) ∧ w = w' := by
  obtain ⟨p, cap, rfl, hl, -, hc⟩ := h
  go_enter Tryz.func25, Tryz.ntmps25
  go_wp2
  go_loop [6] (fun i => ∃ k : Nat, k ≤ l.length ∧ i = .int .i64 k ∧ getL l n = getL (l.drop k) n) (fun i => l.length - (intOf i).toNat)
  case atStart => exact ⟨0, by omega, rfl, by simp⟩
  case round =>
    obtain ⟨k, hk, rfl, hg⟩ := hrel
    have HG := Lib.hid hg
    clear hg
    by_cases hlt : k < l.length
    · obtain ⟨b, o, rfl, hb, hcc⟩ := hc (by omega)
      obtain ⟨c1, c2⟩ := hcc k hlt
      have H1 := Lib.hid (fun h => getL_here (n := n) hlt h)
      have H2 := Lib.hid (fun h => getL_next (n := n) hlt h)
      clear hc hcc
      go_wp2
      · go_ret2
        have h : (l[k].1.toList == n.toList) = true := by assumption
        exact ⟨ret_v (get_some (by rw [HG.out, H1.out h])), rfl⟩
      · have h : (l[k].1.toList == n.toList) = false := by assumption
        go_round
        case rel => exact ⟨k + 1, by omega, by go_num, by rw [HG.out, H2.out h]⟩
        case measure => simp [intOf]; omega
    · have HE := Lib.hid (getL_end (l := l) (n := n) (k := k) (by omega))
      go_wp2
      go_ret2
      exact ⟨ret_v (get_none (by rw [HG.out, HE.out])), rfl⟩
end Go.Proofs.YtikeaiibociapaaGreatDoor.src
