import Derived.Test.YtdbhlnokhfflmaaDoorChange
namespace Go.Proofs.YtdbhlnokhfflmaaDoor
open Go.RowKit

theorem lowB_id {c : UInt8} (h : ¬ (65 ≤ c.toNat ∧ c.toNat ≤ 90)) : lowB c = c := by unfold lowB; rw [if_neg h]
theorem part_same (f : UInt8 → UInt8) (l : List UInt8) (k : Nat) (h : k < l.length) (hf : f l[k] = l[k]) : part f l k = part f l (k + 1) := by
  unfold part
  rw [List.drop_eq_getElem_cons h, List.take_succ_eq_append_getElem h, List.map_append, List.append_assoc]
  simp [hf]

set_option maxHeartbeats 400000 in
theorem refLower_any (s : ByteArray) (w : World) (hs : s.size ≤ maxLen) :
    Calls Tryd.prog 20 #[.string s] w fun e w' => e = .returned (.string ⟨(lowL s.data.toList).toArray⟩) ∧ Below w.heap.size w w' := by
  unfold maxLen at hs
  obtain ⟨cap, w1, hconv, hbel, hby, hsz⟩ := conv_bytes w s
  have hl : s.data.toList.length = s.size := by simp
  have HL := Lib.hid hl
  clear hl hsz
  go_enter Tryd.func20, Tryd.ntmps20
  go_wp2
  clear hconv
  go_loopw [4] (fun i wr => ∃ k : Nat, k ≤ s.size ∧ i = .int .i64 k ∧ BytesIn wr w.heap.size (part lowB s.data.toList k) ∧ Below w.heap.size w wr) (fun i _ => s.size - (intOf i).toNat)
  case atStart => exact ⟨0, by omega, rfl, by rw [part_zero]; exact hby, hbel⟩
  case round =>
    obtain ⟨k, hk, rfl, hby2, hbel2⟩ := hrel
    clear hby hbel
    by_cases hlt : k < s.size
    · have hlt' : k < s.data.toList.length := by rw [HL.out]; exact hlt
      obtain ⟨hc0, hf0⟩ := hby2 k (by rw [part_length, HL.out]; exact hlt)
      rw [part_at _ _ _ hlt', show s.data.toList[k] = s[k] from rfl] at hc0
      have hq1 : (0 : Int) ≤ (s[k].toNat : Int) := by omega
      have hq2 : (s[k].toNat : Int) ≤ 255 := by have := s[k].toNat_lt; omega
      have HX := Lib.hid (lowB_toNat s[k])
      have HS := Lib.hid (part_set lowB s.data.toList k hlt')
      by_cases hA : 65 ≤ (s[k].toNat : Int)
      · by_cases hZ : (s[k].toNat : Int) ≤ 90
        · have HW := Lib.hid (lowN_yes hA hZ)
          go_wp2
          rw [HW.out, ← HX.out]
          have hby3 := hby2.set k (by rw [part_length, HL.out]; exact hlt) (lowB s[k])
          go_roundw
          case rel => exact ⟨k + 1, by omega, by go_num, by rw [← HS.out]; exact hby3, hbel2.setCell (by simp) _⟩
          case measure => simp [intOf]; omega
        · have HW := Lib.hid (part_same lowB s.data.toList k hlt' (lowB_id (c := s[k]) (by omega)))
          go_wp2
          go_roundw
          case rel => exact ⟨k + 1, by omega, by go_num, by rw [← HW.out]; exact hby2, hbel2⟩
          case measure => simp [intOf]; omega
      · have HW := Lib.hid (part_same lowB s.data.toList k hlt' (lowB_id (c := s[k]) (by omega)))
        go_wp2
        go_roundw
        case rel => exact ⟨k + 1, by omega, by go_num, by rw [← HW.out]; exact hby2, hbel2⟩
        case measure => simp [intOf]; omega
    · have HP := Lib.hid (part_all lowB s.data.toList k (by rw [HL.out]; omega))
      rw [HP.out] at hby2
      have hback := conv_back wr w.heap.size cap _ hby2
      rw [List.length_map, HL.out] at hback
      go_wp2
      go_ret
      exact ⟨rfl, hbel2⟩
end Go.Proofs.YtdbhlnokhfflmaaDoor
