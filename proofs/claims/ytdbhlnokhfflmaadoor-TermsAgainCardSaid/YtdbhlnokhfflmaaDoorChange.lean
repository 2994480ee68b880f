import Derived.Test.YtdbhlnokhfflmaaDoorLower
namespace Go.Proofs.YtdbhlnokhfflmaaDoor
open Go.RowKit

set_option maxHeartbeats 400000 in
theorem change_any (s : ByteArray) (a b c : Nat) (w : World) (hs : s.size ≤ maxLen) (hab : a < w.heap.size) (hbb : b < w.heap.size) (hcb : c < w.heap.size)
    (ha : w.cell? ⟨a, 0, none⟩ = some (.int .u8 65)) (hb : w.cell? ⟨b, 0, none⟩ = some (.int .u8 90)) (hc : w.cell? ⟨c, 0, none⟩ = some (.int .u8 32)) :
    Calls Tryd.prog 21 #[.string s, .func (.func 29) #[] #[.pointer (some ⟨a, 0, none⟩), .pointer (some ⟨b, 0, none⟩), .pointer (some ⟨c, 0, none⟩)]] w fun e w' =>
      e = .returned (.string ⟨(s.data.toList.map lowB).toArray⟩) ∧ Below w.heap.size w w' := by
  unfold maxLen at hs
  obtain ⟨cap, w1, hconv, hbel, hby, hsz⟩ := conv_bytes w s
  have hl : s.data.toList.length = s.size := by simp
  have HL := Lib.hid hl
  have HZ := Lib.hid hsz
  have HA := Lib.hid ha
  have HB := Lib.hid hb
  have HC := Lib.hid hc
  clear hl hsz ha hb hc
  go_enter Tryd.func21, Tryd.ntmps21
  go_wp2
  clear hconv
  go_loopw [12] (fun i wr => ∃ k : Nat, k ≤ s.size ∧ i = .int .i64 k ∧ BytesIn wr w.heap.size (part lowB s.data.toList k) ∧ Below w.heap.size w wr) (fun i _ => s.size - (intOf i).toNat)
  case atStart => exact ⟨0, by omega, rfl, by rw [part_zero]; exact hby, hbel⟩
  case round =>
    obtain ⟨k, hk, rfl, hby2, hbel2⟩ := hrel
    clear hby hbel
    by_cases hlt : k < s.size
    · have hlt' : k < s.data.toList.length := by rw [HL.out]; exact hlt
      obtain ⟨hc0, hf0⟩ := hby2 k (by rw [part_length, HL.out]; exact hlt)
      rw [part_at _ _ _ hlt', show s.data.toList[k] = s[k] from rfl] at hc0
      have ha1 := (hbel2.cell (p := ⟨a, 0, none⟩) hab).trans HA.out
      have hb1 := (hbel2.cell (p := ⟨b, 0, none⟩) hbb).trans HB.out
      have hc1 := (hbel2.cell (p := ⟨c, 0, none⟩) hcb).trans HC.out
      have hq1 : (0 : Int) ≤ (s[k].toNat : Int) := by omega
      have hq2 : (s[k].toNat : Int) ≤ 255 := by have := s[k].toNat_lt; omega
      have HQ := shiftOf_any _ hq1 hq2 a b c
      have HQ := Lib.hid HQ
      go_wp2_with (go_at_call 29; refine (HQ.out _ ha1 hb1 hc1).mono ?_; rintro e w' ⟨rfl, rfl⟩)
      have HX := Lib.hid (lowB_toNat s[k])
      rw [← HX.out]
      have HS := Lib.hid (part_set lowB s.data.toList k hlt')
      have hby3 := hby2.set k (by rw [part_length, HL.out]; exact hlt) (lowB s[k])
      go_roundw
      case rel => exact ⟨k + 1, by omega, by go_num, by rw [← HS.out]; exact hby3, hbel2.setCell (by simp) _⟩
      case measure => simp [intOf]; omega
    · have HP := Lib.hid (part_all lowB s.data.toList k (by rw [HL.out]; omega))
      rw [HP.out] at hby2
      have hback := conv_back wr w.heap.size cap _ hby2
      rw [List.length_map, HL.out] at hback
      go_wp2
      go_ret
      exact ⟨rfl, hbel2⟩

/-- 'shift('A', 'Z', 32)': three blocks, and a function of them -/
theorem shift_any (w : World) : Calls Tryd.prog 22 #[.int .u8 65, .int .u8 90, .int .u8 32] w fun e w' =>
    e = .returned (.func (.func 29) #[] #[.pointer (some ⟨w.heap.size, 0, none⟩), .pointer (some ⟨w.heap.size + 1, 0, none⟩), .pointer (some ⟨w.heap.size + 2, 0, none⟩)]) ∧
      Below w.heap.size w w' ∧ w.heap.size + 2 < w'.heap.size ∧ w'.cell? ⟨w.heap.size, 0, none⟩ = some (.int .u8 65) ∧ w'.cell? ⟨w.heap.size + 1, 0, none⟩ = some (.int .u8 90) ∧ w'.cell? ⟨w.heap.size + 2, 0, none⟩ = some (.int .u8 32) := by
  go_enter Tryd.func22, Tryd.ntmps22
  go_wp2
  go_ret
  refine ⟨rfl, (((Below.refl _ _).alloc (Nat.le_refl _) _).alloc (by simp) _).alloc (by simp; omega) _, by simp, ?_, ?_, ?_⟩
  · rw [World.cell?_alloc_lt _ _ _ (by simp; omega), World.cell?_alloc_lt _ _ _ (by simp), World.cell?_alloc_new]; rfl
  · rw [World.cell?_alloc_lt _ _ _ (by simp)]
    simp
  · have := World.cell?_alloc_new (w := (w.alloc (.cells #[.int .u8 65] 5)).alloc (.cells #[.int .u8 90] 5)) #[.int .u8 32] 5 0
    simpa using this

/-- a text in small letters -/
def lowL (l : List UInt8) : List UInt8 := l.map lowB

set_option maxHeartbeats 400000 in
theorem lower_any (s : ByteArray) (w : World) (hs : s.size ≤ maxLen) :
    Calls Tryd.prog 16 #[.string s] w fun e w' => e = .returned (.string ⟨(lowL s.data.toList).toArray⟩) ∧ Below w.heap.size w w' := by
  go_enter Tryd.func16, Tryd.ntmps16
  go_wp2_with fail
  refine (shift_any w).mono ?_
  rintro e w1 ⟨rfl, hb1, hz1, c1, c2, c3⟩
  have C := Lib.hid (And.intro c1 (And.intro c2 c3))
  clear c1 c2 c3
  go_wp2_with fail
  refine (change_any s _ _ _ _ hs (by omega) (by omega) (by omega) C.out.1 C.out.2.1 C.out.2.2).mono ?_
  rintro e w2 ⟨rfl, hb⟩
  go_wp2
  go_ret
  exact ⟨rfl, hb1.trans (hb.mono (by omega))⟩
end Go.Proofs.YtdbhlnokhfflmaaDoor
