import Derived.Test.YtdbhlnokhfflmaaDoorTermK
import Derived.Test.YtdbhlnokhfflmaaDoorRefLower
namespace Go.Proofs.YtdbhlnokhfflmaaDoor
open Go.RowKit
set_option maxRecDepth 100000

/-! ### the document's answer: Key -/
theorem slice_is (t : ByteArray) (l : List UInt8) (n : Nat) : ((t.extract 0 n).toList == l) = decide (t.data.toList.take n = l) := by
  rw [Bool.eq_iff_iff, beq_iff_eq, decide_eq_true_eq, Lib.toList_data, extract_take]
set_option maxHeartbeats 8000000 in
theorem refKey_c (s : ByteArray) (w : World) (hs : s.size ≤ 140737488351232) :
    Calls Tryd.prog 13 #[.string s] w fun e w' => e = .returned (.string (bT (keyL s.data.toList))) ∧ Below w.heap.size w w' := by
  have hL := fun w => refLower_any s w (by unfold maxLen; omega)
  unfold keyL
  have hz : (⟨(lowL s.data.toList).toArray⟩ : ByteArray).size = s.size := by show (lowL s.data.toList).toArray.size = _; simp [lowL]
  obtain ⟨t, ht⟩ : ∃ t : ByteArray, ⟨(lowL s.data.toList).toArray⟩ = t := ⟨_, rfl⟩
  have hd : lowL s.data.toList = t.data.toList := by rw [← ht]
  rw [hd]
  rw [ht] at hz hL
  rw [← hz] at hs
  clear hd ht hz
  have hl : t.data.toList.length = t.size := by simp
  have HLn := Lib.hid hl
  clear hl
  obtain ⟨R, hR⟩ : ∃ R, cutBeg begs t.data.toList = R := ⟨_, rfl⟩
  rw [hR]
  have HR := Lib.hid hR
  clear hR
  go_enter Tryd.func13, Tryd.ntmps13
  go_wp2_with (first | (go_at_call 20; (with_reducible refine (hL _).mono ?_); rintro e w2 ⟨rfl, hb2⟩))
  obtain ⟨W, hW⟩ : ∃ W, w2.alloc (.cells #[.string ⟨#[116, 104, 101, 32]⟩, .string ⟨#[97, 32]⟩, .string ⟨#[97, 110, 32]⟩] 9) = W := ⟨_, rfl⟩
  have hbW : Below w.heap.size w W := by rw [← hW]; exact behind hb2 (laidNew _ _)
  have k0 : W.cell? ⟨w2.heap.size, 0, none⟩ = some (.string ⟨#[116, 104, 101, 32]⟩) := by rw [← hW, World.cell?_alloc_new]; rfl
  have k1 : W.cell? ⟨w2.heap.size, 1, none⟩ = some (.string ⟨#[97, 32]⟩) := by rw [← hW, World.cell?_alloc_new]; rfl
  have k2 : W.cell? ⟨w2.heap.size, 2, none⟩ = some (.string ⟨#[97, 110, 32]⟩) := by rw [← hW, World.cell?_alloc_new]; rfl
  rw [hW]
  have KC := Lib.hid (And.intro k0 (And.intro k1 k2))
  clear k0 k1 k2
  go_loopg [5] 3 (fun gf iv wr => ∃ j : Int, 0 ≤ j ∧ j + (gf : Int) = 3 ∧ iv = .int .i64 j ∧ Below W.heap.size W wr ∧ Hid (cutBeg (begs.drop j.toNat) t.data.toList = R))
  case atStart => exact ⟨0, by omega, by omega, rfl, Below.refl _ _, HR⟩
  case round =>
    obtain ⟨j, hj0, hj, rfl, hbr, HJ⟩ := hrel
    have k0 := keep_cell hbr KC.out.1
    have k1 := keep_cell hbr KC.out.2.1
    have k2 := keep_cell hbr KC.out.2.2
    rcases (show j = 0 ∨ j = 1 ∨ j = 2 ∨ j = 3 by omega) with rfl | rfl | rfl | rfl
    · obtain ⟨g', rfl⟩ : ∃ g', gk = g' + 1 := ⟨gk - 1, by omega⟩
      have HN := Lib.hid (fun (h : ¬ t.data.toList.take ([116, 104, 101, 32] : List UInt8).length = [116, 104, 101, 32]) => (cut_not (begs.drop 1) h).symm.trans HJ.out)
      have HY := Lib.hid (fun (h : t.data.toList.take ([116, 104, 101, 32] : List UInt8).length = [116, 104, 101, 32]) => (cut_yes (begs.drop 1) h).symm.trans HJ.out)
      clear HJ
      have hsz : ((⟨#[116, 104, 101, 32]⟩ : ByteArray).size : Int) = 4 := rfl
      by_cases hlen : 4 ≤ t.size
      · have c1 : (4 : Int) ≤ (t.size : Int) := by omega
        have c2 : decide ((4 : Int) ≤ (t.size : Int)) = true := decide_eq_true c1
        have hse := slice_is t [116, 104, 101, 32] 4
        by_cases hp : t.data.toList.take 4 = [116, 104, 101, 32]
        · have c3 : ((t.extract 0 4).toList == ([116, 104, 101, 32] : List UInt8)) = true := by rw [hse]; exact decide_eq_true hp
          have HX : Hid (bT R = t.extract 4 t.size) := Lib.hid (by rw [← HY.out hp]; exact (bT_eq (by rw [extract_list]; rfl)).symm)
          clear hp hse
          go_wp2
          go_quiet (fail)
          go_wp2
          go_ret
          rw [HX.out]
          exact ⟨rfl, below_drewN (behind hbW hbr) _⟩
        · have c3 : ((t.extract 0 4).toList == ([116, 104, 101, 32] : List UInt8)) = false := by rw [hse]; exact decide_eq_false hp
          have HX := Lib.hid (HN.out hp)
          clear hp hse
          go_wp2
          go_quiet (fail)
          go_wp2
          go_roundg g'
          case measure => omega
          case rel => exact ⟨1, by omega, by omega, rfl, below_drewN hbr _, HX⟩
      · have c1 : ¬ (4 : Int) ≤ (t.size : Int) := by omega
        have c2 : decide ((4 : Int) ≤ (t.size : Int)) = false := decide_eq_false c1
        have HX := Lib.hid (HN.out (beg_short (by have := HLn.out; simp; omega)))
        go_wp2
        go_quiet (fail)
        go_wp2
        go_roundg g'
        case measure => omega
        case rel => exact ⟨1, by omega, by omega, rfl, below_drewN hbr _, HX⟩
    · obtain ⟨g', rfl⟩ : ∃ g', gk = g' + 1 := ⟨gk - 1, by omega⟩
      have HN := Lib.hid (fun (h : ¬ t.data.toList.take ([97, 32] : List UInt8).length = [97, 32]) => (cut_not (begs.drop 2) h).symm.trans HJ.out)
      have HY := Lib.hid (fun (h : t.data.toList.take ([97, 32] : List UInt8).length = [97, 32]) => (cut_yes (begs.drop 2) h).symm.trans HJ.out)
      clear HJ
      have hsz : ((⟨#[97, 32]⟩ : ByteArray).size : Int) = 2 := rfl
      by_cases hlen : 2 ≤ t.size
      · have c1 : (2 : Int) ≤ (t.size : Int) := by omega
        have c2 : decide ((2 : Int) ≤ (t.size : Int)) = true := decide_eq_true c1
        have hse := slice_is t [97, 32] 2
        by_cases hp : t.data.toList.take 2 = [97, 32]
        · have c3 : ((t.extract 0 2).toList == ([97, 32] : List UInt8)) = true := by rw [hse]; exact decide_eq_true hp
          have HX : Hid (bT R = t.extract 2 t.size) := Lib.hid (by rw [← HY.out hp]; exact (bT_eq (by rw [extract_list]; rfl)).symm)
          clear hp hse
          go_wp2
          go_quiet (fail)
          go_wp2
          go_ret
          rw [HX.out]
          exact ⟨rfl, below_drewN (behind hbW hbr) _⟩
        · have c3 : ((t.extract 0 2).toList == ([97, 32] : List UInt8)) = false := by rw [hse]; exact decide_eq_false hp
          have HX := Lib.hid (HN.out hp)
          clear hp hse
          go_wp2
          go_quiet (fail)
          go_wp2
          go_roundg g'
          case measure => omega
          case rel => exact ⟨2, by omega, by omega, rfl, below_drewN hbr _, HX⟩
      · have c1 : ¬ (2 : Int) ≤ (t.size : Int) := by omega
        have c2 : decide ((2 : Int) ≤ (t.size : Int)) = false := decide_eq_false c1
        have HX := Lib.hid (HN.out (beg_short (by have := HLn.out; simp; omega)))
        go_wp2
        go_quiet (fail)
        go_wp2
        go_roundg g'
        case measure => omega
        case rel => exact ⟨2, by omega, by omega, rfl, below_drewN hbr _, HX⟩
    · obtain ⟨g', rfl⟩ : ∃ g', gk = g' + 1 := ⟨gk - 1, by omega⟩
      have HN := Lib.hid (fun (h : ¬ t.data.toList.take ([97, 110, 32] : List UInt8).length = [97, 110, 32]) => (cut_not (begs.drop 3) h).symm.trans HJ.out)
      have HY := Lib.hid (fun (h : t.data.toList.take ([97, 110, 32] : List UInt8).length = [97, 110, 32]) => (cut_yes (begs.drop 3) h).symm.trans HJ.out)
      clear HJ
      have hsz : ((⟨#[97, 110, 32]⟩ : ByteArray).size : Int) = 3 := rfl
      by_cases hlen : 3 ≤ t.size
      · have c1 : (3 : Int) ≤ (t.size : Int) := by omega
        have c2 : decide ((3 : Int) ≤ (t.size : Int)) = true := decide_eq_true c1
        have hse := slice_is t [97, 110, 32] 3
        by_cases hp : t.data.toList.take 3 = [97, 110, 32]
        · have c3 : ((t.extract 0 3).toList == ([97, 110, 32] : List UInt8)) = true := by rw [hse]; exact decide_eq_true hp
          have HX : Hid (bT R = t.extract 3 t.size) := Lib.hid (by rw [← HY.out hp]; exact (bT_eq (by rw [extract_list]; rfl)).symm)
          clear hp hse
          go_wp2
          go_quiet (fail)
          go_wp2
          go_ret
          rw [HX.out]
          exact ⟨rfl, below_drewN (behind hbW hbr) _⟩
        · have c3 : ((t.extract 0 3).toList == ([97, 110, 32] : List UInt8)) = false := by rw [hse]; exact decide_eq_false hp
          have HX := Lib.hid (HN.out hp)
          clear hp hse
          go_wp2
          go_quiet (fail)
          go_wp2
          go_roundg g'
          case measure => omega
          case rel => exact ⟨3, by omega, by omega, rfl, below_drewN hbr _, HX⟩
      · have c1 : ¬ (3 : Int) ≤ (t.size : Int) := by omega
        have c2 : decide ((3 : Int) ≤ (t.size : Int)) = false := decide_eq_false c1
        have HX := Lib.hid (HN.out (beg_short (by have := HLn.out; simp; omega)))
        go_wp2
        go_quiet (fail)
        go_wp2
        go_roundg g'
        case measure => omega
        case rel => exact ⟨3, by omega, by omega, rfl, below_drewN hbr _, HX⟩
    · have HX : Hid (bT R = t) := Lib.hid (by rw [← HJ.out]; exact bT_data t)
      go_wp2
      go_ret
      rw [HX.out]
      exact ⟨rfl, behind hbW hbr⟩
end Go.Proofs.YtdbhlnokhfflmaaDoor
