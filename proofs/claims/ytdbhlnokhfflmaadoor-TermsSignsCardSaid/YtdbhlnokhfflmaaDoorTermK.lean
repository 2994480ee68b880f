import Derived.Test.YtdbhlnokhfflmaaDoorTermJ
import Derived.Deep.LoopGhost
namespace Go.Proofs.YtdbhlnokhfflmaaDoor
open Go.RowKit
set_option maxRecDepth 100000

/-! ### Key -/
def begs : List (List UInt8) := [[116, 104, 101, 32], [97, 32], [97, 110, 32]]
def cutBeg : List (List UInt8) → List UInt8 → List UInt8
  | [], l => l
  | b :: bs, l => if b.isPrefixOf l then l.drop b.length else cutBeg bs l
def keyL (l : List UInt8) : List UInt8 := cutBeg begs (lowL l)
theorem cut_yes {b l : List UInt8} (bs : List (List UInt8)) (h : l.take b.length = b) : cutBeg (b :: bs) l = l.drop b.length := by
  have : b.isPrefixOf l = true := List.isPrefixOf_iff_prefix.2 (by rw [← h]; exact List.take_prefix _ _)
  unfold cutBeg; rw [if_pos this]
theorem cut_not {b l : List UInt8} (bs : List (List UInt8)) (h : ¬ l.take b.length = b) : cutBeg (b :: bs) l = cutBeg bs l := by
  have : ¬ b.isPrefixOf l = true := fun e => h (by
    obtain ⟨t, rfl⟩ := List.isPrefixOf_iff_prefix.1 e
    exact List.take_left)
  conv => lhs; unfold cutBeg
  rw [if_neg this]
/-- a beginning that is too long for the text, or differs from it somewhere -/
theorem beg_short {b l : List UInt8} (h : l.length < b.length) : ¬ l.take b.length = b := fun e => by
  have := congrArg List.length e
  rw [List.length_take] at this; omega
theorem beg_other {b l : List UInt8} (k : Nat) (hk : k < l.length) (hb : k < b.length) (h : ¬ l[k] = b[k]) : ¬ l.take b.length = b := fun e => by
  have h1 : (l.take b.length)[k]? = b[k]? := by rw [e]
  rw [List.getElem?_take_of_lt hb, List.getElem?_eq_getElem hk, List.getElem?_eq_getElem hb] at h1
  exact h (Option.some.inj h1)
theorem beg_next {b l : List UInt8} (k : Nat) (hk : k < l.length) (hb : k < b.length) (h : l.take k = b.take k) (e : l[k] = b[k]) : l.take (k + 1) = b.take (k + 1) := by
  rw [List.take_succ_eq_append_getElem hk, List.take_succ_eq_append_getElem hb, h, e]
theorem byte_eq (x : UInt8) (n : Nat) (hn : n < 256) : (x = UInt8.ofNat n ∧ ((x.toNat : Int) == (n : Int)) = true) ∨ (¬ x = UInt8.ofNat n ∧ ((x.toNat : Int) == (n : Int)) = false) := by
  have h : x = UInt8.ofNat n ↔ (x.toNat : Int) = (n : Int) := by
    constructor
    · rintro rfl; rw [UInt8.toNat_ofNat']; omega
    · intro e; apply UInt8.toNat_inj.1; rw [UInt8.toNat_ofNat']; omega
  by_cases e : x = UInt8.ofNat n
  · exact .inl ⟨e, by rw [beq_iff_eq]; exact h.1 e⟩
  · exact .inr ⟨e, by rw [beq_eq_false_iff_ne]; exact fun e2 => e (h.2 e2)⟩
theorem begs_0 (w : World) : (Instr.index 32 (.agg #[.string ⟨#[116, 104, 101, 32]⟩, .string ⟨#[97, 32]⟩, .string ⟨#[97, 110, 32]⟩]) (.int .i64 0)).run Tryd.prog w = .ok (.string ⟨#[116, 104, 101, 32]⟩) w := by rfl
theorem begs_1 (w : World) : (Instr.index 32 (.agg #[.string ⟨#[116, 104, 101, 32]⟩, .string ⟨#[97, 32]⟩, .string ⟨#[97, 110, 32]⟩]) (.int .i64 1)).run Tryd.prog w = .ok (.string ⟨#[97, 32]⟩) w := by rfl
theorem begs_2 (w : World) : (Instr.index 32 (.agg #[.string ⟨#[116, 104, 101, 32]⟩, .string ⟨#[97, 32]⟩, .string ⟨#[97, 110, 32]⟩]) (.int .i64 2)).run Tryd.prog w = .ok (.string ⟨#[97, 110, 32]⟩) w := by rfl
set_option maxHeartbeats 8000000 in
theorem key_c (s : ByteArray) (w : World) (hs : s.size ≤ 140737488351232) :
    Calls Tryd.prog 12 #[.string s] w fun e w' => e = .returned (.string (bT (keyL s.data.toList))) ∧ Below w.heap.size w w' := by
  have hL := fun w => lower_any s w (by unfold maxLen; omega)
  unfold keyL
  have hz : (⟨(lowL s.data.toList).toArray⟩ : ByteArray).size = s.size := by show (lowL s.data.toList).toArray.size = _; simp [lowL]
  obtain ⟨t, ht⟩ : ∃ t : ByteArray, ⟨(lowL s.data.toList).toArray⟩ = t := ⟨_, rfl⟩
  have hd : lowL s.data.toList = t.data.toList := by rw [← ht]
  rw [hd]
  rw [ht] at hz hL
  rw [← hz] at hs
  clear hd ht hz
  have hl : t.data.toList.length = t.size := by simp
  have HLn := Lib.hid hl
  clear hl
  obtain ⟨R, hR⟩ : ∃ R, cutBeg begs t.data.toList = R := ⟨_, rfl⟩
  rw [hR]
  have HR := Lib.hid hR
  clear hR
  go_enter Tryd.func12, Tryd.ntmps12
  go_wp2
  go_step3
  go_wp2_with (first | (go_at_call 16; (with_reducible refine (hL _).mono ?_); rintro e w2 ⟨rfl, hb2⟩))
  go_step3
  go_wp2
  have i0 := begs_0
  have i1 := begs_1
  have i2 := begs_2
  go_loopg [10] 3 (fun gf iv wr => ∃ j : Int, 0 ≤ j ∧ j + (gf : Int) = 3 ∧ iv = .int .i64 j ∧ Below w.heap.size w wr ∧ Hid (cutBeg (begs.drop j.toNat) t.data.toList = R))
  case atStart => exact ⟨0, by omega, by omega, rfl, hb2, HR⟩
  case round =>
    obtain ⟨j, hj0, hj, rfl, hbr, HJ⟩ := hrel
    rcases (show j = 0 ∨ j = 1 ∨ j = 2 ∨ j = 3 by omega) with rfl | rfl | rfl | rfl
    · obtain ⟨g', rfl⟩ : ∃ g', gk = g' + 1 := ⟨gk - 1, by omega⟩
      have HN := Lib.hid (fun (h : ¬ t.data.toList.take ([116, 104, 101, 32] : List UInt8).length = [116, 104, 101, 32]) => (cut_not (begs.drop 1) h).symm.trans HJ.out)
      have HY := Lib.hid (fun (h : t.data.toList.take ([116, 104, 101, 32] : List UInt8).length = [116, 104, 101, 32]) => (cut_yes (begs.drop 1) h).symm.trans HJ.out)
      clear HJ
      go_wp2
      go_loopg [15] 4 (fun gf kv wx => ∃ k : Int, 0 ≤ k ∧ k + (gf : Int) = 4 ∧ k ≤ (t.size : Int) ∧ kv = .int .i64 k ∧ Below w.heap.size w wx ∧ Hid (t.data.toList.take k.toNat = ([116, 104, 101, 32] : List UInt8).take k.toNat))
      case atStart => exact ⟨0, by omega, by omega, by omega, rfl, hbr, Lib.hid rfl⟩
      case round =>
        obtain ⟨k, hk0, hk, hks, rfl, hbx, HK⟩ := hrel
        rcases (show k = 0 ∨ k = 1 ∨ k = 2 ∨ k = 3 ∨ k = 4 by omega) with rfl | rfl | rfl | rfl | rfl
        · obtain ⟨g2, rfl⟩ : ∃ g2, gk = g2 + 1 := ⟨gk - 1, by omega⟩
          by_cases hend : t.size = 0
          · have HX := Lib.hid (HN.out (beg_short (by have := HLn.out; simp; omega)))
            have hq : ((0 : Int) == (t.size : Int)) = true := by rw [beq_iff_eq]; omega
            go_wp2
            go_quiet (fail)
            go_wp2
            go_roundg g'
            case measure => omega
            case rel => exact ⟨1, by omega, by omega, rfl, below_drewN hbx _, HX⟩
          · have hlt : 0 < t.size := by omega
            have hltI : (0 : Int) < (t.size : Int) := by omega
            have hq : ((0 : Int) == (t.size : Int)) = false := by rw [beq_eq_false_iff_ne]; omega
            rcases byte_eq t[0] 116 (by omega) with ⟨e1, e2⟩ | ⟨e1, e2⟩
            · have HX : Hid (t.data.toList.take 1 = ([116, 104, 101, 32] : List UInt8).take 1) := Lib.hid (beg_next 0 (by have := HLn.out; omega) (by decide) HK.out e1)
              clear e1
              go_wp2
              go_quiet (fail)
              simp only [show ∀ h, (⟨#[116, 104, 101, 32]⟩ : ByteArray)[0]'h = 116 from fun _ => rfl, show (((116 : UInt8).toNat : Nat) : Int) = 116 from rfl]
              go_wp2
              go_roundg g2
              case measure => omega
              case rel => exact ⟨1, by omega, by omega, by omega, rfl, below_drewN hbx _, HX⟩
            · have HX := Lib.hid (HN.out (beg_other 0 (by have := HLn.out; omega) (by decide) e1))
              clear e1
              go_wp2
              go_quiet (fail)
              simp only [show ∀ h, (⟨#[116, 104, 101, 32]⟩ : ByteArray)[0]'h = 116 from fun _ => rfl, show (((116 : UInt8).toNat : Nat) : Int) = 116 from rfl]
              go_wp2
              go_roundg g'
              case measure => omega
              case rel => exact ⟨1, by omega, by omega, rfl, below_drewN hbx _, HX⟩
        · obtain ⟨g2, rfl⟩ : ∃ g2, gk = g2 + 1 := ⟨gk - 1, by omega⟩
          by_cases hend : t.size = 1
          · have HX := Lib.hid (HN.out (beg_short (by have := HLn.out; simp; omega)))
            have hq : ((1 : Int) == (t.size : Int)) = true := by rw [beq_iff_eq]; omega
            go_wp2
            go_quiet (fail)
            go_wp2
            go_roundg g'
            case measure => omega
            case rel => exact ⟨1, by omega, by omega, rfl, below_drewN hbx _, HX⟩
          · have hlt : 1 < t.size := by omega
            have hltI : (1 : Int) < (t.size : Int) := by omega
            have hq : ((1 : Int) == (t.size : Int)) = false := by rw [beq_eq_false_iff_ne]; omega
            rcases byte_eq t[1] 104 (by omega) with ⟨e1, e2⟩ | ⟨e1, e2⟩
            · have HX : Hid (t.data.toList.take 2 = ([116, 104, 101, 32] : List UInt8).take 2) := Lib.hid (beg_next 1 (by have := HLn.out; omega) (by decide) HK.out e1)
              clear e1
              go_wp2
              go_quiet (fail)
              simp only [show ∀ h, (⟨#[116, 104, 101, 32]⟩ : ByteArray)[1]'h = 104 from fun _ => rfl, show (((104 : UInt8).toNat : Nat) : Int) = 104 from rfl]
              go_wp2
              go_roundg g2
              case measure => omega
              case rel => exact ⟨2, by omega, by omega, by omega, rfl, below_drewN hbx _, HX⟩
            · have HX := Lib.hid (HN.out (beg_other 1 (by have := HLn.out; omega) (by decide) e1))
              clear e1
              go_wp2
              go_quiet (fail)
              simp only [show ∀ h, (⟨#[116, 104, 101, 32]⟩ : ByteArray)[1]'h = 104 from fun _ => rfl, show (((104 : UInt8).toNat : Nat) : Int) = 104 from rfl]
              go_wp2
              go_roundg g'
              case measure => omega
              case rel => exact ⟨1, by omega, by omega, rfl, below_drewN hbx _, HX⟩
        · obtain ⟨g2, rfl⟩ : ∃ g2, gk = g2 + 1 := ⟨gk - 1, by omega⟩
          by_cases hend : t.size = 2
          · have HX := Lib.hid (HN.out (beg_short (by have := HLn.out; simp; omega)))
            have hq : ((2 : Int) == (t.size : Int)) = true := by rw [beq_iff_eq]; omega
            go_wp2
            go_quiet (fail)
            go_wp2
            go_roundg g'
            case measure => omega
            case rel => exact ⟨1, by omega, by omega, rfl, below_drewN hbx _, HX⟩
          · have hlt : 2 < t.size := by omega
            have hltI : (2 : Int) < (t.size : Int) := by omega
            have hq : ((2 : Int) == (t.size : Int)) = false := by rw [beq_eq_false_iff_ne]; omega
            rcases byte_eq t[2] 101 (by omega) with ⟨e1, e2⟩ | ⟨e1, e2⟩
            · have HX : Hid (t.data.toList.take 3 = ([116, 104, 101, 32] : List UInt8).take 3) := Lib.hid (beg_next 2 (by have := HLn.out; omega) (by decide) HK.out e1)
              clear e1
              go_wp2
              go_quiet (fail)
              simp only [show ∀ h, (⟨#[116, 104, 101, 32]⟩ : ByteArray)[2]'h = 101 from fun _ => rfl, show (((101 : UInt8).toNat : Nat) : Int) = 101 from rfl]
              go_wp2
              go_roundg g2
              case measure => omega
              case rel => exact ⟨3, by omega, by omega, by omega, rfl, below_drewN hbx _, HX⟩
            · have HX := Lib.hid (HN.out (beg_other 2 (by have := HLn.out; omega) (by decide) e1))
              clear e1
              go_wp2
              go_quiet (fail)
              simp only [show ∀ h, (⟨#[116, 104, 101, 32]⟩ : ByteArray)[2]'h = 101 from fun _ => rfl, show (((101 : UInt8).toNat : Nat) : Int) = 101 from rfl]
              go_wp2
              go_roundg g'
              case measure => omega
              case rel => exact ⟨1, by omega, by omega, rfl, below_drewN hbx _, HX⟩
        · obtain ⟨g2, rfl⟩ : ∃ g2, gk = g2 + 1 := ⟨gk - 1, by omega⟩
          by_cases hend : t.size = 3
          · have HX := Lib.hid (HN.out (beg_short (by have := HLn.out; simp; omega)))
            have hq : ((3 : Int) == (t.size : Int)) = true := by rw [beq_iff_eq]; omega
            go_wp2
            go_quiet (fail)
            go_wp2
            go_roundg g'
            case measure => omega
            case rel => exact ⟨1, by omega, by omega, rfl, below_drewN hbx _, HX⟩
          · have hlt : 3 < t.size := by omega
            have hltI : (3 : Int) < (t.size : Int) := by omega
            have hq : ((3 : Int) == (t.size : Int)) = false := by rw [beq_eq_false_iff_ne]; omega
            rcases byte_eq t[3] 32 (by omega) with ⟨e1, e2⟩ | ⟨e1, e2⟩
            · have HX : Hid (t.data.toList.take 4 = ([116, 104, 101, 32] : List UInt8).take 4) := Lib.hid (beg_next 3 (by have := HLn.out; omega) (by decide) HK.out e1)
              clear e1
              go_wp2
              go_quiet (fail)
              simp only [show ∀ h, (⟨#[116, 104, 101, 32]⟩ : ByteArray)[3]'h = 32 from fun _ => rfl, show (((32 : UInt8).toNat : Nat) : Int) = 32 from rfl]
              go_wp2
              go_roundg g2
              case measure => omega
              case rel => exact ⟨4, by omega, by omega, by omega, rfl, below_drewN hbx _, HX⟩
            · have HX := Lib.hid (HN.out (beg_other 3 (by have := HLn.out; omega) (by decide) e1))
              clear e1
              go_wp2
              go_quiet (fail)
              simp only [show ∀ h, (⟨#[116, 104, 101, 32]⟩ : ByteArray)[3]'h = 32 from fun _ => rfl, show (((32 : UInt8).toNat : Nat) : Int) = 32 from rfl]
              go_wp2
              go_roundg g'
              case measure => omega
              case rel => exact ⟨1, by omega, by omega, rfl, below_drewN hbx _, HX⟩
        · have HX : Hid (bT R = t.extract 4 t.size) := Lib.hid (by rw [← HY.out HK.out]; exact (bT_eq (by rw [extract_list]; rfl)).symm)
          have c1 : (4 : Int) ≤ (t.size : Int) := hks
          go_wp2
          rw [Exit.noGoto_ret]
          go_ret
          rw [HX.out]
          exact ⟨rfl, hbx⟩
    · obtain ⟨g', rfl⟩ : ∃ g', gk = g' + 1 := ⟨gk - 1, by omega⟩
      have HN := Lib.hid (fun (h : ¬ t.data.toList.take ([97, 32] : List UInt8).length = [97, 32]) => (cut_not (begs.drop 2) h).symm.trans HJ.out)
      have HY := Lib.hid (fun (h : t.data.toList.take ([97, 32] : List UInt8).length = [97, 32]) => (cut_yes (begs.drop 2) h).symm.trans HJ.out)
      clear HJ
      go_wp2
      go_loopg [15] 2 (fun gf kv wx => ∃ k : Int, 0 ≤ k ∧ k + (gf : Int) = 2 ∧ k ≤ (t.size : Int) ∧ kv = .int .i64 k ∧ Below w.heap.size w wx ∧ Hid (t.data.toList.take k.toNat = ([97, 32] : List UInt8).take k.toNat))
      case atStart => exact ⟨0, by omega, by omega, by omega, rfl, hbr, Lib.hid rfl⟩
      case round =>
        obtain ⟨k, hk0, hk, hks, rfl, hbx, HK⟩ := hrel
        rcases (show k = 0 ∨ k = 1 ∨ k = 2 by omega) with rfl | rfl | rfl
        · obtain ⟨g2, rfl⟩ : ∃ g2, gk = g2 + 1 := ⟨gk - 1, by omega⟩
          by_cases hend : t.size = 0
          · have HX := Lib.hid (HN.out (beg_short (by have := HLn.out; simp; omega)))
            have hq : ((0 : Int) == (t.size : Int)) = true := by rw [beq_iff_eq]; omega
            go_wp2
            go_quiet (fail)
            go_wp2
            go_roundg g'
            case measure => omega
            case rel => exact ⟨2, by omega, by omega, rfl, below_drewN hbx _, HX⟩
          · have hlt : 0 < t.size := by omega
            have hltI : (0 : Int) < (t.size : Int) := by omega
            have hq : ((0 : Int) == (t.size : Int)) = false := by rw [beq_eq_false_iff_ne]; omega
            rcases byte_eq t[0] 97 (by omega) with ⟨e1, e2⟩ | ⟨e1, e2⟩
            · have HX : Hid (t.data.toList.take 1 = ([97, 32] : List UInt8).take 1) := Lib.hid (beg_next 0 (by have := HLn.out; omega) (by decide) HK.out e1)
              clear e1
              go_wp2
              go_quiet (fail)
              simp only [show ∀ h, (⟨#[97, 32]⟩ : ByteArray)[0]'h = 97 from fun _ => rfl, show (((97 : UInt8).toNat : Nat) : Int) = 97 from rfl]
              go_wp2
              go_roundg g2
              case measure => omega
              case rel => exact ⟨1, by omega, by omega, by omega, rfl, below_drewN hbx _, HX⟩
            · have HX := Lib.hid (HN.out (beg_other 0 (by have := HLn.out; omega) (by decide) e1))
              clear e1
              go_wp2
              go_quiet (fail)
              simp only [show ∀ h, (⟨#[97, 32]⟩ : ByteArray)[0]'h = 97 from fun _ => rfl, show (((97 : UInt8).toNat : Nat) : Int) = 97 from rfl]
              go_wp2
              go_roundg g'
              case measure => omega
              case rel => exact ⟨2, by omega, by omega, rfl, below_drewN hbx _, HX⟩
        · obtain ⟨g2, rfl⟩ : ∃ g2, gk = g2 + 1 := ⟨gk - 1, by omega⟩
          by_cases hend : t.size = 1
          · have HX := Lib.hid (HN.out (beg_short (by have := HLn.out; simp; omega)))
            have hq : ((1 : Int) == (t.size : Int)) = true := by rw [beq_iff_eq]; omega
            go_wp2
            go_quiet (fail)
            go_wp2
            go_roundg g'
            case measure => omega
            case rel => exact ⟨2, by omega, by omega, rfl, below_drewN hbx _, HX⟩
          · have hlt : 1 < t.size := by omega
            have hltI : (1 : Int) < (t.size : Int) := by omega
            have hq : ((1 : Int) == (t.size : Int)) = false := by rw [beq_eq_false_iff_ne]; omega
            rcases byte_eq t[1] 32 (by omega) with ⟨e1, e2⟩ | ⟨e1, e2⟩
            · have HX : Hid (t.data.toList.take 2 = ([97, 32] : List UInt8).take 2) := Lib.hid (beg_next 1 (by have := HLn.out; omega) (by decide) HK.out e1)
              clear e1
              go_wp2
              go_quiet (fail)
              simp only [show ∀ h, (⟨#[97, 32]⟩ : ByteArray)[1]'h = 32 from fun _ => rfl, show (((32 : UInt8).toNat : Nat) : Int) = 32 from rfl]
              go_wp2
              go_roundg g2
              case measure => omega
              case rel => exact ⟨2, by omega, by omega, by omega, rfl, below_drewN hbx _, HX⟩
            · have HX := Lib.hid (HN.out (beg_other 1 (by have := HLn.out; omega) (by decide) e1))
              clear e1
              go_wp2
              go_quiet (fail)
              simp only [show ∀ h, (⟨#[97, 32]⟩ : ByteArray)[1]'h = 32 from fun _ => rfl, show (((32 : UInt8).toNat : Nat) : Int) = 32 from rfl]
              go_wp2
              go_roundg g'
              case measure => omega
              case rel => exact ⟨2, by omega, by omega, rfl, below_drewN hbx _, HX⟩
        · have HX : Hid (bT R = t.extract 2 t.size) := Lib.hid (by rw [← HY.out HK.out]; exact (bT_eq (by rw [extract_list]; rfl)).symm)
          have c1 : (2 : Int) ≤ (t.size : Int) := hks
          go_wp2
          rw [Exit.noGoto_ret]
          go_ret
          rw [HX.out]
          exact ⟨rfl, hbx⟩
    · obtain ⟨g', rfl⟩ : ∃ g', gk = g' + 1 := ⟨gk - 1, by omega⟩
      have HN := Lib.hid (fun (h : ¬ t.data.toList.take ([97, 110, 32] : List UInt8).length = [97, 110, 32]) => (cut_not (begs.drop 3) h).symm.trans HJ.out)
      have HY := Lib.hid (fun (h : t.data.toList.take ([97, 110, 32] : List UInt8).length = [97, 110, 32]) => (cut_yes (begs.drop 3) h).symm.trans HJ.out)
      clear HJ
      go_wp2
      go_loopg [15] 3 (fun gf kv wx => ∃ k : Int, 0 ≤ k ∧ k + (gf : Int) = 3 ∧ k ≤ (t.size : Int) ∧ kv = .int .i64 k ∧ Below w.heap.size w wx ∧ Hid (t.data.toList.take k.toNat = ([97, 110, 32] : List UInt8).take k.toNat))
      case atStart => exact ⟨0, by omega, by omega, by omega, rfl, hbr, Lib.hid rfl⟩
      case round =>
        obtain ⟨k, hk0, hk, hks, rfl, hbx, HK⟩ := hrel
        rcases (show k = 0 ∨ k = 1 ∨ k = 2 ∨ k = 3 by omega) with rfl | rfl | rfl | rfl
        · obtain ⟨g2, rfl⟩ : ∃ g2, gk = g2 + 1 := ⟨gk - 1, by omega⟩
          by_cases hend : t.size = 0
          · have HX := Lib.hid (HN.out (beg_short (by have := HLn.out; simp; omega)))
            have hq : ((0 : Int) == (t.size : Int)) = true := by rw [beq_iff_eq]; omega
            go_wp2
            go_quiet (fail)
            go_wp2
            go_roundg g'
            case measure => omega
            case rel => exact ⟨3, by omega, by omega, rfl, below_drewN hbx _, HX⟩
          · have hlt : 0 < t.size := by omega
            have hltI : (0 : Int) < (t.size : Int) := by omega
            have hq : ((0 : Int) == (t.size : Int)) = false := by rw [beq_eq_false_iff_ne]; omega
            rcases byte_eq t[0] 97 (by omega) with ⟨e1, e2⟩ | ⟨e1, e2⟩
            · have HX : Hid (t.data.toList.take 1 = ([97, 110, 32] : List UInt8).take 1) := Lib.hid (beg_next 0 (by have := HLn.out; omega) (by decide) HK.out e1)
              clear e1
              go_wp2
              go_quiet (fail)
              simp only [show ∀ h, (⟨#[97, 110, 32]⟩ : ByteArray)[0]'h = 97 from fun _ => rfl, show (((97 : UInt8).toNat : Nat) : Int) = 97 from rfl]
              go_wp2
              go_roundg g2
              case measure => omega
              case rel => exact ⟨1, by omega, by omega, by omega, rfl, below_drewN hbx _, HX⟩
            · have HX := Lib.hid (HN.out (beg_other 0 (by have := HLn.out; omega) (by decide) e1))
              clear e1
              go_wp2
              go_quiet (fail)
              simp only [show ∀ h, (⟨#[97, 110, 32]⟩ : ByteArray)[0]'h = 97 from fun _ => rfl, show (((97 : UInt8).toNat : Nat) : Int) = 97 from rfl]
              go_wp2
              go_roundg g'
              case measure => omega
              case rel => exact ⟨3, by omega, by omega, rfl, below_drewN hbx _, HX⟩
        · obtain ⟨g2, rfl⟩ : ∃ g2, gk = g2 + 1 := ⟨gk - 1, by omega⟩
          by_cases hend : t.size = 1
          · have HX := Lib.hid (HN.out (beg_short (by have := HLn.out; simp; omega)))
            have hq : ((1 : Int) == (t.size : Int)) = true := by rw [beq_iff_eq]; omega
            go_wp2
            go_quiet (fail)
            go_wp2
            go_roundg g'
            case measure => omega
            case rel => exact ⟨3, by omega, by omega, rfl, below_drewN hbx _, HX⟩
          · have hlt : 1 < t.size := by omega
            have hltI : (1 : Int) < (t.size : Int) := by omega
            have hq : ((1 : Int) == (t.size : Int)) = false := by rw [beq_eq_false_iff_ne]; omega
            rcases byte_eq t[1] 110 (by omega) with ⟨e1, e2⟩ | ⟨e1, e2⟩
            · have HX : Hid (t.data.toList.take 2 = ([97, 110, 32] : List UInt8).take 2) := Lib.hid (beg_next 1 (by have := HLn.out; omega) (by decide) HK.out e1)
              clear e1
              go_wp2
              go_quiet (fail)
              simp only [show ∀ h, (⟨#[97, 110, 32]⟩ : ByteArray)[1]'h = 110 from fun _ => rfl, show (((110 : UInt8).toNat : Nat) : Int) = 110 from rfl]
              go_wp2
              go_roundg g2
              case measure => omega
              case rel => exact ⟨2, by omega, by omega, by omega, rfl, below_drewN hbx _, HX⟩
            · have HX := Lib.hid (HN.out (beg_other 1 (by have := HLn.out; omega) (by decide) e1))
              clear e1
              go_wp2
              go_quiet (fail)
              simp only [show ∀ h, (⟨#[97, 110, 32]⟩ : ByteArray)[1]'h = 110 from fun _ => rfl, show (((110 : UInt8).toNat : Nat) : Int) = 110 from rfl]
              go_wp2
              go_roundg g'
              case measure => omega
              case rel => exact ⟨3, by omega, by omega, rfl, below_drewN hbx _, HX⟩
        · obtain ⟨g2, rfl⟩ : ∃ g2, gk = g2 + 1 := ⟨gk - 1, by omega⟩
          by_cases hend : t.size = 2
          · have HX := Lib.hid (HN.out (beg_short (by have := HLn.out; simp; omega)))
            have hq : ((2 : Int) == (t.size : Int)) = true := by rw [beq_iff_eq]; omega
            go_wp2
            go_quiet (fail)
            go_wp2
            go_roundg g'
            case measure => omega
            case rel => exact ⟨3, by omega, by omega, rfl, below_drewN hbx _, HX⟩
          · have hlt : 2 < t.size := by omega
            have hltI : (2 : Int) < (t.size : Int) := by omega
            have hq : ((2 : Int) == (t.size : Int)) = false := by rw [beq_eq_false_iff_ne]; omega
            rcases byte_eq t[2] 32 (by omega) with ⟨e1, e2⟩ | ⟨e1, e2⟩
            · have HX : Hid (t.data.toList.take 3 = ([97, 110, 32] : List UInt8).take 3) := Lib.hid (beg_next 2 (by have := HLn.out; omega) (by decide) HK.out e1)
              clear e1
              go_wp2
              go_quiet (fail)
              simp only [show ∀ h, (⟨#[97, 110, 32]⟩ : ByteArray)[2]'h = 32 from fun _ => rfl, show (((32 : UInt8).toNat : Nat) : Int) = 32 from rfl]
              go_wp2
              go_roundg g2
              case measure => omega
              case rel => exact ⟨3, by omega, by omega, by omega, rfl, below_drewN hbx _, HX⟩
            · have HX := Lib.hid (HN.out (beg_other 2 (by have := HLn.out; omega) (by decide) e1))
              clear e1
              go_wp2
              go_quiet (fail)
              simp only [show ∀ h, (⟨#[97, 110, 32]⟩ : ByteArray)[2]'h = 32 from fun _ => rfl, show (((32 : UInt8).toNat : Nat) : Int) = 32 from rfl]
              go_wp2
              go_roundg g'
              case measure => omega
              case rel => exact ⟨3, by omega, by omega, rfl, below_drewN hbx _, HX⟩
        · have HX : Hid (bT R = t.extract 3 t.size) := Lib.hid (by rw [← HY.out HK.out]; exact (bT_eq (by rw [extract_list]; rfl)).symm)
          have c1 : (3 : Int) ≤ (t.size : Int) := hks
          go_wp2
          rw [Exit.noGoto_ret]
          go_ret
          rw [HX.out]
          exact ⟨rfl, hbx⟩
    · have HX : Hid (bT R = t) := Lib.hid (by rw [← HJ.out]; exact bT_data t)
      go_wp2
      rw [Exit.noGoto_ret]
      go_ret
      rw [HX.out]
      exact ⟨rfl, hbr⟩
end Go.Proofs.YtdbhlnokhfflmaaDoor
