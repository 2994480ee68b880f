/- Merged: MayC, CheckC. -/
import Derived.Test.YtbhlnemahhndoaaGreatDoorU4
import Derived.Test.YtbhlnemahhndoaaGreatDoorU1
import Derived.Test.YtbhlnemahhndoaaGreatDoorU3
import Derived.IntWalk
import Derived.Lib.ConvBytes
import Derived.Test.YtbhlnemahhndoaaGreatDoorUnder
namespace Go.Proofs.YtbhlnemahhndoaaGreatDoor
open Go.RowKit
set_option maxRecDepth 100000

/-- a byte that a value may not have -/
def ctlB (c : UInt8) : Bool := !okB c
theorem control_c (c : UInt8) (w : World) : Calls Tryz.prog 217 #[.int .u8 c.toNat] w fun e w' => e = .returned (.bool (ctlB c)) ∧ w = w' := by
  by_cases h1 : (c.toNat : Int) < 32
  · have HF : Hid (ctlB c = true) := Lib.hid (by simp [ctlB, okB]; omega)
    go_enter Tryz.func217, Tryz.ntmps217
    go_wp2
    go_ret
    exact ⟨ret_bool HF.out.symm, rfl⟩
  · by_cases h2 : (c.toNat : Int) = 127
    · have HF : Hid (ctlB c = true) := Lib.hid (by simp [ctlB, okB]; omega)
      have e : ((c.toNat : Int) == 127) = true := by simp [h2]
      clear h2
      go_enter Tryz.func217, Tryz.ntmps217
      go_wp2
      go_ret
      exact ⟨ret_bool HF.out.symm, rfl⟩
    · have HF : Hid (ctlB c = false) := Lib.hid (by simp [ctlB, okB]; omega)
      have e : ((c.toNat : Int) == 127) = false := by simpa using h2
      clear h2
      go_enter Tryz.func217, Tryz.ntmps217
      go_wp2
      go_ret
      exact ⟨ret_bool HF.out.symm, rfl⟩
/-- cells of a row of bytes, that may be written -/
def BytesIn (w : World) (b : Nat) (l : List UInt8) : Prop := ∀ j, j < l.length → w.cell? ⟨b, j, none⟩ = some (.int .u8 ((l.getD j 0).toNat : Int)) ∧ w.frozen? ⟨b, j, none⟩ = false

/-- '[]byte(s)' lays a new row -/
theorem conv_bytes (w : World) (s : ByteArray) : ∃ (c : Nat) (w1 : World), (convert 9 74 (.string s)).run Tryz.prog w = .ok (.slice (some ⟨w.heap.size, 0, none⟩) s.size c) w1 ∧
    Below w.heap.size w w1 ∧ BytesIn w1 w.heap.size s.data.toList ∧ w1.heap.size = w.heap.size + 1 := by
  refine ⟨_, _, run_bytes_of_string (P := Tryz.prog) w 9 74 5 s Tryz.underlying9 Tryz.underlying74 Tryz.underlying5, ?_, ?_, ?_⟩
  · exact ((Below.refl _ _).drew).alloc (Nat.le_refl _) _
  · intro j hj
    have hj' : j < s.data.size := by simpa using hj
    refine ⟨?_, ?_⟩
    · have e := World.cell?_alloc_mark w.drew (bytesRow s (grownCap w s.size 0 5)) 5 ((bytesRow s (grownCap w s.size 0 5)).size, (bytesRow s (grownCap w s.size 0 5)).size + 1) j
      refine Eq.trans e ?_
      rw [bytesRow_at s _ j hj']
      simp [List.getD, Array.getElem?_eq_getElem hj']
    · have e := World.frozen?_alloc_mark w.drew (bytesRow s (grownCap w s.size 0 5)) 5 (bytesRow s (grownCap w s.size 0 5)).size ((bytesRow s (grownCap w s.size 0 5)).size + 1) j
      refine Eq.trans e ?_
      have hz : (bytesRow s (grownCap w s.size 0 5)).size = s.data.size + (grownCap w s.size 0 5 - s.size) := by unfold bytesRow; rw [Array.size_append, Array.size_map, Array.size_replicate]
      have : ¬ (bytesRow s (grownCap w s.size 0 5)).size ≤ j := by omega
      rw [decide_eq_false this]; rfl
  · simp

theorem bytes_at {w : World} {b : Nat} {s : ByteArray} (h : BytesIn w b s.data.toList) (k : Nat) (hk : k < s.size) : w.cell? ⟨b, k, none⟩ = some (.int .u8 (s[k].toNat : Int)) := by
  have e := (h k (by simpa using hk)).1
  rw [e]
  simp [List.getD, Array.getElem?_eq_getElem (show k < s.data.size from hk)]
  rfl

set_option maxHeartbeats 1000000 in
theorem find_control (s : ByteArray) (b c : Nat) (w : World) (hs : s.size ≤ 1024) (hB : BytesIn w b s.data.toList) :
    Calls Tryz.prog 216 #[.slice (some ⟨b, 0, none⟩) s.size c, .func (Fn.func 217) #[] #[]] w fun e w' => e = .returned (.int .i64 ((s.data.toList.findIdx ctlB : Nat) : Int)) ∧ w = w' := by
  have hz : s.data.toList.length = s.size := by simp
  have HZ := Lib.hid hz
  clear hz
  go_enter Tryz.func216, Tryz.ntmps216
  go_wp2
  go_loop [9] (fun i => ∃ k : Nat, k ≤ s.size ∧ i = .int .i64 k ∧ (∀ j (hj : j < k) (hl : j < s.data.toList.length), ctlB s.data.toList[j] = false)) (fun i => s.size - (intOf i).toNat)
  case atStart => exact ⟨0, by omega, rfl, fun j hj => by omega⟩
  case round =>
    obtain ⟨k, hk, rfl, ha⟩ := hrel
    have HA := Lib.hid ha
    clear ha
    by_cases hlk : k < s.size
    · have c1 := bytes_at hB k hlk
      have hC := fun w => control_c s[k] w
      have hkl : k < s.data.toList.length := by simpa using hlk
      have hsk : s.data.toList[k] = s[k] := by simp; rfl
      cases hp : ctlB s[k] with
      | true =>
        have HF : Hid (s.data.toList.findIdx ctlB = k) := Lib.hid (idx_hit _ _ k hkl (fun j hj => HA.out j hj (by omega)) (by rw [hsk]; exact hp))
        rw [hp] at hC
        clear hp hsk hkl
        go_wp2_with (go_at_call 217; refine (hC _).mono ?_; rintro e w2 ⟨rfl, rfl⟩)
        go_ret
        exact ⟨ret_at HF.out, rfl⟩
      | false =>
        have HN : Hid (∀ j (hj : j < k + 1) (hl : j < s.data.toList.length), ctlB s.data.toList[j] = false) := Lib.hid (fun j hj hl => by
          by_cases e : j = k
          · subst e; rw [hsk]; exact hp
          · exact HA.out j (by omega) hl)
        rw [hp] at hC
        clear hp hsk hkl
        go_wp2_with (go_at_call 217; refine (hC _).mono ?_; rintro e w2 ⟨rfl, rfl⟩)
        go_round
        case rel => exact ⟨k + 1, by omega, by go_num, HN.out⟩
        case measure => simp [intOf]; omega
    · have HE : Hid (s.data.toList.findIdx ctlB = s.size) := Lib.hid (by rw [idx_end _ _ (fun j hj => HA.out j (by rw [HZ.out] at hj; omega) hj)]; exact HZ.out)
      go_wp2
      go_ret
      exact ⟨ret_at HE.out, rfl⟩

theorem all_idx (l : List UInt8) : (l.findIdx ctlB = l.length → l.all okB = true) ∧ (l.findIdx ctlB < l.length → l.all okB = false) := by
  refine ⟨fun h => ?_, fun h => ?_⟩
  · rw [List.findIdx_eq_length] at h
    rw [List.all_eq_true]
    intro x hx
    have := h x hx
    unfold ctlB at this
    simpa using this
  · have h2 : ctlB l[l.findIdx ctlB] = true := List.findIdx_getElem (w := h)
    have hm := List.getElem_mem h
    generalize l[l.findIdx ctlB] = x at h2 hm
    rw [List.all_eq_false]
    exact ⟨x, hm, by unfold ctlB at h2; simpa using h2⟩

set_option maxHeartbeats 1000000 in
theorem mayValue_c (s : ByteArray) (w : World) (hs : s.size ≤ 9223372036854775807) : Calls Tryz.prog 185 #[.string s] w fun e w' => e = .returned (.bool (mayL s.data.toList)) ∧ Below w.heap.size w w' := by
  have hz : s.data.toList.length = s.size := by simp
  by_cases h1 : s.size ≤ 1024
  · obtain ⟨c, w1, hrun, hbel, hB, -⟩ := conv_bytes w s
    have hF := find_control s w.heap.size c w1 h1 hB
    obtain ⟨a1, a2⟩ := all_idx s.data.toList
    have hle := idx_le ctlB s.data.toList
    rw [hz] at a1 a2 hle
    obtain ⟨k, hk⟩ : ∃ k : Nat, s.data.toList.findIdx ctlB = k := ⟨_, rfl⟩
    rw [hk] at a1 a2 hle hF
    by_cases hks : k = s.size
    · have HF : Hid (mayL s.data.toList = true) := Lib.hid (by unfold mayL; rw [a1 hks, hz]; simpa using h1)
      rw [hks] at hF
      clear a1 a2 hle hk hks hB hz
      go_enter Tryz.func185, Tryz.ntmps185
      go_wp2_with (go_at_call 216; refine hF.mono ?_; rintro e w2 ⟨rfl, rfl⟩)
      go_ret
      exact ⟨ret_bool HF.out.symm, hbel⟩
    · have HF : Hid (mayL s.data.toList = false) := Lib.hid (by unfold mayL; rw [a2 (by omega)]; rfl)
      have hne : ((k : Int) == (s.size : Int)) = false := by simp; omega
      clear a1 a2 hle hk hks hB hz
      go_enter Tryz.func185, Tryz.ntmps185
      go_wp2_with (go_at_call 216; refine hF.mono ?_; rintro e w2 ⟨rfl, rfl⟩)
      go_ret
      exact ⟨ret_bool HF.out.symm, hbel⟩
  · have HF : Hid (mayL s.data.toList = false) := Lib.hid (by unfold mayL; rw [hz]; simp [h1])
    clear hz
    go_enter Tryz.func185, Tryz.ntmps185
    go_wp2
    go_ret
    exact ⟨ret_bool HF.out.symm, Below.refl _ _⟩

set_option maxHeartbeats 1000000 in
theorem may_c (x y : ByteArray) (w : World) (hx : x.size ≤ 140737488351232) (hy : y.size ≤ 140737488351232) : Calls Tryz.prog 164 #[.agg #[.string x, .string y]] w fun e w' => e = .returned (.bool (attB (x, y))) ∧ Below w.heap.size w w' := by
  have hN := fun w => name_any x w (by unfold maxLen; omega)
  have hV := fun w => mayValue_c y w (by omega)
  cases hn : nameB x.data.toList with
  | false =>
    have HF : Hid (attB (x, y) = false) := Lib.hid (by unfold attB; rw [hn]; rfl)
    rw [hn] at hN
    clear hn
    go_enter Tryz.func164, Tryz.ntmps164
    go_wp2_with (first | (go_at_call 37; refine (hN _).mono ?_; rintro e w2 ⟨rfl, rfl⟩) | (go_at_call 185; refine (hV _).mono ?_; rintro e w2 ⟨rfl, hb2⟩))
    go_ret
    exact ⟨ret_bool HF.out.symm, laidNew _ _⟩
  | true =>
    have HF : Hid (attB (x, y) = mayL y.data.toList) := Lib.hid (by unfold attB; rw [hn]; rfl)
    rw [hn] at hN
    clear hn
    go_enter Tryz.func164, Tryz.ntmps164
    go_wp2_with (first | (go_at_call 37; refine (hN _).mono ?_; rintro e w2 ⟨rfl, rfl⟩) | (go_at_call 185; refine (hV _).mono ?_; rintro e w2 ⟨rfl, hb2⟩))
    go_ret
    exact ⟨ret_bool HF.out.symm, behind (laidNew _ _) hb2⟩
end Go.Proofs.YtbhlnemahhndoaaGreatDoor
namespace Go.Proofs.YtbhlnemahhndoaaGreatDoor
open Go.RowKit
set_option maxRecDepth 100000

set_option maxHeartbeats 4000000 in
theorem check_any (v : Value) (l : List At) (w : World) (h : Attrs w v l) : Calls Tryz.prog 147 #[v] w fun e w' => e = .returned (.bool (checkL l)) ∧ Below w.heap.size w w' := by
  obtain ⟨p, cap, rfl, hl, ⟨hs, -⟩, hc⟩ := h
  by_cases h64 : l.length ≤ 64
  · go_enter Tryz.func147, Tryz.ntmps147
    go_wp2
    go_loopw [10] (fun i wr => ∃ k : Nat, k ≤ l.length ∧ i = .int .i64 k ∧ (l.take k).all attB = true ∧ riseB (l.take k) = true ∧ Below w.heap.size w wr) (fun i _ => l.length - (intOf i).toNat)
    case atStart => exact ⟨0, by omega, rfl, by simp, by simp [riseB], Below.refl _ _⟩
    case round =>
      obtain ⟨k, hk, rfl, ha, hr, hbel⟩ := hrel
      have HA := Lib.hid ha
      have HR := Lib.hid hr
      clear ha hr
      by_cases hlt : k < l.length
      · obtain ⟨b, o, rfl, hb, hcc⟩ := hc (by omega)
        obtain ⟨c1, c2⟩ := hcc k hlt
        have c1 := (hbel.cell (p := ⟨b, o + k * 2, none⟩) hb).trans c1
        have c2 := (hbel.cell (p := ⟨b, o + k * 2 + 1, none⟩) hb).trans c2
        obtain ⟨s1, s2⟩ := hs l[k] (List.getElem_mem hlt)
        have hM := fun w => may_c l[k].1 l[k].2 w s1 s2
        have HCL := Lib.hid (fun h => check_att (l := l) k hlt h)
        have HCY := Lib.hid (fun h => att_take l k hlt HA.out h)
        have f1 : (wr.alloc (.cells #[.string l[k].1, .string l[k].2] 84)).cell? ⟨wr.heap.size, 0, none⟩ = some (.string l[k].1) := by rw [World.cell?_alloc_new]; rfl
        have f2 : (wr.alloc (.cells #[.string l[k].1, .string l[k].2] 84)).cell? ⟨wr.heap.size, 1, none⟩ = some (.string l[k].2) := by rw [World.cell?_alloc_new]; rfl
        clear hc
        cases hm : attB (l[k].1, l[k].2) with
        | false =>
          have HF : Hid (checkL l = false) := Lib.hid (HCL.out hm)
          rw [hm] at hM
          clear hm hcc s1 s2
          go_wp2
          have F1 := under_cell f1
          have F2 := under_cell f2
          refine wp_region_under (wr.alloc (.cells #[.string l[k].1, .string l[k].2] 84)) (by kernel_rfl) (by kernel_rfl) (Below.refl _ _) ?_
          repeat (go_big_quiet_step ((go_at_call 164; exact under_call (hM _))))
          refine wpQuiet_nil ?_
          rintro _ ⟨x, rfl⟩
          have hb3 := x.ok
          clear F1 F2
          go_wp2
          go_ret
          exact ⟨ret_bool HF.out.symm, behind (behind hbel (laidNew _ _)) hb3⟩
        | true =>
          have HY : Hid ((l.take (k + 1)).all attB = true) := Lib.hid (HCY.out hm)
          rw [hm] at hM
          clear hm
          by_cases h0 : 0 < k
          · obtain ⟨d1, _⟩ := hcc (k - 1) (by omega)
            have d1 := (hbel.cell (p := ⟨b, o + (k - 1) * 2, none⟩) hb).trans d1
            have HRT := Lib.hid (rise_take l k h0 hlt)
            have hbW := Nat.lt_of_lt_of_le hb hbel.size
            have d2 : (wr.alloc (.cells #[.string l[k].1, .string l[k].2] 84)).cell? ⟨b, o + (k - 1) * 2, none⟩ = some (.string l[k - 1].1) := ((laidNew wr _).cell (p := ⟨b, o + (k - 1) * 2, none⟩) hbW).trans d1
            have e1 : IntKind.i64.wrap ((k : Int) - 1) = ((k - 1 : Nat) : Int) := by rw [IntKind.wrap_i64]; omega
            have e2 : (((k - 1 : Nat) : Int)).toNat = k - 1 := by omega
            have e3 : (0 : Int) ≤ ((k - 1 : Nat) : Int) := by omega
            have e4 : ((k - 1 : Nat) : Int) < (l.length : Int) := by omega
            have hd0 : decide ((0 : Int) < (k : Int)) = true := by simp; omega
            cases hless : Op.bytesLess l[k - 1].1.toList l[k].1.toList with
            | false =>
              have HF : Hid (checkL l = false) := Lib.hid (check_rise k h0 hlt hless)
              clear hcc s1 s2
              go_wp2
              have F1 := under_cell f1
              have F2 := under_cell f2
              have F3 := under_cell d2
              refine wp_region_under (wr.alloc (.cells #[.string l[k].1, .string l[k].2] 84)) (by kernel_rfl) (by kernel_rfl) (Below.refl _ _) ?_
              repeat (go_big_quiet_step ((go_at_call 164; exact under_call (hM _))))
              refine wpQuiet_nil ?_
              rintro _ ⟨x, rfl⟩
              have hb3 := x.ok
              clear F1 F2
              go_wp2
              go_ret
              exact ⟨ret_bool HF.out.symm, behind (behind hbel (laidNew _ _)) hb3⟩
            | true =>
              have HR2 : Hid (riseB (l.take (k + 1)) = true) := Lib.hid (by rw [HRT.out, HR.out]; exact hless)
              clear hcc s1 s2
              go_wp2
              have F1 := under_cell f1
              have F2 := under_cell f2
              have F3 := under_cell d2
              refine wp_region_under (wr.alloc (.cells #[.string l[k].1, .string l[k].2] 84)) (by kernel_rfl) (by kernel_rfl) (Below.refl _ _) ?_
              repeat (go_big_quiet_step ((go_at_call 164; exact under_call (hM _))))
              refine wpQuiet_nil ?_
              rintro _ ⟨x, rfl⟩
              have hb3 := x.ok
              clear F1 F2
              go_wp2
              go_roundw
              case rel => exact ⟨k + 1, by omega, by go_num, HY.out, HR2.out, behind (behind hbel (laidNew _ _)) hb3⟩
              case measure => simp [intOf]; omega
          · have hk0 : k = 0 := by omega
            have HR2 : Hid (riseB (l.take (k + 1)) = true) := Lib.hid (by subst hk0; exact rise_one l hlt)
            have hd0 : decide ((0 : Int) < (k : Int)) = false := by simp; omega
            clear hcc s1 s2 hk0
            go_wp2
            have F1 := under_cell f1
            have F2 := under_cell f2
            refine wp_region_under (wr.alloc (.cells #[.string l[k].1, .string l[k].2] 84)) (by kernel_rfl) (by kernel_rfl) (Below.refl _ _) ?_
            repeat (go_big_quiet_step ((go_at_call 164; exact under_call (hM _))))
            refine wpQuiet_nil ?_
            rintro _ ⟨x, rfl⟩
            have hb3 := x.ok
            clear F1 F2
            go_wp2
            go_roundw
            case rel => exact ⟨k + 1, by omega, by go_num, HY.out, HR2.out, behind (behind hbel (laidNew _ _)) hb3⟩
            case measure => simp [intOf]; omega
      · have HE := Lib.hid (show l.take k = l from List.take_of_length_le (by omega))
        rw [HE.out] at HA HR
        go_wp2
        go_ret
        exact ⟨ret_bool (check_yes h64 HA.out HR.out).symm, hbel⟩
  · go_enter Tryz.func147, Tryz.ntmps147
    go_wp2
    go_ret
    exact ⟨ret_bool (check_long h64).symm, Below.refl _ _⟩
end Go.Proofs.YtbhlnemahhndoaaGreatDoor
