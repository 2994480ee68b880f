import Derived.Test.YtcdlleeonfnamaaMayC
import Derived.Test.YtcdlleeonfnamaaUnder
namespace Go.Proofs.Ytcdlleeonfnamaa
open Go.RowKit
set_option maxRecDepth 100000

set_option maxHeartbeats 4000000 in
theorem check_any (v : Value) (l : List At) (w : World) (h : Attrs w v l) : Calls Try.prog 13 #[v] w fun e w' => e = .returned (.bool (checkL l)) ∧ Below w.heap.size w w' := by
  obtain ⟨p, cap, rfl, hl, ⟨hs, -⟩, hc⟩ := h
  by_cases h64 : l.length ≤ 64
  · go_enter Try.func13, Try.ntmps13
    go_wp2
    go_loopw [10] (fun i wr => ∃ k : Nat, k ≤ l.length ∧ i = .int .i64 k ∧ (l.take k).all attB = true ∧ riseB (l.take k) = true ∧ Below w.heap.size w wr) (fun i _ => l.length - (intOf i).toNat)
    case atStart => exact ⟨0, by omega, rfl, by simp, by simp [riseB], Below.refl _ _⟩
    case round =>
      obtain ⟨k, hk, rfl, ha, hr, hbel⟩ := hrel
      have HA := Lib.hid ha
      have HR := Lib.hid hr
      clear ha hr
      by_cases hlt : k < l.length
      · obtain ⟨b, o, rfl, hb, hcc⟩ := hc (by omega)
        obtain ⟨c1, c2⟩ := hcc k hlt
        have c1 := (hbel.cell (p := ⟨b, o + k * 2, none⟩) hb).trans c1
        have c2 := (hbel.cell (p := ⟨b, o + k * 2 + 1, none⟩) hb).trans c2
        obtain ⟨s1, s2⟩ := hs l[k] (List.getElem_mem hlt)
        have hM := fun w => may_c l[k].1 l[k].2 w s1 s2
        have HCL := Lib.hid (fun h => check_att (l := l) k hlt h)
        have HCY := Lib.hid (fun h => att_take l k hlt HA.out h)
        have f1 : (wr.alloc (.cells #[.string l[k].1, .string l[k].2] 46)).cell? ⟨wr.heap.size, 0, none⟩ = some (.string l[k].1) := by rw [World.cell?_alloc_new]; rfl
        have f2 : (wr.alloc (.cells #[.string l[k].1, .string l[k].2] 46)).cell? ⟨wr.heap.size, 1, none⟩ = some (.string l[k].2) := by rw [World.cell?_alloc_new]; rfl
        clear hc
        cases hm : attB (l[k].1, l[k].2) with
        | false =>
          have HF : Hid (checkL l = false) := Lib.hid (HCL.out hm)
          rw [hm] at hM
          clear hm hcc s1 s2
          go_wp2
          have F1 := under_cell f1
          have F2 := under_cell f2
          refine wp_region_under (wr.alloc (.cells #[.string l[k].1, .string l[k].2] 46)) (by kernel_rfl) (by kernel_rfl) (Below.refl _ _) ?_
          repeat (go_big_quiet_step ((go_at_call 22; exact under_call (hM _))))
          refine wpQuiet_nil ?_
          rintro _ ⟨x, rfl⟩
          have hb3 := x.ok
          clear F1 F2
          go_wp2
          go_ret
          exact ⟨ret_bool HF.out.symm, behind (behind hbel (laidNew _ _)) hb3⟩
        | true =>
          have HY : Hid ((l.take (k + 1)).all attB = true) := Lib.hid (HCY.out hm)
          rw [hm] at hM
          clear hm
          by_cases h0 : 0 < k
          · obtain ⟨d1, _⟩ := hcc (k - 1) (by omega)
            have d1 := (hbel.cell (p := ⟨b, o + (k - 1) * 2, none⟩) hb).trans d1
            have HRT := Lib.hid (rise_take l k h0 hlt)
            have hbW := Nat.lt_of_lt_of_le hb hbel.size
            have d2 : (wr.alloc (.cells #[.string l[k].1, .string l[k].2] 46)).cell? ⟨b, o + (k - 1) * 2, none⟩ = some (.string l[k - 1].1) := ((laidNew wr _).cell (p := ⟨b, o + (k - 1) * 2, none⟩) hbW).trans d1
            have e1 : IntKind.i64.wrap ((k : Int) - 1) = ((k - 1 : Nat) : Int) := by rw [IntKind.wrap_i64]; omega
            have e2 : (((k - 1 : Nat) : Int)).toNat = k - 1 := by omega
            have e3 : (0 : Int) ≤ ((k - 1 : Nat) : Int) := by omega
            have e4 : ((k - 1 : Nat) : Int) < (l.length : Int) := by omega
            have hd0 : decide ((0 : Int) < (k : Int)) = true := by simp; omega
            cases hless : Op.bytesLess l[k - 1].1.toList l[k].1.toList with
            | false =>
              have HF : Hid (checkL l = false) := Lib.hid (check_rise k h0 hlt hless)
              clear hcc s1 s2
              go_wp2
              have F1 := under_cell f1
              have F2 := under_cell f2
              have F3 := under_cell d2
              refine wp_region_under (wr.alloc (.cells #[.string l[k].1, .string l[k].2] 46)) (by kernel_rfl) (by kernel_rfl) (Below.refl _ _) ?_
              repeat (go_big_quiet_step ((go_at_call 22; exact under_call (hM _))))
              refine wpQuiet_nil ?_
              rintro _ ⟨x, rfl⟩
              have hb3 := x.ok
              clear F1 F2
              go_wp2
              go_ret
              exact ⟨ret_bool HF.out.symm, behind (behind hbel (laidNew _ _)) hb3⟩
            | true =>
              have HR2 : Hid (riseB (l.take (k + 1)) = true) := Lib.hid (by rw [HRT.out, HR.out]; exact hless)
              clear hcc s1 s2
              go_wp2
              have F1 := under_cell f1
              have F2 := under_cell f2
              have F3 := under_cell d2
              refine wp_region_under (wr.alloc (.cells #[.string l[k].1, .string l[k].2] 46)) (by kernel_rfl) (by kernel_rfl) (Below.refl _ _) ?_
              repeat (go_big_quiet_step ((go_at_call 22; exact under_call (hM _))))
              refine wpQuiet_nil ?_
              rintro _ ⟨x, rfl⟩
              have hb3 := x.ok
              clear F1 F2
              go_wp2
              go_roundw
              case rel => exact ⟨k + 1, by omega, by go_num, HY.out, HR2.out, behind (behind hbel (laidNew _ _)) hb3⟩
              case measure => simp [intOf]; omega
          · have hk0 : k = 0 := by omega
            have HR2 : Hid (riseB (l.take (k + 1)) = true) := Lib.hid (by subst hk0; exact rise_one l hlt)
            have hd0 : decide ((0 : Int) < (k : Int)) = false := by simp; omega
            clear hcc s1 s2 hk0
            go_wp2
            have F1 := under_cell f1
            have F2 := under_cell f2
            refine wp_region_under (wr.alloc (.cells #[.string l[k].1, .string l[k].2] 46)) (by kernel_rfl) (by kernel_rfl) (Below.refl _ _) ?_
            repeat (go_big_quiet_step ((go_at_call 22; exact under_call (hM _))))
            refine wpQuiet_nil ?_
            rintro _ ⟨x, rfl⟩
            have hb3 := x.ok
            clear F1 F2
            go_wp2
            go_roundw
            case rel => exact ⟨k + 1, by omega, by go_num, HY.out, HR2.out, behind (behind hbel (laidNew _ _)) hb3⟩
            case measure => simp [intOf]; omega
      · have HE := Lib.hid (show l.take k = l from List.take_of_length_le (by omega))
        rw [HE.out] at HA HR
        go_wp2
        go_ret
        exact ⟨ret_bool (check_yes h64 HA.out HR.out).symm, hbel⟩
  · go_enter Try.func13, Try.ntmps13
    go_wp2
    go_ret
    exact ⟨ret_bool (check_long h64).symm, Below.refl _ _⟩
end Go.Proofs.Ytcdlleeonfnamaa
