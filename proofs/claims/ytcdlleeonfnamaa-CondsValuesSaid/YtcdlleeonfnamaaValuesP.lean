/-
  CondsValues: a value that has a byte below 32 or 127, or too many bytes, may not be set; any other one may; for any value of at most 100000 bytes, and true is answered beyond. No conditions: every string.
-/
import Derived.Test.YtcdlleeonfnamaaAlive
import Derived.Test.YtcdlleeonfnamaaFacts
import Derived.Test.YtcdlleeonfnamaaPair
namespace Go.Proofs.Ytcdlleeonfnamaa.valuesLaw
open Go.ChangeShapes Go.WideShapes Go.ChangeAt Go.RowKit
set_option maxRecDepth 100000

theorem may_comm (l : List UInt8) : (decide (l.length ≤ 1024) && l.all okB) = mayL l := by unfold mayL; exact Bool.and_comm _ _
theorem check_one (u : ByteArray) : checkL [(tA, u)] = mayL u.data.toList := by
  have hn : nameB tA.data.toList = true := by decide +kernel
  show (decide (1 ≤ 64) && ((nameB tA.data.toList && mayL u.data.toList) && true) && true) = _
  rw [hn]; simp
theorem put_nil (u : ByteArray) : putL [] tA u = [(tA, u)] := rfl
theorem set_one_yes (u : ByteArray) (h : mayL u.data.toList = true) : setE [] tA u = 0 ∧ setL [] tA u = [(tA, u)] := by
  have hn : nameB tA.data.toList = true := by decide +kernel
  have := setE_ok (l := []) (n := tA) (u := u) (by rw [hn, h]; rfl) (by rw [put_nil]; show 1 ≤ 64; decide)
  rwa [put_nil] at this
theorem set_one_no (u : ByteArray) (h : mayL u.data.toList = false) : setE [] tA u = 1 ∧ setL [] tA u = [] := setE_no (by rw [h]; simp)

set_option maxHeartbeats 4000000 in
theorem walk (u : ByteArray) (_hs : u.size ≤ maxLen) (hr : u.size ≤ 140737488351232) (w : World) :
    Calls Try.prog 8 #[.string u] w fun e w' => e = .returned (.bool true) ∧ Below w.heap.size w w' := by
  have hz0 : u.data.toList.length = u.size := by simp
  have HZ := Lib.hid hz0
  clear hz0
  by_cases hz1 : u.size ≤ 100000
  · go_enter Try.func8, Try.ntmps8
    go_wp2_with fail
    refine (alive_any w _ (Below.refl _ _)).mono ?_
    rintro e w1 ⟨rfl, hb1, hk1⟩
    go_wp2
    go_loopw [3, 4] (fun m i wr => ∃ k : Nat, k ≤ u.size ∧ i = .int .i64 k ∧ m = .bool (decide (u.data.toList.length ≤ 1024) && (u.data.toList.take k).all okB) ∧ wr = w1) (fun _ i _ => u.size - (intOf i).toNat)
    case atStart => exact ⟨0, by omega, rfl, by rw [HZ.out]; simp; omega, rfl⟩
    case round =>
      obtain ⟨k, hk, rfl, rfl, rfl⟩ := hrel
      obtain ⟨b, hb⟩ : ∃ b : Bool, (decide (u.data.toList.length ≤ 1024) && (u.data.toList.take k).all okB) = b := ⟨_, rfl⟩
      have HB := Lib.hid hb
      rw [hb]
      clear hb
      by_cases hlt : k < u.size
      · have HT : Hid ((u.data.toList.take (k + 1)).all okB = ((u.data.toList.take k).all okB && okB u[k])) := Lib.hid (by rw [List.take_succ_eq_append_getElem (by simpa using hlt), List.all_append]; simp; rfl)
        cases b with
        | false =>
          go_wp2
          refine ⟨⟨k + 1, by omega, by go_num, ?_, trivial⟩, by simp [intOf]; omega⟩
          rw [HT.out, ← Bool.and_assoc, HB.out]; rfl
        | true =>
          by_cases h1 : 32 ≤ (u[k].toNat : Int)
          · by_cases h2 : (u[k].toNat : Int) = 127
            · have e2 : ((u[k].toNat : Int) != 127) = false := by simp [h2]
              have HO : Hid (okB u[k] = false) := Lib.hid (by simp [okB]; omega)
              clear h2
              go_wp2
              refine ⟨⟨k + 1, by omega, by go_num, ?_, trivial⟩, by simp [intOf]; omega⟩
              rw [HT.out, HO.out]; simp
            · have e2 : ((u[k].toNat : Int) != 127) = true := by simpa using h2
              have HO : Hid (okB u[k] = true) := Lib.hid (by simp [okB]; omega)
              clear h2
              go_wp2
              refine ⟨⟨k + 1, by omega, by go_num, ?_, trivial⟩, by simp [intOf]; omega⟩
              rw [HT.out, HO.out, Bool.and_true, HB.out]
          · have HO : Hid (okB u[k] = false) := Lib.hid (by simp [okB]; omega)
            go_wp2
            refine ⟨⟨k + 1, by omega, by go_num, ?_, trivial⟩, by simp [intOf]; omega⟩
            rw [HT.out, HO.out]; simp
      · have hmy : mayL u.data.toList = b := by rw [← may_comm, ← HB.out, List.take_of_length_le (by rw [HZ.out]; omega)]
        clear HB
        have hc1 := check_one u
        cases b with
        | false =>
          obtain ⟨e1, e2⟩ := set_one_no u hmy
          rw [hmy] at hc1
          clear hmy
          go_wp2_with fail
          refine (set_c _ [] tA u w wr hb1 (attrs_nil _) (by decide) hr).mono ?_
          rintro e w2 ⟨a2, rfl, O2, hb2, hk2⟩
          rw [e1]
          go_wp2_with fail
          refine (one_any tA u w w2 hb2 (by decide) hr).mono ?_
          rintro e w3 ⟨a3, rfl, hA3, hb3, hk3⟩
          go_wp2_with fail
          refine (check_c a3 _ w w3 hb3 hA3).mono ?_
          rintro e w4 ⟨rfl, hb4, hk4⟩
          rw [hc1]
          go_wp2
          go_ret
          exact ⟨rfl, hb4⟩
        | true =>
          obtain ⟨e1, e2⟩ := set_one_yes u hmy
          rw [hmy] at hc1
          clear hmy
          go_wp2_with fail
          refine (set_c _ [] tA u w wr hb1 (attrs_nil _) (by decide) hr).mono ?_
          rintro e w2 ⟨a2, rfl, O2, hb2, hk2⟩
          rw [e1]
          rw [e2] at O2
          go_wp2_with fail
          refine (one_any tA u w w2 hb2 (by decide) hr).mono ?_
          rintro e w3 ⟨a3, rfl, hA3, hb3, hk3⟩
          have O2 := O2.below hk3
          go_wp2_with fail
          refine (check_c a3 _ w w3 hb3 hA3).mono ?_
          rintro e w4 ⟨rfl, hb4, hk4⟩
          have O2 := O2.below hk4
          rw [hc1]
          go_wp2_with fail
          refine (one_any tA u w w4 hb4 (by decide) hr).mono ?_
          rintro e w5 ⟨a5, rfl, hA5, hb5, hk5⟩
          have O2 := O2.below hk5
          go_wp2_with fail
          refine (sameAttrs_c a2 a5 _ _ w w5 hb5 (O2.attrs (by simp)) hA5).mono ?_
          rintro e w6 ⟨rfl, hb6, hk6⟩
          rw [dec_self]
          go_wp2
          go_ret
          exact ⟨rfl, hb6⟩
  · have hz3 : decide ((100000 : Int) < (u.size : Int)) = true := by simp; omega
    go_enter Try.func8, Try.ntmps8
    go_wp2_with fail
    refine (alive_any w _ (Below.refl _ _)).mono ?_
    rintro e w1 ⟨rfl, hb1, hk1⟩
    go_wp2_with fail
    refine (alive_any w w1 hb1).mono ?_
    rintro e w2 ⟨rfl, hb2, hk2⟩
    go_wp2
    go_ret
    exact ⟨rfl, hb2⟩

theorem readable : ∀ t ∈ #[9].toList, Try.prog.readableRec t = true ∧ t < Try.prog.types.size := by
  intro t ht
  have h : t ∈ ([9] : List TypeId) := ht
  simp only [List.mem_cons, List.not_mem_nil, or_false] at h
  rcases h with rfl
  · exact ⟨by kernel_rfl, of_decide_eq_true (by kernel_rfl)⟩

theorem lifted (os : Os) (started : os.Started) (H : Type) (enc : TypeId × Value → H) :
    ReturnsInHanded {} Try.checked os 8 .any (Rows.condsValuesSpec.pre6 enc Try.prog Try.f8 Rows.condsValuesRow.domain false) (Rows.condsValuesSpec.post enc Try.prog Try.f8 false true false false) := by
  refine returnsInHanded_of_change_sized (C := Try.checked) own started (by kernel_rfl) Try.func8
    (ChangeSpec.witness6 (enc := enc) (C := Try.checked) false ⟨#[], #[.string ⟨#[]⟩], []⟩ 8 (by kernel_rfl) (by kernel_rfl) (by kernel_rfl) (by kernel_rfl)) ?_
  intro W base args ds gs before hval hW _ hz _
  have hW' := hW
  obtain ⟨p, q, hA, hV, rfl, hfz, hnd⟩ := hW
  rw [Try.params8] at hA hval
  obtain ⟨v0, vs0, d0, ds0, p0, q0, hargs0, rfl, rfl, h0, r0⟩ := trodAll_cons hA
  obtain ⟨rfl, rfl, rfl⟩ := trodAll_nil r0
  obtain rfl : args = #[v0] := by cases args; simp_all
  obtain ⟨rfl, rfl⟩ := trodVars_none hV
  obtain ⟨s0, rfl, rfl, rfl, hs0⟩ := string_arg (hval 0 9 v0 rfl rfl) h0
  have hr0 := string_reach hz (j := 0) (s := s0) rfl rfl
  refine (walk s0 hs0 hr0 W).mono fun e W' ⟨he, hb⟩ => ⟨_, he, law_post rfl rfl ?_ hW' rfl hb⟩
  rw [Try.params8]
  exact readable

theorem proved : Rows.CondsValuesSaid :=
  OpenClaim.holds_of_wide 8 Try.f8 rfl rfl rfl rfl rfl rfl rfl ⟨rfl, rfl, rfl, rfl, rfl⟩ rfl rfl rfl rfl rfl (by kernel_rfl) Try.func8 (by kernel_rfl)
    (of_decide_eq_true (by kernel_rfl)) (by unfold Func.isWrapper; first | (rw [if_pos (by decide +kernel)]; kernel_rfl) | (rw [if_neg (by decide +kernel)]; exact ⟨rfl, rfl⟩))
    (fun os started H enc _ => lifted os started H enc)
end Go.Proofs.Ytcdlleeonfnamaa.valuesLaw
