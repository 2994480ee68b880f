/-
  CondsFills: the filled text and the names asked for are just those that the document's own Fill gives, twice over; the attributes stay as they were, and no list that is answered shares a place with another; where the list is at most 1000 long, all texts have at most 100000 bytes and the text to fill at most 3000, and true is answered beyond. No conditions: every list of attributes, every text.
-/
import Derived.Test.YtikeaiibociapaaGreatDoorCards
import Derived.Test.YtikeaiibociapaaGreatDoorTie
import Derived.Test.YtikeaiibociapaaGreatDoorBookB
import Derived.Test.YtikeaiibociapaaGreatDoorArg
import Derived.Test.YtikeaiibociapaaGreatDoorFillC
import Derived.Test.YtikeaiibociapaaGreatDoorRefFill
import Derived.Test.YtikeaiibociapaaGreatDoorWitness
import Derived.Deep.DeepHandedRow
import Derived.Lib.LaidTab
namespace Go.Proofs.YtikeaiibociapaaGreatDoor.fillsLaw
open Go.ChangeShapes Go.WideShapes Go.ChangeAt Go.RowKit
set_option maxRecDepth 100000

set_option maxHeartbeats 8000000 in
theorem walk (w : World) (v : Value) (l : List At) (hA : Attrs w v l) (s : ByteArray) (_hs : s.size ≤ maxLen) (hr : s.size ≤ 140737488351232) :
    Calls Tryz.prog 3 #[v, .string s] w fun e w' => e = .returned (.bool true) ∧ Below w.heap.size w w' := by
  go_enter Tryz.func3, Tryz.ntmps3
  go_wp2_with fail
  refine (great_any v l s w hA hr).mono ?_
  rintro e w1 ⟨g, rfl, hsm, q, hw1⟩
  have hb1 : Below w.heap.size w w1 := by rw [hw1]; exact below_drewN (Below.refl _ _) q
  clear hw1
  cases g with
  | true =>
    go_wp2
    go_ret
    exact ⟨rfl, hb1⟩
  | false =>
    obtain ⟨hsml, hss⟩ := hsm rfl
    have hl1 := hsml.1
    have hA1 := hA.below hb1
    by_cases hbig : (3000 : Int) < (s.size : Int)
    · have hbd : decide ((3000 : Int) < (s.size : Int)) = true := by simp; omega
      go_wp2
      go_ret
      exact ⟨rfl, hb1⟩
    have hbd : decide ((3000 : Int) < (s.size : Int)) = false := by simp; omega
    have HSM := Lib.hid hsml
    obtain ⟨x, hx⟩ : ∃ x : ByteArray, bT (fillL l s.data.toList).1 = x := ⟨_, rfl⟩
    obtain ⟨Y, hY⟩ : ∃ Y, (fillL l s.data.toList).2 = Y := ⟨_, rfl⟩
    have hYl : Y.length ≤ s.size := by rw [← hY]; exact fillL_asked l s
    have HY : Hid (Y.length ≤ 100000) := Lib.hid (by omega)
    have hmY : Y.length ≤ 9223372036854775807 := by omega
    have hne : (x.toList != x.toList) = false := by simp
    clear hYl hsml
    go_wp2_with fail
    refine (twinAttrs_any v l w1 hA1 hl1).mono ?_
    rintro e w2 ⟨t, rfl, hT, hb2⟩
    have hA2 := hA1.below hb2
    go_wp2_with fail
    refine (fill_any t l s w2 hT.attrs (small_loose HSM.out) hss).mono ?_
    rintro e w3 ⟨a, rfl, hOa, hb3⟩
    rw [hY] at hOa
    rw [hx]
    have hT3 := hT.below hb3
    have hA3 := hA2.below hb3
    go_wp2_with fail
    refine (fill_any t l s w3 hT3.attrs (small_loose HSM.out) hss).mono ?_
    rintro e w4 ⟨b, rfl, hOb, hb4⟩
    rw [hY] at hOb
    rw [hx]
    have hT4 := hT3.below hb4
    have hA4 := hA3.below hb4
    have hOa4 := KeptBut.row (KeptBut.below (S := fun _ => False) hb4) hOa (fun _ _ h => h)
    go_wp2_with fail
    refine (refFill_any v l s w4 hA4 HSM.out hss).mono ?_
    rintro e w5 ⟨c, rfl, hOc, hb5⟩
    rw [hY] at hOc
    rw [hx]
    have hT5 := hT4.below hb5
    have hA5 := hA4.below hb5
    have hOa5 := KeptBut.row (KeptBut.below (S := fun _ => False) hb5) hOa4 (fun _ _ h => h)
    have hOb5 := KeptBut.row (KeptBut.below (S := fun _ => False) hb5) hOb (fun _ _ h => h)
    go_wp2_with fail
    refine (sameTexts_any _ c Y Y w5 (texts_owned hOa5 rfl hmY) (texts_owned hOc rfl hmY)).mono ?_
    rintro e w6 ⟨rfl, q6, hw6⟩
    rw [decide_eq_true rfl]
    have hb6 : Below w5.heap.size w5 w6 := by rw [hw6]; exact below_drewN (Below.refl _ _) q6
    clear hw6
    have hT6 := hT5.below hb6
    have hA6 := hA5.below hb6
    have hOb6 := KeptBut.row (KeptBut.below (S := fun _ => False) hb6) hOb5 (fun _ _ h => h)
    have hOc6 := KeptBut.row (KeptBut.below (S := fun _ => False) hb6) hOc (fun _ _ h => h)
    go_wp2_with fail
    refine (sameTexts_any _ c Y Y w6 (texts_owned hOb6 rfl hmY) (texts_owned hOc6 rfl hmY)).mono ?_
    rintro e w7 ⟨rfl, q7, hw7⟩
    rw [decide_eq_true rfl]
    have hb7 : Below w6.heap.size w6 w7 := by rw [hw7]; exact below_drewN (Below.refl _ _) q7
    clear hw7
    have hT7 := hT6.below hb7
    have hA7 := hA6.below hb7
    go_wp2_with fail
    refine (leftAttrs_any t v _ l w7 hT7 hA7).mono ?_
    rintro e w8 ⟨rfl, hb8⟩
    -- the book
    obtain ⟨Tt, ct, ht, lt1, lt2, rt2⟩ := hT.short
    have k28 : Below w2.heap.size w2 w8 := behind hb3 (behind hb4 (behind hb5 (behind hb6 (behind hb7 hb8))))
    have k38 : Below w3.heap.size w3 w8 := behind hb4 (behind hb5 (behind hb6 (behind hb7 hb8)))
    have k48 : Below w4.heap.size w4 w8 := behind hb5 (behind hb6 (behind hb7 hb8))
    have k08 : Below w.heap.size w w8 := behind (behind hb1 hb2) k28
    clear hT3 hT4 hT5 hT6 hT7 hA2 hA3 hA4 hA5 hA6 hA7 hOa4 hOa5 hOb5 hOb6 hOc hOc6 hb5 hb6 hb7 hb8 hT hne hx hY
    obtain ⟨pa, ca, ea⟩ := row_form hOa
    obtain ⟨pb, cb, eb⟩ := row_form hOb
    subst ht
    subst ea
    subst eb
    go_wp2_with fail
    obtain ⟨K, hK⟩ : ∃ K, w8.heap.size = K := ⟨_, rfl⟩
    obtain ⟨w9, hw9⟩ : ∃ w9, w8.alloc (.cells #[.int .i64 0, nilS, nilS, nilS, nilS, nilS, nilS, nilS, nilS, nilS, nilS, nilS, nilS, nilS, nilS, nilS, nilS, nilS] 48) = w9 := ⟨_, rfl⟩
    have hB9 : BookIs w9 K 0 nilS nilS := by rw [← hw9, ← hK]; exact book_new w8
    have k89 : Below w8.heap.size w8 w9 := by rw [← hw9]; exact laidNew _ _
    rw [hK, hw9]
    clear hw9
    have k29 := behind k28 k89
    have k39 := behind k38 k89
    have k49 := behind k48 k89
    have s2 := hb2.size
    have s3 := hb3.size
    have s4 := hb4.size
    have s48 := k48.size
    have s9 := k89.size
    have s01 := hb1.size
    have ra3 := hOa
    have rb4 := hOb
    have ua := fun g h => (ra3.lt g h)
    have ub := fun g h => (rb4.lt g h)
    have rt9 := KeptBut.row (KeptBut.below (S := fun _ => False) k29) rt2 (fun _ _ h => h)
    have ra9 := KeptBut.row (KeptBut.below (S := fun _ => False) k39) ra3 (fun _ _ h => h)
    have rb9 := KeptBut.row (KeptBut.below (S := fun _ => False) k49) rb4 (fun _ _ h => h)
    refine (attrsOf_any w.heap.size K 0 nilS none 0 0 [] _ _ _ w9 (by omega) (by omega) hB9 (by omega) ⟨rfl, .inl ⟨rfl, rfl⟩⟩).mono ?_
    rintro e w10 ⟨rfl, g10, c10, hB10, hL10, k10⟩
    have s10 := k10.size
    have rt10 := k10.row rt9 (fun g hg h => by have e1 : g = Tt := (by injection hg with e; exact e.symm); rcases h with h | h; omega; cases h)
    have ra10 := k10.row ra9 (fun g hg h => by have e1 := ua g hg; rcases h with h | h; omega; cases h)
    have rb10 := k10.row rb9 (fun g hg h => by have e1 := ub g hg; rcases h with h | h; omega; cases h)
    have g10K := book_not_row hB10 (by decide) hL10
    go_wp2_with fail
    refine (textsOf_any w.heap.size K 1 _ none 0 0 [] _ _ _ w10 (by omega) (by omega) hB10 (by omega) ⟨rfl, .inl ⟨rfl, rfl⟩⟩).mono ?_
    rintro e w11 ⟨rfl, g11, c11, hB11, hL11, k11⟩
    have s11 := k11.size
    have rt11 := k11.row rt10 (fun g hg h => by have e1 : g = Tt := (by injection hg with e; exact e.symm); rcases h with h | h; omega; cases h)
    have ra11 := k11.row ra10 (fun g hg h => by have e1 := ua g hg; rcases h with h | h; omega; cases h)
    have rb11 := k11.row rb10 (fun g hg h => by have e1 := ub g hg; rcases h with h | h; omega; cases h)
    have la11 := k11.row hL10 (fun g hg h => by rcases h with h | h; exact g10K (by rw [← h]; exact hg); cases h)
    go_wp2_with fail
    refine (textsOf_any w.heap.size K 2 _ (some ⟨g11, 0, none⟩) 1 c11 _ _ _ _ w11 (by omega) (by omega) hB11 (by omega) hL11).mono ?_
    rintro e w12 ⟨rfl, g12, c12, hB12, hL12, k12⟩
    have s12 := k12.size
    have rt12 := k12.row rt11 (fun g hg h => by have e1 : g = Tt := (by injection hg with e; exact e.symm); rcases h with h | h; omega; exact row_not_row (by decide) rt11 hL11 g hg h)
    have ra12 := k12.row ra11 (fun g hg h => by have e1 := ua g hg; rcases h with h | h; omega; exact row_not_row (by decide) ra11 hL11 g hg h)
    have rb12 := k12.row rb11 (fun g hg h => by have e1 := ub g hg; rcases h with h | h; omega; exact row_not_row (by decide) rb11 hL11 g hg h)
    have la12 := k12.row la11 (fun g hg h => by rcases h with h | h; exact g10K (by rw [← h]; exact hg); exact row_not_row (by decide) la11 hL11 g hg h)
    have told := told_fills (s3 := w3.heap.size) (base := w.heap.size) hB12 la12 hL12 (by omega) hl1 HY.out (row_mono rt12 s01) (row_mono ra12 (by omega)) rb12 (by omega) (fun g h => (ua g h).2)
    go_wp2_with fail
    refine (apartB_any told).mono ?_
    rintro e w13 ⟨rfl, k13⟩
    have g10l := (hL10.lt g10 rfl).1
    have g11l := (hL11.lt g11 rfl).1
    have g12l := (hL12.lt g12 rfl).1
    have kAll : KeptBut (fun b => w.heap.size ≤ b) w w13 := by
      have c0 : KeptBut (fun b => w.heap.size ≤ b) w w9 := KeptBut.below (behind k08 k89)
      have c1 : KeptBut (fun b => w.heap.size ≤ b) w9 w10 := k10.mono fun b h => by
        rcases h with h | h
        · omega
        · cases h
      have c2 : KeptBut (fun b => w.heap.size ≤ b) w10 w11 := k11.mono fun b h => by
        rcases h with h | h
        · omega
        · cases h
      have c3 : KeptBut (fun b => w.heap.size ≤ b) w11 w12 := k12.mono fun b h => by
        rcases h with h | h
        · omega
        · have e : b = g11 := (by injection h with e; exact e.symm); omega
      have c4 : KeptBut (fun b => w.heap.size ≤ b) w12 w13 := k13.mono fun b h => by
        rcases h with (h | h) | (⟨i, hi, h⟩ | ⟨i, hi, h⟩)
        · omega
        · omega
        · match i, hi with
          | 0, _ => have e : b = Tt := (by injection h with e; exact e.symm); omega
        · match i, hi with
          | 0, _ => have := (ua b h).1; omega
          | 1, _ => have := (ub b h).1; omega
      exact c0.trans (c1.trans (c2.trans (c3.trans c4)))
    go_wp2
    go_ret
    exact ⟨rfl, kAll.toBelow (Nat.le_refl _) (fun _ h => h)⟩

theorem readable : ∀ t ∈ #[22, 9].toList, Tryz.prog.readableRec t = true ∧ t < Tryz.prog.types.size := by
  intro t ht
  have h : t ∈ ([22, 9] : List TypeId) := ht
  simp only [List.mem_cons, List.not_mem_nil, or_false] at h
  rcases h with rfl | rfl
  · exact ⟨by kernel_rfl, of_decide_eq_true (by kernel_rfl)⟩
  · exact ⟨by kernel_rfl, of_decide_eq_true (by kernel_rfl)⟩

theorem contract (H : Type) (enc : TypeId × Value → H) (W : World) (base : Nat) (args : Array Value) (ds gs : List (DataW H)) (before : List MemPlace)
    (hval : ∀ (j : Nat) t v, Tryz.f3.params[j]? = some t → args[j]? = some v → Value.okWide Tryz.prog W .any base t v)
    (hW : DataW.Whole enc Tryz.prog Tryz.f3.params.toList Rows.condsFillsSpec.vars false W args.toList ds gs before)
    (hz : (DataW.weightsEach Tryz.prog (Tryz.f3.params.toList ++ (OpenSpec.ofChange Rows.condsFillsSpec).bare.plain.varTypes Tryz.prog) (ds ++ gs)).all (· ≤ reachBytes) = true) :
    Calls Tryz.prog 3 args W fun e W' => ∃ v, e = .returned v ∧ Rows.condsFillsSpec.post enc Tryz.prog Tryz.f3 false true false false W args v W' := by
  have hW' := hW
  obtain ⟨p, q, hA, hV, rfl, hfz, hnd⟩ := hW
  rw [Tryz.params3] at hA hval
  obtain ⟨v0, vs0, d0, ds0, p0, q0, hargs0, rfl, rfl, h0, r0⟩ := trodAll_cons hA
  obtain ⟨v1, vs1, d1, ds1, p1, q1, hargs1, rfl, rfl, h1, r1⟩ := trodAll_cons r0
  obtain ⟨rfl, rfl, rfl⟩ := trodAll_nil r1
  subst hargs1
  obtain rfl : args = #[v0, v1] := by cases args; simp_all
  obtain ⟨rfl, rfl⟩ := trodVars_none hV
  obtain ⟨l0, hA0⟩ := attrs_arg (hval 0 22 v0 rfl rfl) h0 (fun n hn => by have := List.all_eq_true.1 hz n (DataW.weights_mem_each (j := 0) rfl rfl n hn); simpa using this)
  obtain ⟨s1, rfl, rfl, rfl, hs1⟩ := string_arg (hval 1 9 v1 rfl rfl) h1
  have hr1 := string_reach hz (j := 1) (s := s1) rfl rfl
  refine (walk W v0 l0 hA0 s1 hs1 hr1).mono fun e W' ⟨he, hb⟩ => ⟨_, he, law_post rfl rfl ?_ hW' rfl hb⟩
  rw [Tryz.params3]
  exact readable

theorem met (os : Os) : laidMet Tryz.prog Rows.condsFillsRow.laid ((laidWorld os).forCall (fun _ _ => 0) ⟨#[], #[.slice none 0 0, .string ⟨#[]⟩], []⟩).memory :=
  laidMet_of_run' 8 (by kernel_rfl) (by kernel_rfl)
theorem reads (os : Os) {H : Type} (enc : TypeId × Value → H) : ∃ places, DataW.whole enc Tryz.prog ((laidWorld os).forCall (fun _ _ => 0) ⟨#[], #[.slice none 0 0, .string ⟨#[]⟩], []⟩).memory Tryz.f3.params.toList Rows.condsFillsSpec.vars false (#[.slice none 0 0, .string ⟨#[]⟩] : Array Value).toList 8 = some ([.nil, .lit (.string [])], [], places) :=
  ⟨[], by kernel_rfl⟩

set_option maxRecDepth 100000 in
theorem lifted (os : Os) (started : os.Started) (H : Type) (enc : TypeId × Value → H) (F : Stop.Interp) :
    ReturnsInHanded {} Tryz.checked os 3 .any ((OpenSpec.ofChange Rows.condsFillsSpec).preRow enc Tryz.prog Tryz.f3 Rows.condsFillsRow.domain false Rows.condsFillsRow.laid) (((OpenSpec.ofChange Rows.condsFillsSpec).at F).post enc Tryz.prog Tryz.f3 false true false false) := by
  obtain ⟨places, hx⟩ := reads os enc
  refine returnsInHanded_of_row (C := Tryz.checked) (s := OpenSpec.ofChange Rows.condsFillsSpec) own started (by kernel_rfl) Tryz.func3
    (witness_row_at (enc := enc) (C := Tryz.checked) false (laidWorld os) #[.slice none 0 0, .string ⟨#[]⟩] rfl (by kernel_rfl) (by kernel_rfl) (by kernel_rfl)
      (OpenSpec.preRow_of_cond 8 hx (by kernel_rfl) (fun k hk => by cases hk) (by kernel_rfl) (met os))) ?_
  intro W base args ds gs before hval hW _ _ hz _ _ _
  exact contract H enc W base args ds gs before hval hW hz

theorem said : Rows.CondsFillsSaid :=
  OpenClaim.holds_of_cond 3 Tryz.f3 rfl rfl rfl rfl rfl rfl rfl ⟨rfl, rfl, rfl, rfl, rfl⟩ rfl rfl rfl rfl rfl (by kernel_rfl) Tryz.func3 (by kernel_rfl)
    (of_decide_eq_true (by kernel_rfl)) (by unfold Func.isWrapper; first | (rw [if_pos (by decide +kernel)]; kernel_rfl) | (rw [if_neg (by decide +kernel)]; exact ⟨rfl, rfl⟩))
    (fun os started H enc _ F => by rw [OpenClaim.pre_eq_preRow]; exact lifted os started H enc F)

theorem plain (f : FuncId) (fn : Func) (hf : Tryz.pinned.checked.prog.funcNamed "bindery/binderylaw04.CondsFills" = some f) (hfn : Tryz.pinned.checked.prog.funcs[f]? = some fn) :
    true = Tryz.pinned.checked.prog.looks [] ∧ ∀ (j : Nat) t, fn.params[j]? = some t → Tryz.pinned.checked.prog.wantsStandIn t = false := by
  obtain rfl : f = 3 := Option.some.inj ((show Tryz.prog.funcNamed "bindery/binderylaw04.CondsFills" = some 3 by kernel_rfl).symm.trans hf) |>.symm
  obtain rfl : fn = Tryz.f3 := (Option.some.inj (Tryz.func3.symm.trans hfn)).symm
  refine ⟨by kernel_rfl, fun j t ht => ?_⟩
  rw [Tryz.params3] at ht
  have h : t ∈ ([22, 9] : List TypeId) := Array.mem_toList_iff.2 (Array.mem_of_getElem? ht)
  simp only [List.mem_cons, List.not_mem_nil, or_false] at h
  rcases h with rfl | rfl
  · exact (show Tryz.prog.wantsStandIn 22 = false by kernel_rfl)
  · exact (show Tryz.prog.wantsStandIn 9 = false by kernel_rfl)

theorem card : Rows.CondsFillsCardSaid :=
  Claim7.holds_tied_plain_at .later [] _ _ _ _ said (fun _ h => by cases h) (by kernel_rfl) (fun _ h => by cases h) condsFills_row_tie rfl ⟨rfl, rfl⟩ (by kernel_rfl) rfl plain (by kernel_rfl)
end Go.Proofs.YtikeaiibociapaaGreatDoor.fillsLaw
