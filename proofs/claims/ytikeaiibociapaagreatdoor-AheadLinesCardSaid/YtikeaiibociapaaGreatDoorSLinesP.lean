/-
  AheadLines: the lines of any text are just those that the document's own Lines gives, twice over, and the source of any name among any sources is the document's; the sources stay as they were, and no list that is answered shares a place with another; where the texts have at most 1048576 bytes together and the sources are of size 100000 at most, and true is answered beyond. No conditions: every text, every list of sources, every name.
-/
import Derived.Test.YtikeaiibociapaaGreatDoorCards
import Derived.Test.YtikeaiibociapaaGreatDoorTie
import Derived.Test.YtikeaiibociapaaGreatDoorSBookB
import Derived.Test.YtikeaiibociapaaGreatDoorSArg
import Derived.Test.YtikeaiibociapaaGreatDoorSAheadC
import Derived.Test.YtikeaiibociapaaGreatDoorWitness
import Derived.Deep.DeepHandedRow
import Derived.Lib.LaidTab
namespace Go.Proofs.YtikeaiibociapaaGreatDoor.src.linesLaw
open Go.ChangeShapes Go.WideShapes Go.ChangeAt Go.RowKit
set_option maxRecDepth 100000

set_option maxHeartbeats 8000000 in
theorem walk (w : World) (s : ByteArray) (_hs : s.size ≤ maxLen) (hr : s.size ≤ 140737488351232) (v : Value) (l : List At) (hA : Attrs w v l) (n : ByteArray) (_hn : n.size ≤ maxLen) (hrn : n.size ≤ 140737488351232) :
    Calls Tryz.prog 4 #[.string s, v, .string n] w fun e w' => e = .returned (.bool true) ∧ Below w.heap.size w w' := by
  have hA0 := hA.below (laidNew w (.cells #[.int .i64 (s.size : Int), .int .i64 (n.size : Int)] 3))
  go_enter Tryz.func4, Tryz.ntmps4
  go_wp2_with fail
  refine (beyond2 _ (s.size : Int) (n.size : Int) _ (by simp) (by simp) (by omega) (by omega)).mono ?_
  rintro e w' ⟨rfl, rfl⟩
  by_cases hbig : (1048576 : Int) < (s.size : Int) + (n.size : Int)
  · rw [decide_eq_true hbig]
    go_wp2
    go_ret
    exact ⟨rfl, laidNew _ _⟩
  rw [decide_eq_false hbig]
  have hss : s.size ≤ 1048576 := by omega
  clear hbig
  obtain ⟨w0, hw0⟩ : ∃ w0, w.alloc (.cells #[.int .i64 (s.size : Int), .int .i64 (n.size : Int)] 3) = w0 := ⟨_, rfl⟩
  have hb0 : Below w.heap.size w w0 := by rw [← hw0]; exact laidNew _ _
  rw [hw0] at hA0 ⊢
  clear hw0
  go_wp2_with fail
  refine (sourcesSize_any v l w0 hA0).mono ?_
  rintro e w1 ⟨N, rfl, hN, q, hw1⟩
  have hb1 : Below w.heap.size w w1 := by rw [hw1]; exact below_drewN hb0 q
  have hb01 : Below w0.heap.size w0 w1 := by rw [hw1]; exact below_drewN (Below.refl _ _) q
  clear hw1
  by_cases hg : (100000 : Int) < (N : Int)
  · have hgd : decide ((100000 : Int) < (N : Int)) = true := by simp; omega
    go_wp2
    go_ret
    exact ⟨rfl, hb1⟩
  · have hgd : decide ((100000 : Int) < (N : Int)) = false := by simp; omega
    have hl1 : l.length ≤ 100000 := by have := hN (by omega); omega
    have hA1 := hA0.below hb01
    obtain ⟨Y, hY⟩ : ∃ Y, linesL s.data.toList = Y := ⟨_, rfl⟩
    have hYl : Y.length ≤ s.size + 1 := by rw [← hY]; have := lines_len [] s.data.toList; unfold linesL; simpa using this
    have HY : Hid (Y.length ≤ 1048577) := Lib.hid (by omega)
    have hmY : Y.length ≤ 9223372036854775807 := by omega
    obtain ⟨x, k, hG⟩ : ∃ (x : ByteArray) (k : Bool), getV (getL l n) = .tuple #[.string x, .bool k] := by
      cases getL l n with
      | none => exact ⟨⟨#[]⟩, false, rfl⟩
      | some y => exact ⟨y, true, rfl⟩
    clear hYl hg hN
    go_wp2_with fail
    refine (twinAttrs_any v l w1 hA1 hl1).mono ?_
    rintro e w2 ⟨t, rfl, hT, hb2⟩
    have hA2 := hA1.below hb2
    go_wp2_with fail
    refine (lines_c s w2 hss).mono ?_
    rintro e w3 ⟨a, rfl, hOa, hb3⟩
    rw [hY] at hOa
    have hT3 := hT.below hb3
    have hA3 := hA2.below hb3
    go_wp2_with fail
    refine (lines_c s w3 hss).mono ?_
    rintro e w4 ⟨b, rfl, hOb, hb4⟩
    rw [hY] at hOb
    have hT4 := hT3.below hb4
    have hA4 := hA3.below hb4
    have hOa4 := KeptBut.row (KeptBut.below (S := fun _ => False) hb4) hOa (fun _ _ h => h)
    go_wp2_with fail
    refine (find_c t l n w4 hT4.attrs).mono ?_
    rintro e w5 ⟨rfl, hb5⟩
    rw [hG]
    have hT5 := hT4.below hb5
    have hA5 := hA4.below hb5
    have hOa5 := KeptBut.row (KeptBut.below (S := fun _ => False) hb5) hOa4 (fun _ _ h => h)
    have hFind := refGet_any v l n w5 hA5
    rw [hG] at hFind
    clear hG
    have hne : (x.toList != x.toList) = false := by simp
    have hke : (k != k) = false := by simp
    go_wp2_with fail
    refine hFind.mono ?_
    rintro e w' ⟨rfl, rfl⟩
    go_wp2_with fail
    refine (refLines_any s w5 hss).mono ?_
    rintro e w6 ⟨c, rfl, hOc, hb6⟩
    rw [hY] at hOc
    have hT6 := hT5.below hb6
    have hA6 := hA5.below hb6
    have hOa6 := KeptBut.row (KeptBut.below (S := fun _ => False) hb6) hOa5 (fun _ _ h => h)
    go_wp2_with fail
    refine (sameTexts_any _ c Y Y w6 (texts_owned hOa6 rfl hmY) (texts_owned hOc rfl hmY)).mono ?_
    rintro e w7 ⟨rfl, q7, hw7⟩
    rw [decide_eq_true rfl]
    have hb7 : Below w6.heap.size w6 w7 := by rw [hw7]; exact below_drewN (Below.refl _ _) q7
    clear hw7
    have hT7 := hT6.below hb7
    have hA7 := hA6.below hb7
    go_wp2_with fail
    refine (leftAttrs_any t v _ l w7 hT7 hA7).mono ?_
    rintro e w8 ⟨rfl, hb8⟩
    -- the book
    obtain ⟨Tt, ct, ht, lt1, lt2, rt2⟩ := hT.short
    have k28 : Below w2.heap.size w2 w8 := behind hb3 (behind hb4 (behind hb5 (behind hb6 (behind hb7 hb8))))
    have k38 : Below w3.heap.size w3 w8 := behind hb4 (behind hb5 (behind hb6 (behind hb7 hb8)))
    have k48 : Below w4.heap.size w4 w8 := behind hb5 (behind hb6 (behind hb7 hb8))
    have k08 : Below w.heap.size w w8 := behind (behind hb1 hb2) k28
    clear hT3 hT4 hT5 hT6 hT7 hA2 hA3 hA4 hA5 hA6 hA7 hOa4 hOa5 hOa6 hOc hb5 hb6 hb7 hb8 hT hne hke hY hFind
    obtain ⟨pa, ca, ea⟩ := row_form hOa
    obtain ⟨pb, cb, eb⟩ := row_form hOb
    subst ht
    subst ea
    subst eb
    go_wp2_with fail
    obtain ⟨K, hK⟩ : ∃ K, w8.heap.size = K := ⟨_, rfl⟩
    obtain ⟨w9, hw9⟩ : ∃ w9, w8.alloc (.cells #[.int .i64 0, nilS, nilS, nilS, nilS, nilS, nilS, nilS, nilS, nilS, nilS, nilS, nilS, nilS, nilS, nilS, nilS, nilS] 48) = w9 := ⟨_, rfl⟩
    have hB9 : BookIs w9 K 0 nilS nilS := by rw [← hw9, ← hK]; exact book_new w8
    have k89 : Below w8.heap.size w8 w9 := by rw [← hw9]; exact laidNew _ _
    rw [hK, hw9]
    clear hw9
    have k29 := behind k28 k89
    have k39 := behind k38 k89
    have k49 := behind k48 k89
    have s2 := hb2.size
    have s3 := hb3.size
    have s4 := hb4.size
    have s48 := k48.size
    have s9 := k89.size
    have s01 := hb1.size
    have ra3 := hOa
    have rb4 := hOb
    have ua := fun g h => (ra3.lt g h)
    have ub := fun g h => (rb4.lt g h)
    have rt9 := KeptBut.row (KeptBut.below (S := fun _ => False) k29) rt2 (fun _ _ h => h)
    have ra9 := KeptBut.row (KeptBut.below (S := fun _ => False) k39) ra3 (fun _ _ h => h)
    have rb9 := KeptBut.row (KeptBut.below (S := fun _ => False) k49) rb4 (fun _ _ h => h)
    refine (attrsOf_any w.heap.size K 0 nilS none 0 0 [] _ _ _ w9 (by omega) (by omega) hB9 (by omega) ⟨rfl, .inl ⟨rfl, rfl⟩⟩).mono ?_
    rintro e w10 ⟨rfl, g10, c10, hB10, hL10, k10⟩
    have s10 := k10.size
    have rt10 := k10.row rt9 (fun g hg h => by have e1 : g = Tt := (by injection hg with e; exact e.symm); rcases h with h | h; omega; cases h)
    have ra10 := k10.row ra9 (fun g hg h => by have e1 := ua g hg; rcases h with h | h; omega; cases h)
    have rb10 := k10.row rb9 (fun g hg h => by have e1 := ub g hg; rcases h with h | h; omega; cases h)
    have g10K := book_not_row hB10 (by decide) hL10
    go_wp2_with fail
    refine (textsOf_any w.heap.size K 1 _ none 0 0 [] _ _ _ w10 (by omega) (by omega) hB10 (by omega) ⟨rfl, .inl ⟨rfl, rfl⟩⟩).mono ?_
    rintro e w11 ⟨rfl, g11, c11, hB11, hL11, k11⟩
    have s11 := k11.size
    have rt11 := k11.row rt10 (fun g hg h => by have e1 : g = Tt := (by injection hg with e; exact e.symm); rcases h with h | h; omega; cases h)
    have ra11 := k11.row ra10 (fun g hg h => by have e1 := ua g hg; rcases h with h | h; omega; cases h)
    have rb11 := k11.row rb10 (fun g hg h => by have e1 := ub g hg; rcases h with h | h; omega; cases h)
    have la11 := k11.row hL10 (fun g hg h => by rcases h with h | h; exact g10K (by rw [← h]; exact hg); cases h)
    go_wp2_with fail
    refine (textsOf_any w.heap.size K 2 _ (some ⟨g11, 0, none⟩) 1 c11 _ _ _ _ w11 (by omega) (by omega) hB11 (by omega) hL11).mono ?_
    rintro e w12 ⟨rfl, g12, c12, hB12, hL12, k12⟩
    have s12 := k12.size
    have rt12 := k12.row rt11 (fun g hg h => by have e1 : g = Tt := (by injection hg with e; exact e.symm); rcases h with h | h; omega; exact row_not_row (by decide) rt11 hL11 g hg h)
    have ra12 := k12.row ra11 (fun g hg h => by have e1 := ua g hg; rcases h with h | h; omega; exact row_not_row (by decide) ra11 hL11 g hg h)
    have rb12 := k12.row rb11 (fun g hg h => by have e1 := ub g hg; rcases h with h | h; omega; exact row_not_row (by decide) rb11 hL11 g hg h)
    have la12 := k12.row la11 (fun g hg h => by rcases h with h | h; exact g10K (by rw [← h]; exact hg); exact row_not_row (by decide) la11 hL11 g hg h)
    have told := told_fills (s3 := w3.heap.size) (base := w.heap.size) hB12 la12 hL12 (by omega) hl1 HY.out (row_mono rt12 s01) (row_mono ra12 (by omega)) rb12 (by omega) (fun g h => (ua g h).2)
    go_wp2_with fail
    refine (apartB_any told).mono ?_
    rintro e w13 ⟨rfl, k13⟩
    have g10l := (hL10.lt g10 rfl).1
    have g11l := (hL11.lt g11 rfl).1
    have g12l := (hL12.lt g12 rfl).1
    have kAll : KeptBut (fun b => w.heap.size ≤ b) w w13 := by
      have c0 : KeptBut (fun b => w.heap.size ≤ b) w w9 := KeptBut.below (behind k08 k89)
      have c1 : KeptBut (fun b => w.heap.size ≤ b) w9 w10 := k10.mono fun b h => by
        rcases h with h | h
        · omega
        · cases h
      have c2 : KeptBut (fun b => w.heap.size ≤ b) w10 w11 := k11.mono fun b h => by
        rcases h with h | h
        · omega
        · cases h
      have c3 : KeptBut (fun b => w.heap.size ≤ b) w11 w12 := k12.mono fun b h => by
        rcases h with h | h
        · omega
        · have e : b = g11 := (by injection h with e; exact e.symm); omega
      have c4 : KeptBut (fun b => w.heap.size ≤ b) w12 w13 := k13.mono fun b h => by
        rcases h with (h | h) | (⟨i, hi, h⟩ | ⟨i, hi, h⟩)
        · omega
        · omega
        · match i, hi with
          | 0, _ => have e : b = Tt := (by injection h with e; exact e.symm); omega
        · match i, hi with
          | 0, _ => have := (ua b h).1; omega
          | 1, _ => have := (ub b h).1; omega
      exact c0.trans (c1.trans (c2.trans (c3.trans c4)))
    go_wp2
    go_ret
    exact ⟨rfl, kAll.toBelow (Nat.le_refl _) (fun _ h => h)⟩

theorem readable : ∀ t ∈ #[9, 52, 9].toList, Tryz.prog.readableRec t = true ∧ t < Tryz.prog.types.size := by
  intro t ht
  have h : t ∈ ([9, 52, 9] : List TypeId) := ht
  simp only [List.mem_cons, List.not_mem_nil, or_false] at h
  rcases h with rfl | rfl | rfl
  · exact ⟨by kernel_rfl, of_decide_eq_true (by kernel_rfl)⟩
  · exact ⟨by kernel_rfl, of_decide_eq_true (by kernel_rfl)⟩
  · exact ⟨by kernel_rfl, of_decide_eq_true (by kernel_rfl)⟩

theorem contract (H : Type) (enc : TypeId × Value → H) (W : World) (base : Nat) (args : Array Value) (ds gs : List (DataW H)) (before : List MemPlace)
    (hval : ∀ (j : Nat) t v, Tryz.f4.params[j]? = some t → args[j]? = some v → Value.okWide Tryz.prog W .any base t v)
    (hW : DataW.Whole enc Tryz.prog Tryz.f4.params.toList Rows.aheadLinesSpec.vars false W args.toList ds gs before)
    (hz : (DataW.weightsEach Tryz.prog (Tryz.f4.params.toList ++ (OpenSpec.ofChange Rows.aheadLinesSpec).bare.plain.varTypes Tryz.prog) (ds ++ gs)).all (· ≤ reachBytes) = true) :
    Calls Tryz.prog 4 args W fun e W' => ∃ v, e = .returned v ∧ Rows.aheadLinesSpec.post enc Tryz.prog Tryz.f4 false true false false W args v W' := by
  have hW' := hW
  obtain ⟨p, q, hA, hV, rfl, hfz, hnd⟩ := hW
  rw [Tryz.params4] at hA hval
  obtain ⟨v0, vs0, d0, ds0, p0, q0, hargs0, rfl, rfl, h0, r0⟩ := trodAll_cons hA
  obtain ⟨v1, vs1, d1, ds1, p1, q1, hargs1, rfl, rfl, h1, r1⟩ := trodAll_cons r0
  obtain ⟨v2, vs2, d2, ds2, p2, q2, hargs2, rfl, rfl, h2, r2⟩ := trodAll_cons r1
  obtain ⟨rfl, rfl, rfl⟩ := trodAll_nil r2
  subst hargs1
  subst hargs2
  obtain rfl : args = #[v0, v1, v2] := by cases args; simp_all
  obtain ⟨rfl, rfl⟩ := trodVars_none hV
  obtain ⟨s0, rfl, rfl, rfl, hs0⟩ := string_arg (hval 0 9 v0 rfl rfl) h0
  have hr0 := string_reach hz (j := 0) (s := s0) rfl rfl
  obtain ⟨l1, hA1⟩ := attrs_arg (hval 1 52 v1 rfl rfl) h1 (fun n hn => by have := List.all_eq_true.1 hz n (DataW.weights_mem_each (j := 1) rfl rfl n hn); simpa using this)
  obtain ⟨s2, rfl, rfl, rfl, hs2⟩ := string_arg (hval 2 9 v2 rfl rfl) h2
  have hr2 := string_reach hz (j := 2) (s := s2) rfl rfl
  refine (walk W s0 hs0 hr0 v1 l1 hA1 s2 hs2 hr2).mono fun e W' ⟨he, hb⟩ => ⟨_, he, law_post rfl rfl ?_ hW' rfl hb⟩
  rw [Tryz.params4]
  exact readable

theorem met (os : Os) : laidMet Tryz.prog Rows.aheadLinesRow.laid ((laidWorld os).forCall (fun _ _ => 0) ⟨#[], #[.string ⟨#[]⟩, .slice none 0 0, .string ⟨#[]⟩], []⟩).memory :=
  laidMet_of_run' 8 (by kernel_rfl) (by kernel_rfl)
theorem reads (os : Os) {H : Type} (enc : TypeId × Value → H) : ∃ places, DataW.whole enc Tryz.prog ((laidWorld os).forCall (fun _ _ => 0) ⟨#[], #[.string ⟨#[]⟩, .slice none 0 0, .string ⟨#[]⟩], []⟩).memory Tryz.f4.params.toList Rows.aheadLinesSpec.vars false (#[.string ⟨#[]⟩, .slice none 0 0, .string ⟨#[]⟩] : Array Value).toList 8 = some ([.lit (.string []), .nil, .lit (.string [])], [], places) :=
  ⟨[], by kernel_rfl⟩

set_option maxRecDepth 100000 in
theorem lifted (os : Os) (started : os.Started) (H : Type) (enc : TypeId × Value → H) (F : Stop.Interp) :
    ReturnsInHanded {} Tryz.checked os 4 .any ((OpenSpec.ofChange Rows.aheadLinesSpec).preRow enc Tryz.prog Tryz.f4 Rows.aheadLinesRow.domain false Rows.aheadLinesRow.laid) (((OpenSpec.ofChange Rows.aheadLinesSpec).at F).post enc Tryz.prog Tryz.f4 false true false false) := by
  obtain ⟨places, hx⟩ := reads os enc
  refine returnsInHanded_of_row (C := Tryz.checked) (s := OpenSpec.ofChange Rows.aheadLinesSpec) own started (by kernel_rfl) Tryz.func4
    (witness_row_at (enc := enc) (C := Tryz.checked) false (laidWorld os) #[.string ⟨#[]⟩, .slice none 0 0, .string ⟨#[]⟩] rfl (by kernel_rfl) (by kernel_rfl) (by kernel_rfl)
      (OpenSpec.preRow_of_cond 8 hx (by kernel_rfl) (fun k hk => by cases hk) (by kernel_rfl) (met os))) ?_
  intro W base args ds gs before hval hW _ _ hz _ _ _
  exact contract H enc W base args ds gs before hval hW hz

theorem said : Rows.AheadLinesSaid :=
  OpenClaim.holds_of_cond 4 Tryz.f4 rfl rfl rfl rfl rfl rfl rfl ⟨rfl, rfl, rfl, rfl, rfl⟩ rfl rfl rfl rfl rfl (by kernel_rfl) Tryz.func4 (by kernel_rfl)
    (of_decide_eq_true (by kernel_rfl)) (by unfold Func.isWrapper; first | (rw [if_pos (by decide +kernel)]; kernel_rfl) | (rw [if_neg (by decide +kernel)]; exact ⟨rfl, rfl⟩))
    (fun os started H enc _ F => by rw [OpenClaim.pre_eq_preRow]; exact lifted os started H enc F)

theorem plain (f : FuncId) (fn : Func) (hf : Tryz.pinned.checked.prog.funcNamed "bindery/binderylaw05.AheadLines" = some f) (hfn : Tryz.pinned.checked.prog.funcs[f]? = some fn) :
    true = Tryz.pinned.checked.prog.looks [] ∧ ∀ (j : Nat) t, fn.params[j]? = some t → Tryz.pinned.checked.prog.wantsStandIn t = false := by
  obtain rfl : f = 4 := Option.some.inj ((show Tryz.prog.funcNamed "bindery/binderylaw05.AheadLines" = some 4 by kernel_rfl).symm.trans hf) |>.symm
  obtain rfl : fn = Tryz.f4 := (Option.some.inj (Tryz.func4.symm.trans hfn)).symm
  refine ⟨by kernel_rfl, fun j t ht => ?_⟩
  rw [Tryz.params4] at ht
  have h : t ∈ ([9, 52, 9] : List TypeId) := Array.mem_toList_iff.2 (Array.mem_of_getElem? ht)
  simp only [List.mem_cons, List.not_mem_nil, or_false] at h
  rcases h with rfl | rfl | rfl
  · exact (show Tryz.prog.wantsStandIn 9 = false by kernel_rfl)
  · exact (show Tryz.prog.wantsStandIn 52 = false by kernel_rfl)
  · exact (show Tryz.prog.wantsStandIn 9 = false by kernel_rfl)

theorem card : Rows.AheadLinesCardSaid :=
  Claim7.holds_tied_plain_at .later [] _ _ _ _ said (fun _ h => by cases h) (by kernel_rfl) (fun _ h => by cases h) aheadLines_row_tie rfl ⟨rfl, rfl⟩ (by kernel_rfl) rfl plain (by kernel_rfl)
end Go.Proofs.YtikeaiibociapaaGreatDoor.src.linesLaw
