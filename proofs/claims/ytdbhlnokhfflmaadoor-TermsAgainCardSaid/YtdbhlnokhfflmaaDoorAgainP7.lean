/-
  TermsAgain: what a text tells may be told again as a text, which tells the same, and is no longer; for every text of at most 1048576 bytes, and true is answered beyond. The row lists three tables (two of the library, the forms of terms), tied to the program's text; no condition: every string that can be read.
-/
import Derived.Test.YtdbhlnokhfflmaaDoorCards
import Derived.Test.YtdbhlnokhfflmaaDoorTie
import Derived.Test.YtdbhlnokhfflmaaDoorLaidF
import Derived.Test.YtdbhlnokhfflmaaDoorWitness
import Derived.Test.YtdbhlnokhfflmaaDoorAlive7
import Derived.Test.YtdbhlnokhfflmaaDoorTermP
namespace Go.Proofs.YtdbhlnokhfflmaaDoor.againLaw
open Go.ChangeShapes Go.WideShapes Go.ChangeAt Go.RowKit
open Go.ChangeMaps (open_string)
set_option maxRecDepth 100000

set_option maxHeartbeats 2000000 in
theorem walk (s : ByteArray) (_hs : s.size ≤ maxLen) (hr : s.size ≤ 140737488351232) (W : World) (hF : FormsIs W) :
    Calls Tryd.prog 5 #[.string s] W fun e w' => e = .returned (.bool true) ∧ Below W.heap.size W w' := by
  have HF := Lib.hid hF
  clear hF
  have hz : s.data.toList.length = s.size := by simp
  by_cases hbig : 1048576 < s.size
  · have hd : decide (1048576 < (s.size : Int)) = true := decide_eq_true (by omega)
    go_enter Tryd.func5, Tryd.ntmps5
    go_wp2_with fail
    refine (alive_c W HF.out).mono ?_
    rintro e w1 ⟨rfl, hb1⟩
    go_wp2_with fail
    refine (beyond1 _ (s.size : Int) _ (by simp) (by omega)).mono ?_
    rintro e w2 ⟨rfl, hw2⟩
    have hb2 : Below W.heap.size W w2 := by rw [← hw2]; exact behind hb1 (laidNew _ _)
    clear hw2
    go_wp2_with fail
    refine (alive_c _ (HF.out.below hb2)).mono ?_
    rintro e w3 ⟨rfl, hb3⟩
    go_wp2
    go_ret
    exact ⟨rfl, behind hb2 hb3⟩
  · have hd : decide (1048576 < (s.size : Int)) = false := decide_eq_false (by omega)
    have HP := Lib.hid (fun w h => parse_c s w h hr)
    cases hp : parseL s.data.toList with
    | none =>
      rw [hp] at HP
      unfold parseV at HP
      clear hp
      go_enter Tryd.func5, Tryd.ntmps5
      go_wp2_with fail
      refine (alive_c W HF.out).mono ?_
      rintro e w1 ⟨rfl, hb1⟩
      go_wp2_with fail
      refine (beyond1 _ (s.size : Int) _ (by simp) (by omega)).mono ?_
      rintro e w2 ⟨rfl, hw2⟩
      have hb2 : Below W.heap.size W w2 := by rw [← hw2]; exact behind hb1 (laidNew _ _)
      clear hw2
      go_wp2_with fail
      refine (HP.out _ (HF.out.below hb2)).mono ?_
      rintro e w3 ⟨rfl, hb3⟩
      go_wp2
      go_ret
      exact ⟨rfl, behind hb2 hb3⟩
    | some p =>
      obtain ⟨h1, h2, h3, h4, h5, h6⟩ := again hp
      obtain ⟨a, b, c⟩ := p
      rw [hp] at HP
      dsimp only [parseV] at HP
      have hzt : (a.length + b.length + c.length) ≤ 240 := by
        have e : (writeL (a, b, c)).length ≤ 240 := by omega
        unfold writeL at e
        rw [List.length_append, List.length_append] at e
        split at e <;> split at e <;> simp_all <;> omega
      have HT := Lib.hid (fun w h => text_c (bT a) (bT b) (bT c) w h (by rw [bT_size, bT_size, bT_size]; omega))
      rw [bT_list, bT_list, bT_list, h1] at HT
      dsimp only [textV] at HT
      have HQ := Lib.hid (fun w h => parse_c (bT (writeL (a, b, c))) w h (by rw [bT_size]; omega))
      rw [bT_list, h2] at HQ
      dsimp only [parseV] at HQ
      have e1 : ((bT a).toList == (bT a).toList) = true := by simp
      have e2 : ((bT b).toList == (bT b).toList) = true := by simp
      have e3 : ((bT c).toList == (bT c).toList) = true := by simp
      have e4 : (bT a).toList.isEmpty = false := (ne_empty (fun e => h4 (bT_inj e))).1
      have e5 : ((bT (writeL (a, b, c))).size : Int) ≤ (s.size : Int) := by rw [bT_size]; omega
      have e6 : (s.size : Int) ≤ 240 := by omega
      have e7 : (bT b).toList.isEmpty = true ∨ ((bT b).toList.isEmpty = false ∧ (bT c).toList.isEmpty = true) := by
        by_cases hb : b = []
        · left; rw [hb, Lib.toList_data]; rfl
        · right
          have hc : c = [] := h5.resolve_left hb
          exact ⟨(ne_empty (fun e => hb (bT_inj e))).1, by rw [hc, Lib.toList_data]; rfl⟩
      generalize bT (writeL (a, b, c)) = t at *
      generalize bT a = ta at *
      generalize bT b = tb at *
      generalize bT c = tc at *
      clear hp h1 h2 h3 h4 h5 hzt hz
      rcases e7 with e7 | ⟨e7, e8⟩
      all_goals
        go_enter Tryd.func5, Tryd.ntmps5
        go_wp2_with fail
        refine (alive_c W HF.out).mono ?_
        rintro e w1 ⟨rfl, hb1⟩
        go_wp2_with fail
        refine (beyond1 _ (s.size : Int) _ (by simp) (by omega)).mono ?_
        rintro e w2 ⟨rfl, hw2⟩
        have hb2 : Below W.heap.size W w2 := by rw [← hw2]; exact behind hb1 (laidNew _ _)
        clear hw2
        go_wp2_with fail
        refine (HP.out _ (HF.out.below hb2)).mono ?_
        rintro e w3 ⟨rfl, hb3⟩
        have hb3 := behind hb2 hb3
        go_wp2_with fail
        refine (HT.out _ (HF.out.below hb3)).mono ?_
        rintro e w4 ⟨rfl, hb4⟩
        have hb4 := behind hb3 hb4
        go_wp2_with fail
        refine (HQ.out _ (HF.out.below hb4)).mono ?_
        rintro e w5 ⟨rfl, hb5⟩
        have hb5 := behind hb4 hb5
        go_wp2
        go_ret
        exact ⟨rfl, hb5⟩

theorem readable : ∀ t ∈ #[9].toList, Tryd.prog.readableRec t = true ∧ t < Tryd.prog.types.size := by
  intro t ht
  have h : t ∈ ([9] : List TypeId) := ht
  simp only [List.mem_cons, List.not_mem_nil, or_false] at h
  rcases h with rfl
  · exact ⟨by kernel_rfl, of_decide_eq_true (by kernel_rfl)⟩

theorem contract (H : Type) (enc : TypeId × Value → H) (W : World) (base : Nat) (args : Array Value) (ds gs : List (DataW H)) (before : List MemPlace)
    (hval : ∀ (j : Nat) t v, Tryd.f5.params[j]? = some t → args[j]? = some v → Value.okWide Tryd.prog W .any base t v)
    (hW : DataW.Whole enc Tryd.prog Tryd.f5.params.toList Rows.termsAgainSpec.vars false W args.toList ds gs before)
    (hz : (DataW.weightsEach Tryd.prog (Tryd.f5.params.toList ++ (OpenSpec.ofChange Rows.termsAgainSpec).bare.plain.varTypes Tryd.prog) (ds ++ gs)).all (· ≤ reachBytes) = true) (hF : FormsIs W) :
    Calls Tryd.prog 5 args W fun e W' => ∃ v, e = .returned v ∧ Rows.termsAgainSpec.post enc Tryd.prog Tryd.f5 false true false false W args v W' := by
  have hW' := hW
  obtain ⟨p, q, hA, hV, rfl, hfz, hnd⟩ := hW
  rw [Tryd.params5] at hA hval
  obtain ⟨v0, vs0, d0, ds0, p0, q0, hargs0, rfl, rfl, h0, r0⟩ := trodAll_cons hA
  obtain ⟨rfl, rfl, rfl⟩ := trodAll_nil r0
  obtain rfl : args = #[v0] := by cases args; simp_all
  obtain ⟨rfl, rfl⟩ := trodVars_none hV
  obtain ⟨s0, rfl, rfl, rfl, hs0⟩ := string_arg (hval 0 9 v0 rfl rfl) h0
  have hr0 := string_reach hz (j := 0) (s := s0) rfl rfl
  refine (walk s0 hs0 hr0 W hF).mono fun e W' ⟨he, hb⟩ => ⟨_, he, law_post rfl rfl ?_ hW' rfl hb⟩
  rw [Tryd.params5]
  exact readable

theorem met (os : Os) : laidMet Tryd.prog Rows.termsAgainRow.laid ((laidWorld os).forCall (fun _ _ => 0) ⟨#[], #[.string ⟨#[]⟩], []⟩).memory :=
  laidMet_of_run' 8 (by kernel_rfl) (by kernel_rfl)
theorem reads (os : Os) {H : Type} (enc : TypeId × Value → H) : ∃ places, DataW.whole enc Tryd.prog ((laidWorld os).forCall (fun _ _ => 0) ⟨#[], #[.string ⟨#[]⟩], []⟩).memory Tryd.f5.params.toList Rows.termsAgainSpec.vars false (#[.string ⟨#[]⟩] : Array Value).toList 8 = some ([.lit (.string [])], [], places) :=
  ⟨[], by kernel_rfl⟩

set_option maxRecDepth 100000 in
theorem lifted (os : Os) (started : os.Started) (H : Type) (enc : TypeId × Value → H) (F : Stop.Interp) :
    ReturnsInHanded {} Tryd.checked os 5 .any ((OpenSpec.ofChange Rows.termsAgainSpec).preRow enc Tryd.prog Tryd.f5 Rows.termsAgainRow.domain false Rows.termsAgainRow.laid) (((OpenSpec.ofChange Rows.termsAgainSpec).at F).post enc Tryd.prog Tryd.f5 false true false false) := by
  obtain ⟨places, hx⟩ := reads os enc
  refine returnsInHanded_of_row (C := Tryd.checked) (s := OpenSpec.ofChange Rows.termsAgainSpec) own started (by kernel_rfl) Tryd.func5
    (witness_row_at (enc := enc) (C := Tryd.checked) false (laidWorld os) #[.string ⟨#[]⟩] rfl (by kernel_rfl) (by kernel_rfl) (by kernel_rfl)
      (OpenSpec.preRow_of_cond 8 hx (by kernel_rfl) (fun k hk => by cases hk) (by kernel_rfl) (met os))) ?_
  intro W base args ds gs before hval hW _ _ hz hL _ _
  exact contract H enc W base args ds gs before hval hW hz (forms_of (show laidMet Tryd.prog Rows.termsAgainRow.laid W from hL) (.tail _ (.head _)))

theorem said : Rows.TermsAgainSaid :=
  OpenClaim.holds_of_cond 5 Tryd.f5 rfl rfl rfl rfl rfl rfl rfl ⟨rfl, rfl, rfl, rfl, rfl⟩ rfl rfl rfl rfl rfl (by kernel_rfl) Tryd.func5 (by kernel_rfl)
    (of_decide_eq_true (by kernel_rfl)) (by unfold Func.isWrapper; first | (rw [if_pos (by decide +kernel)]; kernel_rfl) | (rw [if_neg (by decide +kernel)]; exact ⟨rfl, rfl⟩))
    (fun os started H enc _ F => by rw [OpenClaim.pre_eq_preRow]; exact lifted os started H enc F)

theorem plain (f : FuncId) (fn : Func) (hf : Tryd.pinned.checked.prog.funcNamed "bindery/binderylaw07.TermsAgain" = some f) (hfn : Tryd.pinned.checked.prog.funcs[f]? = some fn) :
    false = Tryd.pinned.checked.prog.looks [] ∧ ∀ (j : Nat) t, fn.params[j]? = some t → Tryd.pinned.checked.prog.wantsStandIn t = false := by
  obtain rfl : f = 5 := Option.some.inj ((show Tryd.prog.funcNamed "bindery/binderylaw07.TermsAgain" = some 5 by kernel_rfl).symm.trans hf) |>.symm
  obtain rfl : fn = Tryd.f5 := (Option.some.inj (Tryd.func5.symm.trans hfn)).symm
  refine ⟨by kernel_rfl, fun j t ht => ?_⟩
  rw [Tryd.params5] at ht
  have h : t ∈ ([9] : List TypeId) := Array.mem_toList_iff.2 (Array.mem_of_getElem? ht)
  simp only [List.mem_cons, List.not_mem_nil, or_false] at h
  rcases h with rfl
  · exact (show Tryd.prog.wantsStandIn 9 = false by kernel_rfl)

theorem card : Rows.TermsAgainCardSaid :=
  Claim7.holds_tied_plain_at .later [] _ _ _ _ said (fun _ h => by cases h) (by kernel_rfl) (fun _ h => by cases h) termsAgain_row_tie rfl ⟨rfl, rfl⟩ (by kernel_rfl) rfl plain (by kernel_rfl)
end Go.Proofs.YtdbhlnokhfflmaaDoor.againLaw
