/-
  TermsKeys: a key has no great letters, stays as it is, but for one more beginning, and is the same for great and small letters; for every text of at most 1048576 bytes, and true is answered beyond. The row lists three tables (two of the library, the forms of terms), tied to the program's text; no condition: every string that can be read.
-/
import Derived.Test.YtdbhlnokhfflmaaDoorCards
import Derived.Test.YtdbhlnokhfflmaaDoorTie
import Derived.Test.YtdbhlnokhfflmaaDoorLaidF
import Derived.Test.YtdbhlnokhfflmaaDoorWitness
import Derived.Test.YtdbhlnokhfflmaaDoorAlive7
import Derived.Test.YtdbhlnokhfflmaaDoorTermP
namespace Go.Proofs.YtdbhlnokhfflmaaDoor.keysLaw
open Go.ChangeShapes Go.WideShapes Go.ChangeAt Go.RowKit
open Go.ChangeMaps (open_string)
set_option maxRecDepth 100000

theorem low_bT (l : List UInt8) : (⟨(lowL l).toArray⟩ : ByteArray) = bT (lowL l) := rfl
theorem keyed (p s : ByteArray) (w : World) (r : List UInt8) (h : keyL (p.data.toList ++ s.data.toList) = r) (hz : (p ++ s).size ≤ 140737488351232) :
    Calls Tryd.prog 12 #[.string (p ++ s)] w fun e w' => e = .returned (.string (bT r)) ∧ Below w.heap.size w w' := by
  have := key_c (p ++ s) w hz
  rwa [show (p ++ s).data.toList = p.data.toList ++ s.data.toList by rw [ByteArray.data_append]; simp, h] at this
set_option maxHeartbeats 4000000 in
theorem walk (s : ByteArray) (_hs : s.size ≤ maxLen) (hr : s.size ≤ 140737488351232) (W : World) (hF : FormsIs W) :
    Calls Tryd.prog 7 #[.string s] W fun e w' => e = .returned (.bool true) ∧ Below W.heap.size W w' := by
  have HF := Lib.hid hF
  clear hF
  have hz : s.data.toList.length = s.size := by simp
  by_cases hbig : 1048576 < s.size
  · have hd : decide (1048576 < (s.size : Int)) = true := decide_eq_true (by omega)
    go_enter Tryd.func7, Tryd.ntmps7
    go_wp2_with fail
    refine (alive_c W HF.out).mono ?_
    rintro e w1 ⟨rfl, hb1⟩
    go_wp2_with fail
    refine (beyond1 _ (s.size : Int) _ (by simp) (by omega)).mono ?_
    rintro e w2 ⟨rfl, hw2⟩
    have hb2 : Below W.heap.size W w2 := by rw [← hw2]; exact behind hb1 (laidNew _ _)
    clear hw2
    go_wp2_with fail
    refine (alive_c _ (HF.out.below hb2)).mono ?_
    rintro e w3 ⟨rfl, hb3⟩
    go_wp2
    go_ret
    exact ⟨rfl, behind hb2 hb3⟩
  · have hd : decide (1048576 < (s.size : Int)) = false := decide_eq_false (by omega)
    have hK := fun w => key_c s w hr
    have kl := key_len s.data.toList
    have hLK := fun w => lower_any (bT (keyL s.data.toList)) w (by rw [bT_size]; unfold maxLen; omega)
    rw [bT_list, key_low, show (⟨(keyL s.data.toList).toArray⟩ : ByteArray) = bT (keyL s.data.toList) from rfl] at hLK
    have hLS := fun w => lower_any s w (by unfold maxLen; omega)
    rw [low_bT] at hLS
    have lz : (bT (lowL s.data.toList)).size = s.size := by rw [bT_size, low_len, hz]
    have hKL := fun w => key_c (bT (lowL s.data.toList)) w (by omega)
    rw [bT_list, key_of_low] at hKL
    have hE : (bT (lowL s.data.toList)).extract (s.size - (bT (keyL s.data.toList)).size) (bT (lowL s.data.toList)).size = bT (keyL s.data.toList) := bT_eq (by
      rw [extract_list, bT_list, bT_size, ← hz, key_end])
    have kz : (bT (keyL s.data.toList)).size ≤ s.size := by rw [bT_size]; omega
    have hT := fun w => keyed ⟨#[116, 104, 101, 32]⟩ s w _ (key_the _) (by rw [ba_size]; show 4 + s.size ≤ _; omega)
    have hA := fun w => keyed ⟨#[65, 32]⟩ s w _ (key_a _) (by rw [ba_size]; show 2 + s.size ≤ _; omega)
    have hN := fun w => keyed ⟨#[97, 110, 32]⟩ s w _ (key_an _) (by rw [ba_size]; show 3 + s.size ≤ _; omega)
    obtain ⟨xt, hxt⟩ : ∃ x, (⟨#[116, 104, 101, 32]⟩ : ByteArray) ++ s = x := ⟨_, rfl⟩
    obtain ⟨xa, hxa⟩ : ∃ x, (⟨#[65, 32]⟩ : ByteArray) ++ s = x := ⟨_, rfl⟩
    obtain ⟨xn, hxn⟩ : ∃ x, (⟨#[97, 110, 32]⟩ : ByteArray) ++ s = x := ⟨_, rfl⟩
    rw [hxt] at hT
    rw [hxa] at hA
    rw [hxn] at hN
    have s1 : ¬ 9223372036854775807 < (⟨#[116, 104, 101, 32]⟩ : ByteArray).size + s.size := by show ¬ 9223372036854775807 < 4 + s.size; omega
    have s2 : ¬ 9223372036854775807 < (⟨#[65, 32]⟩ : ByteArray).size + s.size := by show ¬ 9223372036854775807 < 2 + s.size; omega
    have s3 : ¬ 9223372036854775807 < (⟨#[97, 110, 32]⟩ : ByteArray).size + s.size := by show ¬ 9223372036854775807 < 3 + s.size; omega
    rw [lz] at hE
    generalize bT (keyL s.data.toList) = k at *
    generalize bT (lowL s.data.toList) = l at *
    have q1 : (k.toList == k.toList) = true := by simp
    have q2 : (l.toList == l.toList) = true := by simp
    have c1 : (k.size : Int) ≤ (s.size : Int) := by omega
    have c2 : IntKind.i64.wrap ((s.size : Int) - (k.size : Int)) = (s.size : Int) - (k.size : Int) := by rw [IntKind.wrap_i64]; omega
    have c3 : ((s.size : Int) - (k.size : Int)).toNat = s.size - k.size := by omega
    have c4 : (0 : Int) ≤ (s.size : Int) - (k.size : Int) := by omega
    have c5 : (s.size : Int) - (k.size : Int) ≤ (l.size : Int) := by omega
    have c6 : decide (s.size < k.size) = false := decide_eq_false (by omega)
    clear kl hz
    go_enter Tryd.func7, Tryd.ntmps7
    go_wp2_with fail
    refine (alive_c W HF.out).mono ?_
    rintro e w1 ⟨rfl, hb1⟩
    go_wp2_with fail
    refine (beyond1 _ (s.size : Int) _ (by simp) (by omega)).mono ?_
    rintro e w2 ⟨rfl, hw2⟩
    have hb2 : Below W.heap.size W w2 := by rw [← hw2]; exact behind hb1 (laidNew _ _)
    clear hw2
    go_wp2_with (first
      | (go_at_call 12; (with_reducible refine (hK _).mono ?_); rintro e w3 ⟨rfl, hb3⟩; have hb2 := behind hb2 hb3; clear hb3)
      | (go_at_call 16; (with_reducible refine (hLK _).mono ?_); rintro e w3 ⟨rfl, hb3⟩; have hb2 := behind hb2 hb3; clear hb3)
      | (go_at_call 16; (with_reducible refine (hLS _).mono ?_); rintro e w3 ⟨rfl, hb3⟩; have hb2 := behind hb2 hb3; clear hb3)
      | (go_at_call 12; (with_reducible refine (hKL _).mono ?_); rintro e w3 ⟨rfl, hb3⟩; have hb2 := behind hb2 hb3; clear hb3)
      | (go_at_call 12; (with_reducible refine (hT _).mono ?_); rintro e w3 ⟨rfl, hb3⟩; have hb2 := behind hb2 hb3; clear hb3)
      | (go_at_call 12; (with_reducible refine (hA _).mono ?_); rintro e w3 ⟨rfl, hb3⟩; have hb2 := behind hb2 hb3; clear hb3)
      | (go_at_call 12; (with_reducible refine (hN _).mono ?_); rintro e w3 ⟨rfl, hb3⟩; have hb2 := behind hb2 hb3; clear hb3))
    go_ret
    exact ⟨rfl, hb2⟩

theorem readable : ∀ t ∈ #[9].toList, Tryd.prog.readableRec t = true ∧ t < Tryd.prog.types.size := by
  intro t ht
  have h : t ∈ ([9] : List TypeId) := ht
  simp only [List.mem_cons, List.not_mem_nil, or_false] at h
  rcases h with rfl
  · exact ⟨by kernel_rfl, of_decide_eq_true (by kernel_rfl)⟩

theorem contract (H : Type) (enc : TypeId × Value → H) (W : World) (base : Nat) (args : Array Value) (ds gs : List (DataW H)) (before : List MemPlace)
    (hval : ∀ (j : Nat) t v, Tryd.f7.params[j]? = some t → args[j]? = some v → Value.okWide Tryd.prog W .any base t v)
    (hW : DataW.Whole enc Tryd.prog Tryd.f7.params.toList Rows.termsKeysSpec.vars false W args.toList ds gs before)
    (hz : (DataW.weightsEach Tryd.prog (Tryd.f7.params.toList ++ (OpenSpec.ofChange Rows.termsKeysSpec).bare.plain.varTypes Tryd.prog) (ds ++ gs)).all (· ≤ reachBytes) = true) (hF : FormsIs W) :
    Calls Tryd.prog 7 args W fun e W' => ∃ v, e = .returned v ∧ Rows.termsKeysSpec.post enc Tryd.prog Tryd.f7 false true false false W args v W' := by
  have hW' := hW
  obtain ⟨p, q, hA, hV, rfl, hfz, hnd⟩ := hW
  rw [Tryd.params7] at hA hval
  obtain ⟨v0, vs0, d0, ds0, p0, q0, hargs0, rfl, rfl, h0, r0⟩ := trodAll_cons hA
  obtain ⟨rfl, rfl, rfl⟩ := trodAll_nil r0
  obtain rfl : args = #[v0] := by cases args; simp_all
  obtain ⟨rfl, rfl⟩ := trodVars_none hV
  obtain ⟨s0, rfl, rfl, rfl, hs0⟩ := string_arg (hval 0 9 v0 rfl rfl) h0
  have hr0 := string_reach hz (j := 0) (s := s0) rfl rfl
  refine (walk s0 hs0 hr0 W hF).mono fun e W' ⟨he, hb⟩ => ⟨_, he, law_post rfl rfl ?_ hW' rfl hb⟩
  rw [Tryd.params7]
  exact readable

theorem met (os : Os) : laidMet Tryd.prog Rows.termsKeysRow.laid ((laidWorld os).forCall (fun _ _ => 0) ⟨#[], #[.string ⟨#[]⟩], []⟩).memory :=
  laidMet_of_run' 8 (by kernel_rfl) (by kernel_rfl)
theorem reads (os : Os) {H : Type} (enc : TypeId × Value → H) : ∃ places, DataW.whole enc Tryd.prog ((laidWorld os).forCall (fun _ _ => 0) ⟨#[], #[.string ⟨#[]⟩], []⟩).memory Tryd.f7.params.toList Rows.termsKeysSpec.vars false (#[.string ⟨#[]⟩] : Array Value).toList 8 = some ([.lit (.string [])], [], places) :=
  ⟨[], by kernel_rfl⟩

set_option maxRecDepth 100000 in
theorem lifted (os : Os) (started : os.Started) (H : Type) (enc : TypeId × Value → H) (F : Stop.Interp) :
    ReturnsInHanded {} Tryd.checked os 7 .any ((OpenSpec.ofChange Rows.termsKeysSpec).preRow enc Tryd.prog Tryd.f7 Rows.termsKeysRow.domain false Rows.termsKeysRow.laid) (((OpenSpec.ofChange Rows.termsKeysSpec).at F).post enc Tryd.prog Tryd.f7 false true false false) := by
  obtain ⟨places, hx⟩ := reads os enc
  refine returnsInHanded_of_row (C := Tryd.checked) (s := OpenSpec.ofChange Rows.termsKeysSpec) own started (by kernel_rfl) Tryd.func7
    (witness_row_at (enc := enc) (C := Tryd.checked) false (laidWorld os) #[.string ⟨#[]⟩] rfl (by kernel_rfl) (by kernel_rfl) (by kernel_rfl)
      (OpenSpec.preRow_of_cond 8 hx (by kernel_rfl) (fun k hk => by cases hk) (by kernel_rfl) (met os))) ?_
  intro W base args ds gs before hval hW _ _ hz hL _ _
  exact contract H enc W base args ds gs before hval hW hz (forms_of (show laidMet Tryd.prog Rows.termsKeysRow.laid W from hL) (.tail _ (.head _)))

theorem said : Rows.TermsKeysSaid :=
  OpenClaim.holds_of_cond 7 Tryd.f7 rfl rfl rfl rfl rfl rfl rfl ⟨rfl, rfl, rfl, rfl, rfl⟩ rfl rfl rfl rfl rfl (by kernel_rfl) Tryd.func7 (by kernel_rfl)
    (of_decide_eq_true (by kernel_rfl)) (by unfold Func.isWrapper; first | (rw [if_pos (by decide +kernel)]; kernel_rfl) | (rw [if_neg (by decide +kernel)]; exact ⟨rfl, rfl⟩))
    (fun os started H enc _ F => by rw [OpenClaim.pre_eq_preRow]; exact lifted os started H enc F)

theorem plain (f : FuncId) (fn : Func) (hf : Tryd.pinned.checked.prog.funcNamed "bindery/binderylaw07.TermsKeys" = some f) (hfn : Tryd.pinned.checked.prog.funcs[f]? = some fn) :
    false = Tryd.pinned.checked.prog.looks [] ∧ ∀ (j : Nat) t, fn.params[j]? = some t → Tryd.pinned.checked.prog.wantsStandIn t = false := by
  obtain rfl : f = 7 := Option.some.inj ((show Tryd.prog.funcNamed "bindery/binderylaw07.TermsKeys" = some 7 by kernel_rfl).symm.trans hf) |>.symm
  obtain rfl : fn = Tryd.f7 := (Option.some.inj (Tryd.func7.symm.trans hfn)).symm
  refine ⟨by kernel_rfl, fun j t ht => ?_⟩
  rw [Tryd.params7] at ht
  have h : t ∈ ([9] : List TypeId) := Array.mem_toList_iff.2 (Array.mem_of_getElem? ht)
  simp only [List.mem_cons, List.not_mem_nil, or_false] at h
  rcases h with rfl
  · exact (show Tryd.prog.wantsStandIn 9 = false by kernel_rfl)

theorem card : Rows.TermsKeysCardSaid :=
  Claim7.holds_tied_plain_at .later [] _ _ _ _ said (fun _ h => by cases h) (by kernel_rfl) (fun _ h => by cases h) termsKeys_row_tie rfl ⟨rfl, rfl⟩ (by kernel_rfl) rfl plain (by kernel_rfl)
end Go.Proofs.YtdbhlnokhfflmaaDoor.keysLaw
