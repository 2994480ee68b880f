/-
  PathsJoins: two files' names with a point between are one just if they are not too long; a name is one; with a point more it is none; for any two texts of at most 1048576 bytes together, and true is answered beyond. The row lists two tables of the library, tied to the program's text; no condition: every two strings that can be read.
-/
import Derived.Test.YtjmfelnajfdldaaDoorCards
import Derived.Test.YtjmfelnajfdldaaDoorTie
import Derived.Test.YtjmfelnajfdldaaDoorAlive02
import Derived.Test.YtjmfelnajfdldaaDoorWitness
namespace Go.Proofs.YtjmfelnajfdldaaDoor.joinsLaw
open Go.ChangeShapes Go.WideShapes Go.ChangeAt Go.RowKit
open Go.ChangeMaps (open_string)
set_option maxRecDepth 100000

/-- which ways there are -/
theorem cases (a b : List UInt8) : ∃ va vb na lt : Bool, checkB a = va ∧ checkB b = vb ∧ nameB a = na ∧ decide ((a.length : Int) + (b.length : Int) < 60) = lt ∧ checkB (a ++ 46 :: b) = (va && vb && lt) ∧ (na = true → va = true) := by
  refine ⟨_, _, _, _, rfl, rfl, rfl, rfl, ?_, name_check a⟩
  rw [check_join]
  congr 1
  rw [decide_eq_decide]; omega

set_option maxHeartbeats 1000000 in
theorem walk (a : ByteArray) (hs : a.size ≤ maxLen) (ha : a.size ≤ 140737488351232) (b : ByteArray) (_ht : b.size ≤ maxLen) (hb : b.size ≤ 140737488351232) (W : World) :
    Calls Tryd.prog 4 #[.string a, .string b] W fun e w' => e = .returned (.bool true) ∧ Below W.heap.size W w' := by
  have HD1 : Hid ((a ++ ⟨#[46]⟩ ++ b).data.toList = a.data.toList ++ 46 :: b.data.toList) := by exact Lib.hid (by rw [cat_data, cat_data]; simp)
  have HD2 : Hid ((a ++ ⟨#[46]⟩).data.toList = a.data.toList ++ [46]) := by exact Lib.hid (by rw [cat_data])
  have HD3 : Hid ((({ data := #[46] } : ByteArray) ++ a).data.toList = 46 :: a.data.toList) := by exact Lib.hid (by rw [cat_data]; rfl)
  have HD4 : Hid ((a ++ ⟨#[46, 46]⟩ ++ b).data.toList = a.data.toList ++ 46 :: 46 :: b.data.toList) := by exact Lib.hid (by rw [cat_data, cat_data]; simp)
  obtain ⟨va, vb, na, lt, h1, h2, h3, h4, h5, h6⟩ := cases a.data.toList b.data.toList
  rw [Array.length_toList, Array.length_toList] at h4
  have H1 := Lib.hid h1
  have H2 := Lib.hid h2
  have H3 := Lib.hid h3
  have H4 : Hid (decide ((a.size : Int) + (b.size : Int) < 60) = lt) := by exact Lib.hid h4
  have H5 := Lib.hid (HD1.out ▸ h5)
  have H6 := Lib.hid h6
  clear h1 h2 h3 h4 h5 h6
  go_enter Tryd.func4, Tryd.ntmps4
  go_wp2_with fail
  refine (alive_any W _ (Below.refl _ _)).mono ?_
  rintro e w1 ⟨rfl, hb1⟩
  go_wp2_with fail
  refine (beyond2 _ (a.size : Int) (b.size : Int) _ (by simp) (by simp) (by omega) (by omega)).mono ?_
  rintro e w2 ⟨rfl, hw2⟩
  have hb2 : Below W.heap.size W w2 := by rw [← hw2]; exact behind hb1 (laidNew _ _)
  clear hw2 hb1
  go_wp2_with fail
  · refine (alive_any W _ hb2).mono ?_
    rintro e w3 ⟨rfl, hb3⟩
    go_wp2
    go_ret
    exact ⟨rfl, hb3⟩
  · refine (check_k W _ _ H5.out _ hb2).mono ?_
    rintro e w3 ⟨rfl, hb3⟩
    go_wp2_with fail
    refine (check_k W a va H1.out _ hb3).mono ?_
    rintro e w4 ⟨rfl, hb4⟩
    cases va
    · obtain rfl : na = false := by cases na; rfl; exact absurd (H6.out rfl) (by decide)
      go_wp2_with fail
      refine (name_k W a false hs H3.out _ hb4).mono ?_
      rintro e w5 ⟨rfl, hb5⟩
      go_wp2_with fail
      refine (check_k W _ false (by rw [HD2.out]; exact check_after _) _ hb5).mono ?_
      rintro e w6 ⟨rfl, hb6⟩
      go_wp2_with fail
      refine (check_k W _ false (by rw [HD3.out]; exact check_before _) _ hb6).mono ?_
      rintro e w7 ⟨rfl, hb7⟩
      go_wp2_with fail
      refine (check_k W _ false (by rw [HD4.out]; exact check_twice _ _) _ hb7).mono ?_
      rintro e w8 ⟨rfl, hb8⟩
      go_wp2
      go_ret
      exact ⟨rfl, hb8⟩
    · go_wp2_with fail
      refine (check_k W b vb H2.out _ hb4).mono ?_
      rintro e w5 ⟨rfl, hb5⟩
      cases na
      · go_wp2_with fail
        refine (name_k W a _ hs H3.out _ hb5).mono ?_
        rintro e w6 ⟨rfl, hb6⟩
        go_wp2_with fail
        refine (check_k W _ false (by rw [HD2.out]; exact check_after _) _ hb6).mono ?_
        rintro e w7 ⟨rfl, hb7⟩
        go_wp2_with fail
        refine (check_k W _ false (by rw [HD3.out]; exact check_before _) _ hb7).mono ?_
        rintro e w8 ⟨rfl, hb8⟩
        go_wp2_with fail
        refine (check_k W _ false (by rw [HD4.out]; exact check_twice _ _) _ hb8).mono ?_
        rintro e w9 ⟨rfl, hb9⟩
        have h4 := H4.out
        cases vb <;> cases lt <;> go_wp2 <;> go_ret
        all_goals exact ⟨rfl, hb9⟩
      · go_wp2_with fail
        refine (name_k W a _ hs H3.out _ hb5).mono ?_
        rintro e w6 ⟨rfl, hb6⟩
        go_wp2_with fail
        refine (check_k W a true H1.out _ hb6).mono ?_
        rintro e w7 ⟨rfl, hb7⟩
        go_wp2_with fail
        refine (check_k W _ false (by rw [HD2.out]; exact check_after _) _ hb7).mono ?_
        rintro e w8 ⟨rfl, hb8⟩
        go_wp2_with fail
        refine (check_k W _ false (by rw [HD3.out]; exact check_before _) _ hb8).mono ?_
        rintro e w9 ⟨rfl, hb9⟩
        go_wp2_with fail
        refine (check_k W _ false (by rw [HD4.out]; exact check_twice _ _) _ hb9).mono ?_
        rintro e w10 ⟨rfl, hb10⟩
        have h4 := H4.out
        cases vb <;> cases lt <;> go_wp2 <;> go_ret
        all_goals exact ⟨rfl, hb10⟩

theorem readable : ∀ t ∈ #[9, 9].toList, Tryd.prog.readableRec t = true ∧ t < Tryd.prog.types.size := by
  intro t ht
  have h : t ∈ ([9, 9] : List TypeId) := ht
  simp only [List.mem_cons, List.not_mem_nil, or_false] at h
  rcases h with rfl | rfl
  · exact ⟨by kernel_rfl, of_decide_eq_true (by kernel_rfl)⟩
  · exact ⟨by kernel_rfl, of_decide_eq_true (by kernel_rfl)⟩

theorem contract (H : Type) (enc : TypeId × Value → H) (W : World) (base : Nat) (args : Array Value) (ds gs : List (DataW H)) (before : List MemPlace)
    (hval : ∀ (j : Nat) t v, Tryd.f4.params[j]? = some t → args[j]? = some v → Value.okWide Tryd.prog W .any base t v)
    (hW : DataW.Whole enc Tryd.prog Tryd.f4.params.toList Rows.pathsJoinsSpec.vars false W args.toList ds gs before)
    (hz : (DataW.weightsEach Tryd.prog (Tryd.f4.params.toList ++ (OpenSpec.ofChange Rows.pathsJoinsSpec).bare.plain.varTypes Tryd.prog) (ds ++ gs)).all (· ≤ reachBytes) = true) :
    Calls Tryd.prog 4 args W fun e W' => ∃ v, e = .returned v ∧ Rows.pathsJoinsSpec.post enc Tryd.prog Tryd.f4 false true false false W args v W' := by
  have hW' := hW
  obtain ⟨p, q, hA, hV, rfl, hfz, hnd⟩ := hW
  rw [Tryd.params4] at hA hval
  obtain ⟨v0, vs0, d0, ds0, p0, q0, hargs0, rfl, rfl, h0, r0⟩ := trodAll_cons hA
  obtain ⟨v1, vs1, d1, ds1, p1, q1, hargs1, rfl, rfl, h1, r1⟩ := trodAll_cons r0
  obtain ⟨rfl, rfl, rfl⟩ := trodAll_nil r1
  subst hargs1
  obtain rfl : args = #[v0, v1] := by cases args; simp_all
  obtain ⟨rfl, rfl⟩ := trodVars_none hV
  obtain ⟨s0, rfl, rfl, rfl, hs0⟩ := string_arg (hval 0 9 v0 rfl rfl) h0
  have hr0 := string_reach hz (j := 0) (s := s0) rfl rfl
  obtain ⟨s1, rfl, rfl, rfl, hs1⟩ := string_arg (hval 1 9 v1 rfl rfl) h1
  have hr1 := string_reach hz (j := 1) (s := s1) rfl rfl
  refine (walk s0 hs0 hr0 s1 hs1 hr1 W).mono fun e W' ⟨he, hb⟩ => ⟨_, he, law_post rfl rfl ?_ hW' rfl hb⟩
  rw [Tryd.params4]
  exact readable

theorem met (os : Os) : laidMet Tryd.prog Rows.pathsJoinsRow.laid ((laidWorld os).forCall (fun _ _ => 0) ⟨#[], #[.string ⟨#[]⟩, .string ⟨#[]⟩], []⟩).memory := laid_met os
theorem reads (os : Os) {H : Type} (enc : TypeId × Value → H) : ∃ places, DataW.whole enc Tryd.prog ((laidWorld os).forCall (fun _ _ => 0) ⟨#[], #[.string ⟨#[]⟩, .string ⟨#[]⟩], []⟩).memory Tryd.f4.params.toList Rows.pathsJoinsSpec.vars false (#[.string ⟨#[]⟩, .string ⟨#[]⟩] : Array Value).toList 8 = some ([.lit (.string []), .lit (.string [])], [], places) :=
  ⟨[], by kernel_rfl⟩

set_option maxRecDepth 100000 in
theorem lifted (os : Os) (started : os.Started) (H : Type) (enc : TypeId × Value → H) (F : Stop.Interp) :
    ReturnsInHanded {} Tryd.checked os 4 .any ((OpenSpec.ofChange Rows.pathsJoinsSpec).preRow enc Tryd.prog Tryd.f4 Rows.pathsJoinsRow.domain false Rows.pathsJoinsRow.laid) (((OpenSpec.ofChange Rows.pathsJoinsSpec).at F).post enc Tryd.prog Tryd.f4 false true false false) := by
  obtain ⟨places, hx⟩ := reads os enc
  refine returnsInHanded_of_row (C := Tryd.checked) (s := OpenSpec.ofChange Rows.pathsJoinsSpec) own started (by kernel_rfl) Tryd.func4
    (witness_row_at (enc := enc) (C := Tryd.checked) false (laidWorld os) #[.string ⟨#[]⟩, .string ⟨#[]⟩] rfl (by kernel_rfl) (by kernel_rfl) (by kernel_rfl)
      (OpenSpec.preRow_of_cond 8 hx (by kernel_rfl) (fun k hk => by cases hk) (by kernel_rfl) (met os))) ?_
  intro W base args ds gs before hval hW _ _ hz _ _ _
  exact contract H enc W base args ds gs before hval hW hz

theorem said : Rows.PathsJoinsSaid :=
  OpenClaim.holds_of_cond 4 Tryd.f4 rfl rfl rfl rfl rfl rfl rfl ⟨rfl, rfl, rfl, rfl, rfl⟩ rfl rfl rfl rfl rfl (by kernel_rfl) Tryd.func4 (by kernel_rfl)
    (of_decide_eq_true (by kernel_rfl)) (by unfold Func.isWrapper; first | (rw [if_pos (by decide +kernel)]; kernel_rfl) | (rw [if_neg (by decide +kernel)]; exact ⟨rfl, rfl⟩))
    (fun os started H enc _ F => by rw [OpenClaim.pre_eq_preRow]; exact lifted os started H enc F)

theorem plain (f : FuncId) (fn : Func) (hf : Tryd.pinned.checked.prog.funcNamed "bindery/binderylaw02.PathsJoins" = some f) (hfn : Tryd.pinned.checked.prog.funcs[f]? = some fn) :
    false = Tryd.pinned.checked.prog.looks [] ∧ ∀ (j : Nat) t, fn.params[j]? = some t → Tryd.pinned.checked.prog.wantsStandIn t = false := by
  obtain rfl : f = 4 := Option.some.inj ((show Tryd.prog.funcNamed "bindery/binderylaw02.PathsJoins" = some 4 by kernel_rfl).symm.trans hf) |>.symm
  obtain rfl : fn = Tryd.f4 := (Option.some.inj (Tryd.func4.symm.trans hfn)).symm
  refine ⟨by kernel_rfl, fun j t ht => ?_⟩
  rw [Tryd.params4] at ht
  have h : t ∈ ([9, 9] : List TypeId) := Array.mem_toList_iff.2 (Array.mem_of_getElem? ht)
  simp only [List.mem_cons, List.not_mem_nil, or_false] at h
  rcases h with rfl | rfl
  · exact (show Tryd.prog.wantsStandIn 9 = false by kernel_rfl)
  · exact (show Tryd.prog.wantsStandIn 9 = false by kernel_rfl)

theorem card : Rows.PathsJoinsCardSaid :=
  Claim7.holds_tied_plain_at .later [] _ _ _ _ said (fun _ h => by cases h) (by kernel_rfl) (fun _ h => by cases h) pathsJoins_row_tie rfl ⟨rfl, rfl⟩ (by kernel_rfl) rfl plain (by kernel_rfl)
end Go.Proofs.YtjmfelnajfdldaaDoor.joinsLaw
