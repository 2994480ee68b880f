/-
  AheadPlain: a source without words, braces and backslashes tells its lines, whatever the attributes are, and asks for nothing; where the text has at most 10000 bytes, the attributes' size is at most 70000, and the name has at most 1048576 bytes; true is answered beyond. The row lists two tables of the library, tied to the program's text; no condition: every text, every list of attributes and every name that can be read.
-/
import Derived.Test.YtnbnlehkljkabaaGreatDoorCards
import Derived.Test.YtnbnlehkljkabaaGreatDoorTie
import Derived.Test.YtnbnlehkljkabaaGreatDoorU32
import Derived.Test.YtnbnlehkljkabaaGreatDoorVArg
import Derived.Test.YtnbnlehkljkabaaGreatDoorWitness
namespace Go.Proofs.YtnbnlehkljkabaaGreatDoor.aPlainLaw
open Go.ChangeShapes Go.WideShapes Go.ChangeAt Go.RowKit Go.Maps
set_option maxRecDepth 100000

set_option maxHeartbeats 8000000 in
theorem walk (w : World) (s : ByteArray) (_hs : s.size ≤ maxLen) (hr : s.size ≤ 140737488351232) (v : Value) (l : List At) (hA0 : Attrs w v l) (n : ByteArray) (_hn : n.size ≤ maxLen) (hrn : n.size ≤ 140737488351232) :
    Calls Tryz.prog 5 #[.string s, v, .string n] w fun e w' => e = .returned (.bool true) ∧ Below w.heap.size w w' := by
  go_enter Tryz.func5, Tryz.ntmps5
  go_wp2_with fail
  refine (alive_m w).mono ?_
  rintro e w1 ⟨rfl, hb1⟩
  have hA := hA0.below hb1
  by_cases h1 : s.size ≤ 10000
  · go_wp2_with fail
    refine (attrsSize_all v l w1 hA).mono ?_
    rintro e w2 ⟨N, rfl, hN, q, hq⟩
    have hb2 : Below w.heap.size w w2 := by rw [hq]; exact below_drewN hb1 q
    have hA := hA0.below hb2
    clear hq
    by_cases h2 : N ≤ 70000
    · have hv : ∀ a ∈ l, a.2.size ≤ 100000 := fun a ha => by
        have e1 := hN (by omega)
        have e2 := sumL_mem l a ha
        omega
      clear hN
      go_wp2_with fail
      refine (plain_m s w2 (by unfold maxLen; omega)).mono ?_
      rintro e w' ⟨rfl, rfl⟩
      cases hp : plT s.data.toList with
      | true =>
        have HP := Lib.hid ((plain_all _).1 hp)
        have hbc : ∀ (k : Nat), w2.heap.size = k → (w2.alloc (.cells #[.int .i64 (n.size : Int)] 3)).cell? ⟨k, 0, none⟩ = some (.int .i64 (n.size : Int)) := fun k e => by subst e; rw [World.cell?_alloc_new]; rfl
        have hb3 := behind hb2 (laidNew w2 (.cells #[.int .i64 (n.size : Int)] 3))
        have hA := hA0.below hb3
        go_wp2_with fail
        refine (beyond1 _ (n.size : Int) _ (hbc _ rfl) (by omega)).mono ?_
        rintro e w' ⟨rfl, rfl⟩
        obtain ⟨w3, hw3⟩ : ∃ w3, w2.alloc (.cells #[.int .i64 (n.size : Int)] 3) = w3 := ⟨_, rfl⟩
        rw [hw3] at hb3 hA ⊢
        clear hw3 hbc
        by_cases h3 : n.size ≤ 1048576
        · go_wp2_with fail
          refine (src_m n s _).mono ?_
          rintro e w4 ⟨rfl, hb4⟩
          have hA := hA.below hb4
          have hS := src_laid w4 n s hrn hr
          have hR := read_plain_m _ v l n s _ hS (hA.below (laidNew w4 (.cells #[.string n, .string s] 69))) HP.out h1 hv
          go_wp2_with fail
          refine hR.mono ?_
          rintro e w5 ⟨⟨a1, a2, a3, a4, rfl, ra1, ra2, ra3, ra4⟩, hb5⟩
          clear hR hS hA
          have hb5 := behind (behind (behind hb3 hb4) (laidNew w4 (.cells #[.string n, .string s] 69))) hb5
          obtain ⟨p1, c1, rfl⟩ := row_slice ra1
          obtain ⟨p2, c2, rfl⟩ := row_slice ra2
          obtain ⟨g3, c3, rfl, -, hc3⟩ := row_all ra3 (Nat.succ_pos 0)
          obtain ⟨p4, c4, rfl⟩ := row_slice ra4
          have HC3 : Hid (∀ w', Below w5.heap.size w5 w' → w'.cell? ⟨g3, 0, none⟩ = some (.string n)) := Lib.hid (fun w' hb => (hc3 w' hb 0 _ rfl).trans (congrArg some (congrArg Value.string (bT_data n))))
          have hss : (n.toList == n.toList) = true := by simp
          clear ra2 ra3 ra4 hc3
          go_wp2_with fail
          refine (lines_c s w5 (by omega)).mono ?_
          rintro e w6 ⟨a, rfl, hL, hb6⟩
          have hll := lines_len [] s.data.toList
          have hlz : (linesL s.data.toList).length ≤ 1000000 := by
            have e : s.data.toList.length = s.size := by simp
            unfold linesL; omega
          have hsm := same_m _ _ _ a n (linesL s.data.toList) w6 (keep_row ra1 (fun g hg => hb6.block g (ra1.lt g hg).2)) hL hlz
          clear hll hlz hL ra1
          go_wp2_with fail
          refine hsm.mono ?_
          rintro e w7 ⟨rfl, hb7⟩
          have d3 := HC3.out w7 (behind hb6 hb7)
          have hb7 := behind (behind hb5 hb6) hb7
          clear hsm
          go_wp2
          go_ret
          exact ⟨rfl, hb7⟩
        · go_wp2_with fail
          refine (alive_m w3).mono ?_
          rintro e w4 ⟨rfl, hb4⟩
          go_wp2
          go_ret
          exact ⟨rfl, behind hb3 hb4⟩
      | false =>
        go_wp2_with fail
        refine (alive_m w2).mono ?_
        rintro e w3 ⟨rfl, hb3⟩
        go_wp2
        go_ret
        exact ⟨rfl, behind hb2 hb3⟩
    · go_wp2_with fail
      refine (alive_m w2).mono ?_
      rintro e w3 ⟨rfl, hb3⟩
      go_wp2
      go_ret
      exact ⟨rfl, behind hb2 hb3⟩
  · go_wp2_with fail
    refine (alive_m w1).mono ?_
    rintro e w3 ⟨rfl, hb3⟩
    go_wp2
    go_ret
    exact ⟨rfl, behind hb1 hb3⟩

theorem readable : ∀ t ∈ #[9, 22, 9].toList, Tryz.prog.readableRec t = true ∧ t < Tryz.prog.types.size := by
  intro t ht
  have h : t ∈ ([9, 22, 9] : List TypeId) := ht
  simp only [List.mem_cons, List.not_mem_nil, or_false] at h
  rcases h with rfl | rfl | rfl
  · exact ⟨by kernel_rfl, of_decide_eq_true (by kernel_rfl)⟩
  · exact ⟨by kernel_rfl, of_decide_eq_true (by kernel_rfl)⟩
  · exact ⟨by kernel_rfl, of_decide_eq_true (by kernel_rfl)⟩

theorem contract (H : Type) (enc : TypeId × Value → H) (W : World) (base : Nat) (args : Array Value) (ds gs : List (DataW H)) (before : List MemPlace)
    (hval : ∀ (j : Nat) t v, Tryz.f5.params[j]? = some t → args[j]? = some v → Value.okWide Tryz.prog W .any base t v)
    (hW : DataW.Whole enc Tryz.prog Tryz.f5.params.toList Rows.aheadPlainSpec.vars false W args.toList ds gs before)
    (hz : (DataW.weightsEach Tryz.prog (Tryz.f5.params.toList ++ (OpenSpec.ofChange Rows.aheadPlainSpec).bare.plain.varTypes Tryz.prog) (ds ++ gs)).all (· ≤ reachBytes) = true) :
    Calls Tryz.prog 5 args W fun e W' => ∃ v, e = .returned v ∧ Rows.aheadPlainSpec.post enc Tryz.prog Tryz.f5 false true false false W args v W' := by
  have hW' := hW
  obtain ⟨p, q, hA, hV, rfl, hfz, hnd⟩ := hW
  rw [Tryz.params5] at hA hval
  obtain ⟨v0, vs0, d0, ds0, p0, q0, hargs0, rfl, rfl, h0, r0⟩ := trodAll_cons hA
  obtain ⟨v1, vs1, d1, ds1, p1, q1, hargs1, rfl, rfl, h1, r1⟩ := trodAll_cons r0
  obtain ⟨v2, vs2, d2, ds2, p2, q2, hargs2, rfl, rfl, h2, r2⟩ := trodAll_cons r1
  obtain ⟨rfl, rfl, rfl⟩ := trodAll_nil r2
  subst hargs1
  subst hargs2
  obtain rfl : args = #[v0, v1, v2] := by cases args; simp_all
  obtain ⟨rfl, rfl⟩ := trodVars_none hV
  obtain ⟨s0, rfl, rfl, rfl, hs0⟩ := string_arg (hval 0 9 v0 rfl rfl) h0
  have hr0 := string_reach hz (j := 0) (s := s0) rfl rfl
  obtain ⟨l1, hA1⟩ := attrs_arg (hval 1 22 v1 rfl rfl) h1 (fun n hn => by have := List.all_eq_true.1 hz n (DataW.weights_mem_each (j := 1) rfl rfl n hn); simpa using this)
  obtain ⟨s2, rfl, rfl, rfl, hs2⟩ := string_arg (hval 2 9 v2 rfl rfl) h2
  have hr2 := string_reach hz (j := 2) (s := s2) rfl rfl
  refine (walk W s0 hs0 hr0 v1 l1 hA1 s2 hs2 hr2).mono fun e W' ⟨he, hb⟩ => ⟨_, he, law_post rfl rfl ?_ hW' rfl hb⟩
  rw [Tryz.params5]
  exact readable

theorem met (os : Os) : laidMet Tryz.prog Rows.aheadPlainRow.laid ((laidWorld os).forCall (fun _ _ => 0) ⟨#[], #[.string ⟨#[]⟩, .slice none 0 0, .string ⟨#[]⟩], []⟩).memory :=
  laidMet_of_run' 8 (by kernel_rfl) (by kernel_rfl)
theorem reads (os : Os) {H : Type} (enc : TypeId × Value → H) : ∃ places, DataW.whole enc Tryz.prog ((laidWorld os).forCall (fun _ _ => 0) ⟨#[], #[.string ⟨#[]⟩, .slice none 0 0, .string ⟨#[]⟩], []⟩).memory Tryz.f5.params.toList Rows.aheadPlainSpec.vars false (#[.string ⟨#[]⟩, .slice none 0 0, .string ⟨#[]⟩] : Array Value).toList 8 = some ([.lit (.string []), .nil, .lit (.string [])], [], places) :=
  ⟨[], by kernel_rfl⟩

set_option maxRecDepth 100000 in
theorem lifted (os : Os) (started : os.Started) (H : Type) (enc : TypeId × Value → H) (F : Stop.Interp) :
    ReturnsInHanded {} Tryz.checked os 5 .any ((OpenSpec.ofChange Rows.aheadPlainSpec).preRow enc Tryz.prog Tryz.f5 Rows.aheadPlainRow.domain false Rows.aheadPlainRow.laid) (((OpenSpec.ofChange Rows.aheadPlainSpec).at F).post enc Tryz.prog Tryz.f5 false true false false) := by
  obtain ⟨places, hx⟩ := reads os enc
  refine returnsInHanded_of_row (C := Tryz.checked) (s := OpenSpec.ofChange Rows.aheadPlainSpec) own started (by kernel_rfl) Tryz.func5
    (witness_row_at (enc := enc) (C := Tryz.checked) false (laidWorld os) #[.string ⟨#[]⟩, .slice none 0 0, .string ⟨#[]⟩] rfl (by kernel_rfl) (by kernel_rfl) (by kernel_rfl)
      (OpenSpec.preRow_of_cond 8 hx (by kernel_rfl) (fun k hk => by cases hk) (by kernel_rfl) (met os))) ?_
  intro W base args ds gs before hval hW _ _ hz _ _ _
  exact contract H enc W base args ds gs before hval hW hz

theorem said : Rows.AheadPlainSaid :=
  OpenClaim.holds_of_cond 5 Tryz.f5 rfl rfl rfl rfl rfl rfl rfl ⟨rfl, rfl, rfl, rfl, rfl⟩ rfl rfl rfl rfl rfl (by kernel_rfl) Tryz.func5 (by kernel_rfl)
    (of_decide_eq_true (by kernel_rfl)) (by unfold Func.isWrapper; first | (rw [if_pos (by decide +kernel)]; kernel_rfl) | (rw [if_neg (by decide +kernel)]; exact ⟨rfl, rfl⟩))
    (fun os started H enc _ F => by rw [OpenClaim.pre_eq_preRow]; exact lifted os started H enc F)

theorem plain (f : FuncId) (fn : Func) (hf : Tryz.pinned.checked.prog.funcNamed "bindery/binderylaw05.AheadPlain" = some f) (hfn : Tryz.pinned.checked.prog.funcs[f]? = some fn) :
    true = Tryz.pinned.checked.prog.looks [] ∧ ∀ (j : Nat) t, fn.params[j]? = some t → Tryz.pinned.checked.prog.wantsStandIn t = false := by
  obtain rfl : f = 5 := Option.some.inj ((show Tryz.prog.funcNamed "bindery/binderylaw05.AheadPlain" = some 5 by kernel_rfl).symm.trans hf) |>.symm
  obtain rfl : fn = Tryz.f5 := (Option.some.inj (Tryz.func5.symm.trans hfn)).symm
  refine ⟨by kernel_rfl, fun j t ht => ?_⟩
  rw [Tryz.params5] at ht
  have h : t ∈ ([9, 22, 9] : List TypeId) := Array.mem_toList_iff.2 (Array.mem_of_getElem? ht)
  simp only [List.mem_cons, List.not_mem_nil, or_false] at h
  rcases h with rfl | rfl | rfl
  · exact (show Tryz.prog.wantsStandIn 9 = false by kernel_rfl)
  · exact (show Tryz.prog.wantsStandIn 22 = false by kernel_rfl)
  · exact (show Tryz.prog.wantsStandIn 9 = false by kernel_rfl)

theorem card : Rows.AheadPlainCardSaid :=
  Claim7.holds_tied_plain_at .later [] _ _ _ _ said (fun _ h => by cases h) (by kernel_rfl) (fun _ h => by cases h) aheadPlain_row_tie rfl ⟨rfl, rfl⟩ (by kernel_rfl) rfl plain (by kernel_rfl)
end Go.Proofs.YtnbnlehkljkabaaGreatDoor.aPlainLaw
