/-
  AheadOff: what stands in a part that does not hold is not read: it tells nothing, has no faults, asks for nothing; where the text has at most 3000 bytes and no line that begins as a condition's does, and the name is a name; true is answered beyond. The row and the card.
-/
import Derived.Test.YtnbnlehkljkabaaGreatDoorCards
import Derived.Test.YtnbnlehkljkabaaGreatDoorTie
import Derived.Test.YtnbnlehkljkabaaGreatDoorU33
import Derived.Test.YtnbnlehkljkabaaGreatDoorU34
import Derived.Test.YtnbnlehkljkabaaGreatDoorWitness
namespace Go.Proofs.YtnbnlehkljkabaaGreatDoor.aOffLaw
open Go.ChangeShapes Go.WideShapes Go.ChangeAt Go.RowKit Go.Maps
set_option maxRecDepth 100000

theorem off_made (s n : ByteArray) : ⟨#[64, 105, 102, 32]⟩ ++ n ++ ⟨#[10]⟩ ++ s ++ ⟨#[10, 64, 101, 110, 100, 10, 120]⟩ = bT (offText s.data.toList n.data.toList) := by
  have same : ∀ {a b : ByteArray}, a.data.toList = b.data.toList → a = b := fun {a b} e => by rw [← bT_data a, ← bT_data b, e]
  apply same
  unfold offText
  simp [ByteArray.data_append, bT, wIf, wEnd]
theorem off_len (s n : List UInt8) : (offText s n).length = s.length + n.length + 12 := by
  unfold offText; simp [wIf, wEnd]; omega
/-- a line that begins as none of the three words -/
theorem no_cond {x : List UInt8} {lb tk : ByteArray} (h : bT x = lb) (ht : lb.extract 0 3 = tk) (c1 : (tk.toList == [64, 105, 102]) = false) (c2 : (tk.toList == [64, 101, 108]) = false) (c3 : (tk.toList == [64, 101, 110]) = false) : offB x := by
  have e : tk.toList = x.take 3 := by rw [Lib.toList_data, ← ht, ← h, extract_take, bT_list]
  rw [e] at c1 c2 c3
  refine off_three (fun hh => ?_)
  rcases hh.2 with e | e | e
  · rw [e] at c1; exact absurd c1 (by decide)
  · rw [e] at c2; exact absurd c2 (by decide)
  · rw [e] at c3; exact absurd c3 (by decide)
theorem short_cond {x : List UInt8} {lb : ByteArray} (h : bT x = lb) (ht : ¬ 3 ≤ lb.size) : offB x := by
  refine off_three (fun hh => ht ?_)
  rw [← h, bT_size]; exact hh.1
/-- Read of the one source -/
theorem read_off_m (sv : Value) (s n : ByteArray) (w : World) (hn : nameB n.data.toList = true) (hs : s.size ≤ 3000) (h : ∀ x ∈ linesL s.data.toList, offB x) (hS : Attrs w sv [(⟨#[109]⟩, bT (offText s.data.toList n.data.toList))]) :
    ∃ no, Calls Tryz.prog 32 #[sv, .slice none 0 0, .string ⟨#[109]⟩] w (ReadOut w ([([109], no, [120])], [], [[109]], [n.data.toList])) := by
  have hz : n.data.toList.length ≤ 60 := (name_size hn).2
  have hsl : s.data.toList.length = s.size := by simp
  obtain ⟨no, l, o, cnt, hr⟩ := readR_off s.data.toList n.data.toList hn (by omega) h
  exact ⟨no, read_is sv (.slice none 0 0) [(bT [109], bT (offText s.data.toList n.data.toList))] [] [109] (offText s.data.toList n.data.toList) _ w hS (nil_attrs w) (find_one _ _) (fun a ha => by
    rcases List.mem_cons.1 ha with rfl | ha
    · refine textOk_any ?_
      show (bT (offText _ _)).size ≤ _
      rw [bT_size, off_len]; omega
    · cases ha) (by simp) hr rfl (Nat.le_refl 1)⟩

set_option maxHeartbeats 16000000 in
theorem walk (s : ByteArray) (_hs : s.size ≤ maxLen) (hr : s.size ≤ 140737488351232) (n : ByteArray) (_hn : n.size ≤ maxLen) (hrn : n.size ≤ 140737488351232) (w : World) :
    Calls Tryz.prog 8 #[.string s, .string n] w fun e w' => e = .returned (.bool true) ∧ Below w.heap.size w w' := by
  go_enter Tryz.func8, Tryz.ntmps8
  go_wp2_with fail
  refine (alive_m w).mono ?_
  rintro e w1 ⟨rfl, hb1⟩
  by_cases h1 : s.size ≤ 3000
  · go_wp2_with fail
    refine (name_any n w1 _hn).mono ?_
    rintro e w' ⟨rfl, rfl⟩
    cases hnm : nameB n.data.toList with
    | false =>
      go_wp2_with fail
      refine (alive_m w1).mono ?_
      rintro e w3 ⟨rfl, hb3⟩
      go_wp2
      go_ret
      exact ⟨rfl, behind hb1 hb3⟩
    | true =>
      go_wp2_with fail
      refine (lines_c s w1 (by omega)).mono ?_
      rintro e w2 ⟨lv, rfl, hL, hb2⟩
      obtain ⟨Q, hQ⟩ : ∃ Q, (linesL s.data.toList).length = Q := ⟨_, rfl⟩
      rw [hQ] at hL
      obtain ⟨p2, c2, rfl⟩ := row_slice hL
      have hcell : ∀ k (hk : k < (linesL s.data.toList).length), ∃ g, p2 = some ⟨g, 0, none⟩ ∧ g < w2.heap.size ∧ w2.cell? ⟨g, k, none⟩ = some (.string (bT (linesL s.data.toList)[k])) := by
        intro k hk
        obtain ⟨g, c, hv, hglt, hc⟩ := row_all hL (by omega)
        simp only [Value.slice.injEq] at hv
        exact ⟨g, hv.1, hglt, hc w2 (Below.refl _ _) k _ (by rw [List.getElem?_map, List.getElem?_eq_getElem hk]; rfl)⟩
      have HCL := Lib.hid hcell
      have HQ := Lib.hid hQ
      have hb2 := behind hb1 hb2
      clear hL hcell hQ
      have hQz : Q ≤ 3001 := by
        have := lines_len [] s.data.toList
        have e : s.data.toList.length = s.size := by simp
        rw [← HQ.out]; unfold linesL; omega
      go_wp2
      go_loopw [6] (fun iv wr => ∃ k : Nat, k ≤ Q ∧ iv = .int .i64 (k : Int) ∧ Below w2.heap.size w2 wr ∧ ∀ j (hj : j < (linesL s.data.toList).length), j < k → offB (linesL s.data.toList)[j]) (fun iv _ => Q - (intOf iv).toNat)
      case atStart => exact ⟨0, by omega, rfl, Below.refl _ _, fun j hj h => by omega⟩
      case round =>
        obtain ⟨k, hk, rfl, hbr, hof⟩ := hrel
        by_cases hlt : k < Q
        · have HOF := Lib.hid hof
          have hk2 : k < (linesL s.data.toList).length := by rw [HQ.out]; exact hlt
          obtain ⟨g, rfl, hg, hgc⟩ := HCL.out k hk2
          have hgc : wr.cell? ⟨g, k, none⟩ = some (.string (bT (linesL s.data.toList)[k])) := keep_cell hbr hgc
          obtain ⟨lb, hlb⟩ : ∃ lb, bT (linesL s.data.toList)[k] = lb := ⟨_, rfl⟩
          rw [hlb] at hgc
          have HLB := Lib.hid hlb
          clear hof hlb
          by_cases h3 : 3 ≤ lb.size
          · obtain ⟨tk, htk⟩ : ∃ tk, lb.extract 0 3 = tk := ⟨_, rfl⟩
            have HTK := Lib.hid htk
            cases c1 : (tk.toList == [64, 105, 102]) with
            | true =>
              go_wp2
              go_ret
              exact ⟨rfl, behind hb2 hbr⟩
            | false =>
              cases c2 : (tk.toList == [64, 101, 108]) with
              | true =>
                go_wp2
                go_ret
                exact ⟨rfl, behind hb2 hbr⟩
              | false =>
                cases c3 : (tk.toList == [64, 101, 110]) with
                | true =>
                  go_wp2
                  go_ret
                  exact ⟨rfl, behind hb2 hbr⟩
                | false =>
                  have HO := Lib.hid (no_cond HLB.out HTK.out c1 c2 c3)
                  go_wp2
                  refine ⟨⟨k + 1, by omega, by go_num, hbr, fun j hj h => if hjk : j < k then HOF.out j hj hjk else ?_⟩, by simp [intOf]; omega⟩
                  obtain rfl : j = k := by omega
                  exact HO.out
          · have HO := Lib.hid (short_cond HLB.out h3)
            go_wp2
            refine ⟨⟨k + 1, by omega, by go_num, hbr, fun j hj h => if hjk : j < k then HOF.out j hj hjk else ?_⟩, by simp [intOf]; omega⟩
            obtain rfl : j = k := by omega
            exact HO.out
        · obtain rfl : k = Q := by omega
          have hall : ∀ x ∈ linesL s.data.toList, offB x := fun x hx => by
            obtain ⟨j, hj, rfl⟩ := List.getElem_of_mem hx
            exact hof j hj (by rw [← HQ.out]; exact hj)
          have hnz : n.size ≤ 60 := by
            have := (name_size hnm).2
            have e : n.data.toList.length = n.size := by simp
            omega
          have HM := Lib.hid (off_made s n)
          obtain ⟨x1, hx1⟩ : ∃ x1, ⟨#[64, 105, 102, 32]⟩ ++ n = x1 := ⟨_, rfl⟩
          obtain ⟨x2, hx2⟩ : ∃ x2, x1 ++ ⟨#[10]⟩ = x2 := ⟨_, rfl⟩
          obtain ⟨x3, hx3⟩ : ∃ x3, x2 ++ s = x3 := ⟨_, rfl⟩
          obtain ⟨x4, hx4⟩ : ∃ x4, x3 ++ ⟨#[10, 64, 101, 110, 100, 10, 120]⟩ = x4 := ⟨_, rfl⟩
          rw [hx1, hx2, hx3, hx4] at HM
          have z1 : x1.size = n.size + 4 := by rw [← hx1, ByteArray.size_append]; show 4 + n.size = _; omega
          have z2 : x2.size = n.size + 5 := by rw [← hx2, ByteArray.size_append, z1]; rfl
          have z3 : x3.size = n.size + 5 + s.size := by rw [← hx3, ByteArray.size_append, z2]
          have s1 : ¬ 9223372036854775807 < 4 + n.size := by omega
          have s2 : ¬ 9223372036854775807 < x1.size + 1 := by omega
          have s3 : ¬ 9223372036854775807 < x2.size + s.size := by omega
          have s4 : ¬ 9223372036854775807 < x3.size + 7 := by omega
          have HS1 := fun w => src_m ⟨#[109]⟩ x4 w
          clear z1 z2 z3 hof hlt
          go_wp2_with (go_at_call 33; (with_reducible refine (HS1 _).mono ?_); rintro e w3 ⟨rfl, hb3⟩)
          have hx4 : x4.size ≤ 140737488351232 := by
            rw [HM.out, bT_size, off_len]
            have e1 : n.data.toList.length = n.size := by simp
            have e2 : s.data.toList.length = s.size := by simp
            omega
          have hb4 : Below w3.heap.size w3 ((w3.alloc (.cells #[.string ⟨#[109]⟩, .string x4] 69)).alloc (.cells #[.string ⟨#[109]⟩, .string x4] 69)) := behind (laidNew w3 (.cells #[.string ⟨#[109]⟩, .string x4] 69)) (laidNew (w3.alloc (.cells #[.string ⟨#[109]⟩, .string x4] 69)) (.cells #[.string ⟨#[109]⟩, .string x4] 69))
          have hS : Attrs ((w3.alloc (.cells #[.string ⟨#[109]⟩, .string x4] 69)).alloc (.cells #[.string ⟨#[109]⟩, .string x4] 69)) (.slice (some ⟨w3.heap.size + 1, 0, none⟩) 1 1) [(⟨#[109]⟩, bT (offText s.data.toList n.data.toList))] := by
            have := src_laid (w3.alloc (.cells #[.string ⟨#[109]⟩, .string x4] 69)) ⟨#[109]⟩ x4 (by decide) hx4
            have e : (w3.alloc (.cells #[.string ⟨#[109]⟩, .string x4] 69)).heap.size = w3.heap.size + 1 := Array.size_push ..
            rw [e] at this
            rw [← HM.out]; exact this
          obtain ⟨w4, hw4⟩ : ∃ w4, (w3.alloc (.cells #[.string ⟨#[109]⟩, .string x4] 69)).alloc (.cells #[.string ⟨#[109]⟩, .string x4] 69) = w4 := ⟨_, rfl⟩
          rw [hw4] at hS hb4 ⊢
          clear hw4
          obtain ⟨no, hR⟩ := read_off_m _ s n _ hnm h1 hall hS
          refine hR.mono ?_
          rintro e w5 ⟨⟨a1, a2, a3, a4, rfl, ra1, ra2, ra3, ra4⟩, hb5⟩
          have hb5 := behind (behind (behind (behind hb2 hbr) hb3) hb4) hb5
          obtain ⟨g1, d1, rfl, -, hc1⟩ := row_all ra1 (Nat.succ_pos 0)
          obtain ⟨p2', d2, rfl⟩ := row_slice ra2
          obtain ⟨p3, d3, rfl⟩ := row_slice ra3
          obtain ⟨g4, d4, rfl, -, hc4⟩ := row_all ra4 (Nat.succ_pos 0)
          have HC1 : Hid (∀ w', Below w5.heap.size w5 w' → w'.cell? ⟨g1, 2, none⟩ = some (.string ⟨#[120]⟩)) := Lib.hid (fun w' hb => hc1 w' hb 2 _ rfl)
          have HC4 : Hid (∀ w', Below w5.heap.size w5 w' → w'.cell? ⟨g4, 0, none⟩ = some (.string n)) := Lib.hid (fun w' hb => (hc4 w' hb 0 _ rfl).trans (congrArg some (congrArg Value.string (bT_data n))))
          have hss : (n.toList == n.toList) = true := by simp
          have k1 := HC1.out w5 (Below.refl _ _)
          have k4 := HC4.out w5 (Below.refl _ _)
          clear hR hS ra1 ra2 ra3 ra4 hc1 hc4 HS1 s1 s2 s3 s4 hall
          go_wp2
          go_ret
          exact ⟨rfl, hb5⟩
  · go_wp2_with fail
    refine (alive_m w1).mono ?_
    rintro e w3 ⟨rfl, hb3⟩
    go_wp2
    go_ret
    exact ⟨rfl, behind hb1 hb3⟩

theorem readable : ∀ t ∈ #[9, 9].toList, Tryz.prog.readableRec t = true ∧ t < Tryz.prog.types.size := by
  intro t ht
  have h : t ∈ ([9, 9] : List TypeId) := ht
  simp only [List.mem_cons, List.not_mem_nil, or_false] at h
  rcases h with rfl | rfl
  · exact ⟨by kernel_rfl, of_decide_eq_true (by kernel_rfl)⟩
  · exact ⟨by kernel_rfl, of_decide_eq_true (by kernel_rfl)⟩

theorem contract (H : Type) (enc : TypeId × Value → H) (W : World) (base : Nat) (args : Array Value) (ds gs : List (DataW H)) (before : List MemPlace)
    (hval : ∀ (j : Nat) t v, Tryz.f8.params[j]? = some t → args[j]? = some v → Value.okWide Tryz.prog W .any base t v)
    (hW : DataW.Whole enc Tryz.prog Tryz.f8.params.toList Rows.aheadOffSpec.vars false W args.toList ds gs before)
    (hz : (DataW.weightsEach Tryz.prog (Tryz.f8.params.toList ++ (OpenSpec.ofChange Rows.aheadOffSpec).bare.plain.varTypes Tryz.prog) (ds ++ gs)).all (· ≤ reachBytes) = true) :
    Calls Tryz.prog 8 args W fun e W' => ∃ v, e = .returned v ∧ Rows.aheadOffSpec.post enc Tryz.prog Tryz.f8 false true false false W args v W' := by
  have hW' := hW
  obtain ⟨p, q, hA, hV, rfl, hfz, hnd⟩ := hW
  rw [Tryz.params8] at hA hval
  obtain ⟨v0, vs0, d0, ds0, p0, q0, hargs0, rfl, rfl, h0, r0⟩ := trodAll_cons hA
  obtain ⟨v1, vs1, d1, ds1, p1, q1, hargs1, rfl, rfl, h1, r1⟩ := trodAll_cons r0
  obtain ⟨rfl, rfl, rfl⟩ := trodAll_nil r1
  subst hargs1
  obtain rfl : args = #[v0, v1] := by cases args; simp_all
  obtain ⟨rfl, rfl⟩ := trodVars_none hV
  obtain ⟨s0, rfl, rfl, rfl, hs0⟩ := string_arg (hval 0 9 v0 rfl rfl) h0
  have hr0 := string_reach hz (j := 0) (s := s0) rfl rfl
  obtain ⟨s1, rfl, rfl, rfl, hs1⟩ := string_arg (hval 1 9 v1 rfl rfl) h1
  have hr1 := string_reach hz (j := 1) (s := s1) rfl rfl
  refine (walk s0 hs0 hr0 s1 hs1 hr1 W).mono fun e W' ⟨he, hb⟩ => ⟨_, he, law_post rfl rfl ?_ hW' rfl hb⟩
  rw [Tryz.params8]
  exact readable

theorem met (os : Os) : laidMet Tryz.prog Rows.aheadOffRow.laid ((laidWorld os).forCall (fun _ _ => 0) ⟨#[], #[.string ⟨#[]⟩, .string ⟨#[]⟩], []⟩).memory :=
  laidMet_of_run' 8 (by kernel_rfl) (by kernel_rfl)
theorem reads (os : Os) {H : Type} (enc : TypeId × Value → H) : ∃ places, DataW.whole enc Tryz.prog ((laidWorld os).forCall (fun _ _ => 0) ⟨#[], #[.string ⟨#[]⟩, .string ⟨#[]⟩], []⟩).memory Tryz.f8.params.toList Rows.aheadOffSpec.vars false (#[.string ⟨#[]⟩, .string ⟨#[]⟩] : Array Value).toList 8 = some ([.lit (.string []), .lit (.string [])], [], places) :=
  ⟨[], by kernel_rfl⟩

set_option maxRecDepth 100000 in
theorem lifted (os : Os) (started : os.Started) (H : Type) (enc : TypeId × Value → H) (F : Stop.Interp) :
    ReturnsInHanded {} Tryz.checked os 8 .any ((OpenSpec.ofChange Rows.aheadOffSpec).preRow enc Tryz.prog Tryz.f8 Rows.aheadOffRow.domain false Rows.aheadOffRow.laid) (((OpenSpec.ofChange Rows.aheadOffSpec).at F).post enc Tryz.prog Tryz.f8 false true false false) := by
  obtain ⟨places, hx⟩ := reads os enc
  refine returnsInHanded_of_row (C := Tryz.checked) (s := OpenSpec.ofChange Rows.aheadOffSpec) own started (by kernel_rfl) Tryz.func8
    (witness_row_at (enc := enc) (C := Tryz.checked) false (laidWorld os) #[.string ⟨#[]⟩, .string ⟨#[]⟩] rfl (by kernel_rfl) (by kernel_rfl) (by kernel_rfl)
      (OpenSpec.preRow_of_cond 8 hx (by kernel_rfl) (fun k hk => by cases hk) (by kernel_rfl) (met os))) ?_
  intro W base args ds gs before hval hW _ _ hz _ _ _
  exact contract H enc W base args ds gs before hval hW hz

theorem said : Rows.AheadOffSaid :=
  OpenClaim.holds_of_cond 8 Tryz.f8 rfl rfl rfl rfl rfl rfl rfl ⟨rfl, rfl, rfl, rfl, rfl⟩ rfl rfl rfl rfl rfl (by kernel_rfl) Tryz.func8 (by kernel_rfl)
    (of_decide_eq_true (by kernel_rfl)) (by unfold Func.isWrapper; first | (rw [if_pos (by decide +kernel)]; kernel_rfl) | (rw [if_neg (by decide +kernel)]; exact ⟨rfl, rfl⟩))
    (fun os started H enc _ F => by rw [OpenClaim.pre_eq_preRow]; exact lifted os started H enc F)

theorem plain (f : FuncId) (fn : Func) (hf : Tryz.pinned.checked.prog.funcNamed "bindery/binderylaw05.AheadOff" = some f) (hfn : Tryz.pinned.checked.prog.funcs[f]? = some fn) :
    true = Tryz.pinned.checked.prog.looks [] ∧ ∀ (j : Nat) t, fn.params[j]? = some t → Tryz.pinned.checked.prog.wantsStandIn t = false := by
  obtain rfl : f = 8 := Option.some.inj ((show Tryz.prog.funcNamed "bindery/binderylaw05.AheadOff" = some 8 by kernel_rfl).symm.trans hf) |>.symm
  obtain rfl : fn = Tryz.f8 := (Option.some.inj (Tryz.func8.symm.trans hfn)).symm
  refine ⟨by kernel_rfl, fun j t ht => ?_⟩
  rw [Tryz.params8] at ht
  have h : t ∈ ([9, 9] : List TypeId) := Array.mem_toList_iff.2 (Array.mem_of_getElem? ht)
  simp only [List.mem_cons, List.not_mem_nil, or_false] at h
  rcases h with rfl | rfl
  · exact (show Tryz.prog.wantsStandIn 9 = false by kernel_rfl)
  · exact (show Tryz.prog.wantsStandIn 9 = false by kernel_rfl)

theorem card : Rows.AheadOffCardSaid :=
  Claim7.holds_tied_plain_at .later [] _ _ _ _ said (fun _ h => by cases h) (by kernel_rfl) (fun _ h => by cases h) aheadOff_row_tie rfl ⟨rfl, rfl⟩ (by kernel_rfl) rfl plain (by kernel_rfl)
end Go.Proofs.YtnbnlehkljkabaaGreatDoor.aOffLaw
