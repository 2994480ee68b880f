import Derived.Test.YtdbhlnokhfflmaaDoorTermH
namespace Go.Proofs.YtdbhlnokhfflmaaDoor
open Go.RowKit
set_option maxRecDepth 100000

/-! ### the document's answer: Parse -/
theorem ahead_len (s : List UInt8) : min (firstN s 59) (firstN s 62) = (aheadL s).length := by
  induction s with
  | nil => rfl
  | cons c t ih =>
    unfold firstN aheadL at *
    by_cases h1 : c = 59
    · subst h1; simp [splitB]
    · by_cases h2 : c = 62
      · subst h2; simp [splitB]
      · have hs : splitB c = false := by unfold splitB; simp [h1, h2]
        rw [List.takeWhile_cons_of_pos (by rw [bne_iff_ne]; exact h1), List.takeWhile_cons_of_pos (by rw [bne_iff_ne]; exact h2), List.takeWhile_cons_of_pos (by rw [hs]; rfl)]
        simp only [List.length_cons]
        omega
theorem ahead_take (s : List UInt8) : s.take (aheadL s).length = aheadL s := by
  have h : aheadL s ++ restL s = s := List.takeWhile_append_dropWhile
  have h2 : (aheadL s ++ restL s).take (aheadL s).length = aheadL s := List.take_left
  rwa [h] at h2
theorem rest_drop (s : List UInt8) : s.drop (aheadL s).length = restL s := by
  have h : aheadL s ++ restL s = s := List.takeWhile_append_dropWhile
  have h2 : (aheadL s ++ restL s).drop (aheadL s).length = restL s := List.drop_left
  rwa [h] at h2
set_option maxHeartbeats 2000000 in
theorem refParse_c (s : ByteArray) (w : World) (hs : s.size ≤ 140737488351232) :
    Calls Tryd.prog 19 #[.string s] w fun e w' => e = .returned (parseV (parseL s.data.toList)) ∧ w = w' := by
  have hl : s.data.toList.length = s.size := by simp
  by_cases hz : 240 < s.size
  · have hp : parseL s.data.toList = none := by unfold parseL; rw [if_pos (by omega)]
    have hz2 : 240 < (s.size : Int) := by omega
    rw [hp]
    unfold parseV
    clear hp hl
    go_enter Tryd.func19, Tryd.ntmps19
    go_wp2
    refine bodyPost_ret (results_tmp4 rfl _ _ _) rfl ?_
    exact ⟨rfl, rfl⟩
  · have hz2 : ¬ 240 < (s.size : Int) := by omega
    have q1 := fun w => first_c s 59 w hs
    have q2 := fun w => first_c s 62 w hs
    simp only [show (((59 : UInt8).toNat : Nat) : Int) = 59 from rfl, show (((62 : UInt8).toNat : Nat) : Int) = 62 from rfl] at q1 q2
    have hA := ahead_len s.data.toList
    have hAl : (aheadL s.data.toList).length ≤ s.size := by rw [← hl]; exact (List.takeWhile_prefix _).length_le
    have hT : s.extract 0 (aheadL s.data.toList).length = bT (aheadL s.data.toList) := bT_eq (by rw [extract_take, ahead_take])
    have qt := fun w => refTrim_c (bT (aheadL s.data.toList)) w (by rw [bT_size]; omega)
    rw [bT_list] at qt
    have qp := fun w => refPart_c (bT (trimL (aheadL s.data.toList))) w (by rw [bT_size]; have := trim_len (aheadL s.data.toList); omega)
    rw [bT_list] at qp
    obtain ⟨A, hAA⟩ : ∃ A, (aheadL s.data.toList).length = A := ⟨_, rfl⟩
    rw [hAA] at hA hAl hT
    generalize firstN s.data.toList 59 = n1 at *
    generalize firstN s.data.toList 62 = n2 at *
    have hm : min (n1 : Int) (n2 : Int) = (A : Int) := by omega
    cases hp : partB (trimL (aheadL s.data.toList)) with
    | false =>
      have hP : parseL s.data.toList = none := by unfold parseL; rw [if_neg (by omega), if_pos hp]
      rw [hP]
      unfold parseV
      rw [hp] at qp
      generalize bT (trimL (aheadL s.data.toList)) = tm at *
      generalize bT (aheadL s.data.toList) = ah at *
      clear hP hp hl hz hA hAA
      go_enter Tryd.func19, Tryd.ntmps19
      go_wp2_with (first
        | (go_at_call 26; (with_reducible refine (q1 _).mono ?_); rintro e w2 ⟨rfl, rfl⟩)
        | (go_at_call 26; (with_reducible refine (q2 _).mono ?_); rintro e w2 ⟨rfl, rfl⟩)
        | (go_at_call 27; (with_reducible refine (qt _).mono ?_); rintro e w2 ⟨rfl, rfl⟩)
        | (go_at_call 28; (with_reducible refine (qp _).mono ?_); rintro e w2 ⟨rfl, rfl⟩))
      refine bodyPost_ret (results_tmp4 rfl _ _ _) rfl ?_
      exact ⟨rfl, rfl⟩
    | true =>
      rcases rest_cases s.data.toList with ⟨h1, h2, h3⟩ | ⟨c, o, h1, h2, h3, h4⟩
      · have hP : parseL s.data.toList = some (trimL (aheadL s.data.toList), [], []) := by
          unfold parseL; rw [if_neg (by omega), if_neg (by rw [hp]; decide), h1]
        rw [hP]
        unfold parseV
        simp only
        rw [hp] at qp
        have hAs : A = s.size := by rw [← hAA, h2, hl]
        have hq : ((A : Int) == (s.size : Int)) = true := by rw [hAs]; simp
        rw [show bT ([] : List UInt8) = ⟨#[]⟩ from rfl]
        generalize bT (trimL (aheadL s.data.toList)) = tm at *
        generalize bT (aheadL s.data.toList) = ah at *
        clear hP hp hl hz hA hAA h1 h2 h3 hAs
        go_enter Tryd.func19, Tryd.ntmps19
        go_wp2_with (first
          | (go_at_call 26; (with_reducible refine (q1 _).mono ?_); rintro e w2 ⟨rfl, rfl⟩)
          | (go_at_call 26; (with_reducible refine (q2 _).mono ?_); rintro e w2 ⟨rfl, rfl⟩)
          | (go_at_call 27; (with_reducible refine (qt _).mono ?_); rintro e w2 ⟨rfl, rfl⟩)
          | (go_at_call 28; (with_reducible refine (qp _).mono ?_); rintro e w2 ⟨rfl, rfl⟩))
        refine bodyPost_ret (results_tmp4 rfl _ _ _) rfl ?_
        exact ⟨rfl, rfl⟩
      · have hAs : A < s.size := by
          have := congrArg List.length h3
          rw [List.length_append, List.length_cons, hl, hAA] at this; omega
        have hlt : A < s.data.toList.length := by omega
        have hgc : s[A] = c := by
          have e : s.data.toList[A]? = some c := by
            have h0 : (s.data.toList.drop A)[0]? = some c := by rw [← hAA, rest_drop, h1]; rfl
            rw [List.getElem?_drop] at h0
            simpa using h0
          have e2 : s.data.toList[A]? = some s.data.toList[A] := List.getElem?_eq_getElem hlt
          have e := Option.some.inj (e2.symm.trans e)
          exact e
        have hO : s.extract (A + 1) s.size = bT o := bT_eq (by
          rw [extract_list, ← List.drop_drop, ← hAA, rest_drop, h1]; rfl)
        have ho : o.length ≤ s.size := by
          have := congrArg List.length h3
          rw [List.length_append, List.length_cons, hl] at this; omega
        have rt := fun w => refTrim_c (bT o) w (by rw [bT_size]; omega)
        rw [bT_list] at rt
        have rp := fun w => refPart_c (bT (trimL o)) w (by rw [bT_size]; have := trim_len o; omega)
        rw [bT_list] at rp
        have hq : ((A : Int) == (s.size : Int)) = false := by rw [beq_eq_false_iff_ne]; omega
        have c1 : (A : Int) + 1 ≤ (s.size : Int) := by omega
        have c2 : ((A : Int) + 1).toNat = A + 1 := by omega
        have c3 : IntKind.i64.wrap ((A : Int) + 1) = (A : Int) + 1 := by rw [IntKind.wrap_i64]; omega
        rw [hp] at qp
        cases hpo : partB (trimL o) with
        | false =>
          have hP : parseL s.data.toList = none := by
            unfold parseL; rw [if_neg (by omega), if_neg (by rw [hp]; decide), h1]
            simp only [hpo, if_true]
          rw [hP]
          unfold parseV
          simp only
          rw [hpo] at rp
          generalize bT (trimL (aheadL s.data.toList)) = tm at *
          generalize bT (aheadL s.data.toList) = ah at *
          generalize bT (trimL o) = tmo at *
          generalize bT o = oo at *
          clear hP hp hl hz hA hAA h1 h2 h3 h4 hpo hgc ho hlt
          go_enter Tryd.func19, Tryd.ntmps19
          go_wp2_with (first
            | (go_at_call 26; (with_reducible refine (q1 _).mono ?_); rintro e w2 ⟨rfl, rfl⟩)
            | (go_at_call 26; (with_reducible refine (q2 _).mono ?_); rintro e w2 ⟨rfl, rfl⟩)
            | (go_at_call 27; (with_reducible refine (qt _).mono ?_); rintro e w2 ⟨rfl, rfl⟩)
            | (go_at_call 28; (with_reducible refine (qp _).mono ?_); rintro e w2 ⟨rfl, rfl⟩)
            | (go_at_call 27; (with_reducible refine (rt _).mono ?_); rintro e w2 ⟨rfl, rfl⟩)
            | (go_at_call 28; (with_reducible refine (rp _).mono ?_); rintro e w2 ⟨rfl, rfl⟩))
          refine bodyPost_ret (results_tmp4 rfl _ _ _) rfl ?_
          exact ⟨rfl, rfl⟩
        | true =>
          rw [hpo] at rp
          by_cases hc : c = 59
          · have hP : parseL s.data.toList = some (trimL (aheadL s.data.toList), trimL o, []) := by
              unfold parseL; rw [if_neg (by omega), if_neg (by rw [hp]; decide), h1]
              simp only [hpo, if_pos hc]; rfl
            rw [hP]
            unfold parseV
            simp only
            have hk : ((s[A].toNat : Int) == 59) = true := by rw [hgc, hc]; rfl
            rw [show bT ([] : List UInt8) = ⟨#[]⟩ from rfl]
            generalize bT (trimL (aheadL s.data.toList)) = tm at *
            generalize bT (aheadL s.data.toList) = ah at *
            generalize bT (trimL o) = tmo at *
            generalize bT o = oo at *
            clear hP hp hl hz hA hAA h1 h2 h3 h4 hpo hgc ho hc
            go_enter Tryd.func19, Tryd.ntmps19
            go_wp2_with (first
              | (go_at_call 26; (with_reducible refine (q1 _).mono ?_); rintro e w2 ⟨rfl, rfl⟩)
              | (go_at_call 26; (with_reducible refine (q2 _).mono ?_); rintro e w2 ⟨rfl, rfl⟩)
              | (go_at_call 27; (with_reducible refine (qt _).mono ?_); rintro e w2 ⟨rfl, rfl⟩)
              | (go_at_call 28; (with_reducible refine (qp _).mono ?_); rintro e w2 ⟨rfl, rfl⟩)
              | (go_at_call 27; (with_reducible refine (rt _).mono ?_); rintro e w2 ⟨rfl, rfl⟩)
              | (go_at_call 28; (with_reducible refine (rp _).mono ?_); rintro e w2 ⟨rfl, rfl⟩))
            refine bodyPost_ret (results_tmp4 rfl _ _ _) rfl ?_
            exact ⟨rfl, rfl⟩
          · have hP : parseL s.data.toList = some (trimL (aheadL s.data.toList), [], trimL o) := by
              unfold parseL; rw [if_neg (by omega), if_neg (by rw [hp]; decide), h1]
              simp only [hpo, if_neg hc]; rfl
            rw [hP]
            unfold parseV
            simp only
            have hk : ((s[A].toNat : Int) == 59) = false := by
              rw [beq_eq_false_iff_ne, hgc]; exact fun e => hc (UInt8.toNat_inj.1 (by show c.toNat = 59; omega))
            rw [show bT ([] : List UInt8) = ⟨#[]⟩ from rfl]
            generalize bT (trimL (aheadL s.data.toList)) = tm at *
            generalize bT (aheadL s.data.toList) = ah at *
            generalize bT (trimL o) = tmo at *
            generalize bT o = oo at *
            clear hP hp hl hz hA hAA h1 h2 h3 h4 hpo hgc ho hc
            go_enter Tryd.func19, Tryd.ntmps19
            go_wp2_with (first
              | (go_at_call 26; (with_reducible refine (q1 _).mono ?_); rintro e w2 ⟨rfl, rfl⟩)
              | (go_at_call 26; (with_reducible refine (q2 _).mono ?_); rintro e w2 ⟨rfl, rfl⟩)
              | (go_at_call 27; (with_reducible refine (qt _).mono ?_); rintro e w2 ⟨rfl, rfl⟩)
              | (go_at_call 28; (with_reducible refine (qp _).mono ?_); rintro e w2 ⟨rfl, rfl⟩)
              | (go_at_call 27; (with_reducible refine (rt _).mono ?_); rintro e w2 ⟨rfl, rfl⟩)
              | (go_at_call 28; (with_reducible refine (rp _).mono ?_); rintro e w2 ⟨rfl, rfl⟩))
            refine bodyPost_ret (results_tmp4 rfl _ _ _) rfl ?_
            exact ⟨rfl, rfl⟩
end Go.Proofs.YtdbhlnokhfflmaaDoor
