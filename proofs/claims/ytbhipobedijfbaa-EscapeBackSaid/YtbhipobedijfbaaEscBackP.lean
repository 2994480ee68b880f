/-
  EscapeBack: a text for a page is got back as it was; one that is got back is that for the page, any other one is refused; for any text of at most 1048576 bytes; true is answered beyond. No conditions: every text.
-/
import Derived.Test.YtbhipobedijfbaaEscV
namespace Go.Proofs.Ytbhipobedijfbaa.backLaw
open Go.ChangeShapes Go.WideShapes Go.ChangeAt Go.RowKit
set_option maxRecDepth 100000

set_option maxHeartbeats 4000000 in
theorem walk (s : ByteArray) (_hs : s.size ≤ maxLen) (hr : s.size ≤ 140737488351232) (w : World) :
    Calls Try.prog 5 #[.string s] w fun e w' => e = .returned (.bool true) ∧ Below w.heap.size w w' := by
  go_enter Try.func5, Try.ntmps5
  go_wp2_with fail
  refine (alive_e w).mono ?_
  rintro e w1 ⟨rfl, hb1⟩
  go_wp2_with fail
  refine (beyond1 _ (s.size : Int) _ (by simp) (by omega)).mono ?_
  rintro e w' ⟨rfl, rfl⟩
  obtain ⟨w2, hw2⟩ : ∃ w2, w1.alloc (.cells #[.int .i64 (s.size : Int)] 3) = w2 := ⟨_, rfl⟩
  have hb2 : Below w.heap.size w w2 := by rw [← hw2]; exact behind hb1 (laidNew _ _)
  rw [hw2]
  clear hw2
  by_cases h3 : s.size ≤ 1048576
  · obtain ⟨tb, htb⟩ : ∃ tb, bT (textL s.data.toList) = tb := ⟨_, rfl⟩
    have htl : tb.data.toList = textL s.data.toList := by rw [← htb, bT_list]
    have htz : tb.size ≤ 10000000 := by
      rw [size_len, htl]
      have h1 := text_len s.data.toList
      have h2 := size_len s
      omega
    have H1 := text_c s w2 (by omega)
    rw [htb] at H1
    have H2 := fun w => back_c tb w (by omega)
    have hbt : backV (backL tb.data.toList) = .tuple #[.string s, .int .i64 0] := by rw [htl, back_text]; show Value.tuple #[Value.string (bT s.data.toList), .int .i64 0] = _; rw [bT_data]
    rw [hbt] at H2
    have hss : (s.toList == s.toList) = true := by simp
    cases hB : backL s.data.toList with
    | none =>
      have H3 := fun w => back_c s w (by omega)
      rw [hB] at H3
      unfold backV at H3
      clear hB htl htb hbt
      go_wp2_with fail
      refine H1.mono ?_
      rintro e w3 ⟨rfl, hb3⟩
      go_wp2_with fail
      refine (H2 _).mono ?_
      rintro e w4 ⟨rfl, hb4⟩
      go_wp2_with fail
      refine (H3 _).mono ?_
      rintro e w5 ⟨rfl, hb5⟩
      go_wp2
      go_ret
      exact ⟨rfl, behind (behind (behind hb2 hb3) hb4) hb5⟩
    | some b =>
      obtain ⟨bb, hbb⟩ : ∃ bb, bT b = bb := ⟨_, rfl⟩
      have hbl : bb.data.toList = b := by rw [← hbb, bT_list]
      have hbi := back_is hB
      have hbz : bb.size ≤ 1000000000 := by
        have h0 := congrArg List.length hbi
        have h1 : ∀ l : List UInt8, l.length ≤ (textL l).length := fun l => by
          induction l with
          | nil => simp
          | cons c t ih =>
            have : 1 ≤ (oneL c).length := by
              unfold oneL markL
              repeat' split
              all_goals simp
            show _ ≤ (oneL c ++ textL t).length
            rw [List.length_append, List.length_cons]; omega
        have h2 := h1 b
        have h3 := size_len s
        rw [size_len, hbl]; omega
      have H3 := fun w => back_c s w (by omega)
      rw [hB] at H3
      unfold backV at H3
      simp only [hbb] at H3
      have H4 := fun w => text_c bb w hbz
      have hts : bT (textL bb.data.toList) = s := by rw [hbl, hbi, bT_data]
      rw [hts] at H4
      clear hB htl htb hbt hbb hbl hbi hts
      go_wp2_with fail
      refine H1.mono ?_
      rintro e w3 ⟨rfl, hb3⟩
      go_wp2_with fail
      refine (H2 _).mono ?_
      rintro e w4 ⟨rfl, hb4⟩
      go_wp2_with fail
      refine (H3 _).mono ?_
      rintro e w5 ⟨rfl, hb5⟩
      go_wp2_with fail
      refine (H4 _).mono ?_
      rintro e w6 ⟨rfl, hb6⟩
      go_wp2
      go_ret
      exact ⟨rfl, behind (behind (behind (behind hb2 hb3) hb4) hb5) hb6⟩
  · go_wp2_with fail
    refine (alive_e w2).mono ?_
    rintro e w3 ⟨rfl, hb3⟩
    go_wp2
    go_ret
    exact ⟨rfl, behind hb2 hb3⟩

theorem readable : ∀ t ∈ #[9].toList, Try.prog.readableRec t = true ∧ t < Try.prog.types.size := by
  intro t ht
  have h : t ∈ ([9] : List TypeId) := ht
  simp only [List.mem_cons, List.not_mem_nil, or_false] at h
  rcases h with rfl
  · exact ⟨by kernel_rfl, of_decide_eq_true (by kernel_rfl)⟩

theorem lifted (os : Os) (started : os.Started) (H : Type) (enc : TypeId × Value → H) :
    ReturnsInHanded {} Try.checked os 5 .any (Rows.escapeBackSpec.pre6 enc Try.prog Try.f5 Rows.escapeBackRow.domain false) (Rows.escapeBackSpec.post enc Try.prog Try.f5 false true false false) := by
  refine returnsInHanded_of_change_sized (C := Try.checked) own started (by kernel_rfl) Try.func5
    (ChangeSpec.witness6 (enc := enc) (C := Try.checked) false ⟨#[], #[.string ⟨#[]⟩], []⟩ 8 (by kernel_rfl) (by kernel_rfl) (by kernel_rfl) (by kernel_rfl)) ?_
  intro W base args ds gs before hval hW _ hz _
  have hW' := hW
  obtain ⟨p, q, hA, hV, rfl, hfz, hnd⟩ := hW
  rw [Try.params5] at hA hval
  obtain ⟨v0, vs0, d0, ds0, p0, q0, hargs0, rfl, rfl, h0, r0⟩ := trodAll_cons hA
  obtain ⟨rfl, rfl, rfl⟩ := trodAll_nil r0
  obtain rfl : args = #[v0] := by cases args; simp_all
  obtain ⟨rfl, rfl⟩ := trodVars_none hV
  obtain ⟨s0, rfl, rfl, rfl, hs0⟩ := string_arg (hval 0 9 v0 rfl rfl) h0
  have hr0 := string_reach hz (j := 0) (s := s0) rfl rfl
  refine (walk s0 hs0 hr0 W).mono fun e W' ⟨he, hb⟩ => ⟨_, he, law_post rfl rfl ?_ hW' rfl hb⟩
  rw [Try.params5]
  exact readable

theorem proved : Rows.EscapeBackSaid :=
  OpenClaim.holds_of_wide 5 Try.f5 rfl rfl rfl rfl rfl rfl rfl ⟨rfl, rfl, rfl, rfl, rfl⟩ rfl rfl rfl rfl rfl (by kernel_rfl) Try.func5 (by kernel_rfl)
    (of_decide_eq_true (by kernel_rfl)) (by unfold Func.isWrapper; first | (rw [if_pos (by decide +kernel)]; kernel_rfl) | (rw [if_neg (by decide +kernel)]; exact ⟨rfl, rfl⟩))
    (fun os started H enc _ => lifted os started H enc)
end Go.Proofs.Ytbhipobedijfbaa.backLaw
