/-
  EscapeJoins: two texts, one behind the other, are both for a page; so back; for any two texts of at most 1048576 bytes together; true is answered beyond. No conditions: every two texts.
-/
import Derived.Test.YtbhipobedijfbaaEscV
namespace Go.Proofs.Ytbhipobedijfbaa.joinsLaw
open Go.ChangeShapes Go.WideShapes Go.ChangeAt Go.RowKit
set_option maxRecDepth 100000

theorem same_bytes {a b : ByteArray} (h : a.data.toList = b.data.toList) : a = b := by rw [← bT_data a, ← bT_data b, h]
set_option maxHeartbeats 4000000 in
theorem walk (a : ByteArray) (_ha : a.size ≤ maxLen) (hra : a.size ≤ 140737488351232) (b : ByteArray) (_hb : b.size ≤ maxLen) (hrb : b.size ≤ 140737488351232) (w : World) :
    Calls Try.prog 7 #[.string a, .string b] w fun e w' => e = .returned (.bool true) ∧ Below w.heap.size w w' := by
  go_enter Try.func7, Try.ntmps7
  go_wp2_with fail
  refine (alive_e w).mono ?_
  rintro e w1 ⟨rfl, hb1⟩
  go_wp2_with fail
  refine (beyond2 _ (a.size : Int) (b.size : Int) _ (by simp) (by simp) (by omega) (by omega)).mono ?_
  rintro e w' ⟨rfl, rfl⟩
  obtain ⟨w2, hw2⟩ : ∃ w2, w1.alloc (.cells #[.int .i64 (a.size : Int), .int .i64 (b.size : Int)] 3) = w2 := ⟨_, rfl⟩
  have hb2 : Below w.heap.size w w2 := by rw [← hw2]; exact behind hb1 (laidNew _ _)
  rw [hw2]
  clear hw2
  by_cases h3 : a.size + b.size ≤ 1048576
  · have hz : (a ++ b).size ≤ 1000000000 := by rw [ByteArray.size_append]; omega
    have hd : (a ++ b).data.toList = a.data.toList ++ b.data.toList := cat_data a b
    obtain ⟨ta, hta⟩ : ∃ ta, bT (textL a.data.toList) = ta := ⟨_, rfl⟩
    obtain ⟨tb, htb⟩ : ∃ tb, bT (textL b.data.toList) = tb := ⟨_, rfl⟩
    have htab : bT (textL (a ++ b).data.toList) = ta ++ tb := by
      apply same_bytes
      rw [bT_list, hd, text_append, ← hta, ← htb, cat_data, bT_list, bT_list]
    have hza : ta.size ≤ 10000000 := by
      rw [← hta, size_len, bT_list]
      have h1 := text_len a.data.toList
      have h2 := size_len a
      omega
    have hzb : tb.size ≤ 10000000 := by
      rw [← htb, size_len, bT_list]
      have h1 := text_len b.data.toList
      have h2 := size_len b
      omega
    have H1 := fun w => text_c (a ++ b) w hz
    rw [htab] at H1
    have H2 := fun w => text_c a w (by omega)
    rw [hta] at H2
    have H3 := fun w => text_c b w (by omega)
    rw [htb] at H3
    have hs1 : ¬ 9223372036854775807 < a.size + b.size := by omega
    have hs2 : ¬ 9223372036854775807 < ta.size + tb.size := by omega
    have H4 := fun w => back_c a w (by omega)
    have H5 := fun w => back_c b w (by omega)
    have H6 := fun w => back_c (a ++ b) w hz
    have hp : ∀ x y, backL a.data.toList = some x → backL b.data.toList = some y → backL (a ++ b).data.toList = some (x ++ y) := fun x y h1 h2 => by rw [hd]; exact back_append h1 h2
    have hl : ∀ (s : ByteArray) (x : List UInt8), s.size ≤ 1048576 → backL s.data.toList = some x → x.length ≤ 1048576 := fun s x h1 h2 => by
      have h0 := congrArg List.length (back_is h2)
      have h4 : ∀ l : List UInt8, l.length ≤ (textL l).length := fun l => by
        induction l with
        | nil => simp
        | cons c t ih =>
          have : 1 ≤ (oneL c).length := by
            unfold oneL markL
            repeat' split
            all_goals simp
          show _ ≤ (oneL c ++ textL t).length
          rw [List.length_append, List.length_cons]; omega
      have h5 := h4 x
      have h6 := size_len s
      omega
    clear htab hta htb hd
    go_wp2_with fail
    refine (H1 _).mono ?_
    rintro e w3 ⟨rfl, hb3⟩
    go_wp2_with fail
    refine (H2 _).mono ?_
    rintro e w4 ⟨rfl, hb4⟩
    go_wp2_with fail
    refine (H3 _).mono ?_
    rintro e w5 ⟨rfl, hb5⟩
    have hb5 := behind (behind (behind hb2 hb3) hb4) hb5
    clear H1 H2 H3
    cases h1 : backL a.data.toList with
    | none =>
      rw [h1] at H4
      unfold backV at H4
      go_wp2_with fail
      refine (H4 _).mono ?_
      rintro e w6 ⟨rfl, hb6⟩
      obtain ⟨v1, e1, h5⟩ : ∃ v1 e1, backV (backL b.data.toList) = .tuple #[.string v1, .int .i64 e1] := by cases backL b.data.toList <;> exact ⟨_, _, rfl⟩
      obtain ⟨v2, e2, h6⟩ : ∃ v2 e2, backV (backL (a ++ b).data.toList) = .tuple #[.string v2, .int .i64 e2] := by cases backL (a ++ b).data.toList <;> exact ⟨_, _, rfl⟩
      rw [h5] at H5
      rw [h6] at H6
      clear h5 h6 hp hl h1
      go_wp2_with fail
      refine (H5 _).mono ?_
      rintro e w7 ⟨rfl, hb7⟩
      go_wp2_with fail
      refine (H6 _).mono ?_
      rintro e w8 ⟨rfl, hb8⟩
      go_wp2
      go_ret
      exact ⟨rfl, behind (behind (behind hb5 hb6) hb7) hb8⟩
    | some x =>
      obtain ⟨xb, hxb⟩ : ∃ xb, bT x = xb := ⟨_, rfl⟩
      have hxz := hl a x (by omega) h1
      rw [h1] at H4
      unfold backV at H4
      simp only [hxb] at H4
      go_wp2_with fail
      refine (H4 _).mono ?_
      rintro e w6 ⟨rfl, hb6⟩
      cases h2 : backL b.data.toList with
      | none =>
        rw [h2] at H5
        unfold backV at H5
        obtain ⟨v2, e2, h6⟩ : ∃ v2 e2, backV (backL (a ++ b).data.toList) = .tuple #[.string v2, .int .i64 e2] := by cases backL (a ++ b).data.toList <;> exact ⟨_, _, rfl⟩
        rw [h6] at H6
        clear h6 hp hl h1 h2 hxb hxz
        go_wp2_with fail
        refine (H5 _).mono ?_
        rintro e w7 ⟨rfl, hb7⟩
        go_wp2_with fail
        refine (H6 _).mono ?_
        rintro e w8 ⟨rfl, hb8⟩
        go_wp2
        go_ret
        exact ⟨rfl, behind (behind (behind hb5 hb6) hb7) hb8⟩
      | some y =>
        obtain ⟨yb, hyb⟩ : ∃ yb, bT y = yb := ⟨_, rfl⟩
        have hyz := hl b y (by omega) h2
        rw [h2] at H5
        rw [hp x y h1 h2] at H6
        unfold backV at H5 H6
        simp only [hyb] at H5
        have hxy : bT (x ++ y) = xb ++ yb := by apply same_bytes; rw [bT_list, ← hxb, ← hyb, cat_data, bT_list, bT_list]
        simp only [hxy] at H6
        have hxs : xb.size ≤ 1048576 := by rw [← hxb, size_len, bT_list]; exact hxz
        have hys : yb.size ≤ 1048576 := by rw [← hyb, size_len, bT_list]; exact hyz
        have hs3 : ¬ 9223372036854775807 < xb.size + yb.size := by omega
        clear hp hl h1 h2 hxb hxz hyb hyz hxy
        go_wp2_with fail
        refine (H5 _).mono ?_
        rintro e w7 ⟨rfl, hb7⟩
        go_wp2_with fail
        refine (H6 _).mono ?_
        rintro e w8 ⟨rfl, hb8⟩
        go_wp2
        go_ret
        exact ⟨rfl, behind (behind (behind hb5 hb6) hb7) hb8⟩
  · have h3' : ¬ ((a.size : Int) + (b.size : Int) ≤ 1048576) := by omega
    go_wp2_with fail
    refine (alive_e w2).mono ?_
    rintro e w3 ⟨rfl, hb3⟩
    go_wp2
    go_ret
    exact ⟨rfl, behind hb2 hb3⟩

theorem readable : ∀ t ∈ #[9, 9].toList, Try.prog.readableRec t = true ∧ t < Try.prog.types.size := by
  intro t ht
  have h : t ∈ ([9, 9] : List TypeId) := ht
  simp only [List.mem_cons, List.not_mem_nil, or_false] at h
  rcases h with rfl | rfl
  · exact ⟨by kernel_rfl, of_decide_eq_true (by kernel_rfl)⟩
  · exact ⟨by kernel_rfl, of_decide_eq_true (by kernel_rfl)⟩

theorem lifted (os : Os) (started : os.Started) (H : Type) (enc : TypeId × Value → H) :
    ReturnsInHanded {} Try.checked os 7 .any (Rows.escapeJoinsSpec.pre6 enc Try.prog Try.f7 Rows.escapeJoinsRow.domain false) (Rows.escapeJoinsSpec.post enc Try.prog Try.f7 false true false false) := by
  refine returnsInHanded_of_change_sized (C := Try.checked) own started (by kernel_rfl) Try.func7
    (ChangeSpec.witness6 (enc := enc) (C := Try.checked) false ⟨#[], #[.string ⟨#[]⟩, .string ⟨#[]⟩], []⟩ 8 (by kernel_rfl) (by kernel_rfl) (by kernel_rfl) (by kernel_rfl)) ?_
  intro W base args ds gs before hval hW _ hz _
  have hW' := hW
  obtain ⟨p, q, hA, hV, rfl, hfz, hnd⟩ := hW
  rw [Try.params7] at hA hval
  obtain ⟨v0, vs0, d0, ds0, p0, q0, hargs0, rfl, rfl, h0, r0⟩ := trodAll_cons hA
  obtain ⟨v1, vs1, d1, ds1, p1, q1, hargs1, rfl, rfl, h1, r1⟩ := trodAll_cons r0
  obtain ⟨rfl, rfl, rfl⟩ := trodAll_nil r1
  subst hargs1
  obtain rfl : args = #[v0, v1] := by cases args; simp_all
  obtain ⟨rfl, rfl⟩ := trodVars_none hV
  obtain ⟨s0, rfl, rfl, rfl, hs0⟩ := string_arg (hval 0 9 v0 rfl rfl) h0
  have hr0 := string_reach hz (j := 0) (s := s0) rfl rfl
  obtain ⟨s1, rfl, rfl, rfl, hs1⟩ := string_arg (hval 1 9 v1 rfl rfl) h1
  have hr1 := string_reach hz (j := 1) (s := s1) rfl rfl
  refine (walk s0 hs0 hr0 s1 hs1 hr1 W).mono fun e W' ⟨he, hb⟩ => ⟨_, he, law_post rfl rfl ?_ hW' rfl hb⟩
  rw [Try.params7]
  exact readable

theorem proved : Rows.EscapeJoinsSaid :=
  OpenClaim.holds_of_wide 7 Try.f7 rfl rfl rfl rfl rfl rfl rfl ⟨rfl, rfl, rfl, rfl, rfl⟩ rfl rfl rfl rfl rfl (by kernel_rfl) Try.func7 (by kernel_rfl)
    (of_decide_eq_true (by kernel_rfl)) (by unfold Func.isWrapper; first | (rw [if_pos (by decide +kernel)]; kernel_rfl) | (rw [if_neg (by decide +kernel)]; exact ⟨rfl, rfl⟩))
    (fun os started H enc _ => lifted os started H enc)
end Go.Proofs.Ytbhipobedijfbaa.joinsLaw
