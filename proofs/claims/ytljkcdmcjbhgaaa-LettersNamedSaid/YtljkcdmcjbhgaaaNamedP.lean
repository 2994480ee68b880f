/-
  LettersNamed: a name with a letter, a digit or a hyphen behind it is one, as long as it is not too long; with any other byte it is none; for any text of at most 1048576 bytes and any byte, and true is answered beyond. No conditions: every string and every byte.
-/
import Derived.Test.YtljkcdmcjbhgaaaNamed
namespace Go.Proofs.Ytljkcdmcjbhgaaa.namedLaw
open Go.ChangeShapes Go.WideShapes Go.ChangeAt Go.RowKit

/-- what the walk wants of its two arguments, in a case where all tests are decided -/
theorem cases (s : ByteArray) (c : UInt8) : ∃ m p d : Bool, nameB (s.data.toList ++ [c]) = m ∧ plainB [c] = p ∧ ((c.toNat : Int) == 45) = d ∧ ((nameB s.data.toList = false ∧ s.data.toList = []) ∨ (nameB s.data.toList = false ∧ ¬ s.data.toList = [] ∧ m = false) ∨
    (nameB s.data.toList = true ∧
      ((m = true ∧ p = true ∧ s.data.toList.length < 60) ∨ (m = false ∧ p = true ∧ ¬ s.data.toList.length < 60) ∨ (m = true ∧ p = false ∧ d = true ∧ s.data.toList.length < 60) ∨ (m = false ∧ p = false ∧ d = true ∧ ¬ s.data.toList.length < 60) ∨ (m = false ∧ p = false ∧ d = false)))) := by
  refine ⟨_, _, _, rfl, rfl, rfl, ?_⟩
  cases h : nameB s.data.toList
  · by_cases h0 : s.data.toList = []
    · exact .inl ⟨rfl, h0⟩
    · exact .inr (.inl ⟨rfl, h0, name_snoc_no _ c h h0⟩)
  · refine .inr (.inr ⟨rfl, ?_⟩)
    rw [name_snoc_yes _ c h, plain_one]
    unfold nmB alnum
    cases isA (c.toNat : Int) <;> by_cases hd : (c.toNat : Int) = 45 <;> simp [hd] <;> omega

theorem low_size (s : ByteArray) : (ByteArray.mk (lowL s.data.toList).toArray).size = s.size := by
  show ((lowL s.data.toList).toArray).size = s.data.size
  rw [List.size_toArray]; unfold lowL; rw [List.length_map, Array.length_toList]

theorem plain_c (c : UInt8) (r : Bool) (w : World) (h : plainB [c] = r) : Calls Try.prog 19 #[.string ⟨#[c]⟩] w fun e w' => e = .returned (.bool r) ∧ w = w' := by
  subst h; exact plain_any ⟨#[c]⟩ w (by unfold maxLen; show 1 ≤ _; decide)

set_option maxHeartbeats 1000000 in
theorem walk (s : ByteArray) (hs : s.size ≤ maxLen) (hr : s.size ≤ 140737488351232) (n : Int) (wf : (Lit.int .u8 n).wf = true) (w : World) :
    Calls Try.prog 9 #[.string s, .int .u8 n] w fun e w' => e = .returned (.bool true) ∧ Below w.heap.size w w' := by
  obtain ⟨c, rfl⟩ := byte_of wf
  have hk := fun (W : World) => conv_one W c
  go_enter Try.func9, Try.ntmps9
  go_wp2_with fail
  refine (alive_any _).mono ?_
  rintro e w1 ⟨rfl, hb1⟩
  go_wp2_with fail
  refine (beyond1 _ (s.size : Int) _ (by simp) (by omega)).mono ?_
  rintro e w2 ⟨rfl, hw2⟩
  have hb2 : Below w.heap.size w w2 := by rw [← hw2]; exact behind hb1 (laidNew _ _)
  clear hw2 hb1
  go_wp2_with fail
  · refine (alive_any _).mono ?_
    rintro e w3 ⟨rfl, hb3⟩
    go_wp2
    go_ret
    exact ⟨rfl, behind hb2 hb3⟩
  · have hs1 : (s ++ { data := #[c] }).size ≤ maxLen := by rw [cat_size]; unfold maxLen; have : (ByteArray.mk #[c]).size = 1 := rfl; omega
    have hd1 : (s ++ { data := #[c] }).data.toList = s.data.toList ++ [c] := by rw [cat_data]
    obtain ⟨m, p, d, h3, h4, h5, h6⟩ := cases s c
    have H3 : Hid (nameB (s ++ { data := #[c] }).data.toList = m) := by exact Lib.hid (by rw [hd1]; exact h3)
    have H4 := Lib.hid h4
    have H5 := Lib.hid h5
    clear h3 h4 h5
    have HS1 := Lib.hid hs1
    clear hs1 hd1
    rcases h6 with ⟨h1, h2⟩ | ⟨h1, h2, rfl⟩ | ⟨h1, h6⟩
    · have h2' : s.toList = [] := by rw [Lib.toList_data]; exact h2
      have H1 := Lib.hid h1
      clear h1 h2
      cases p <;> cases d
      all_goals have h5 := H5.out
      all_goals refine (name_c _ m _ HS1.out H3.out).mono ?_
      all_goals (rintro e w3 ⟨rfl, hw3⟩; have hb3 : Below w.heap.size w w3 := by rw [← hw3]; exact behind hb2 (laidNew _ _))
      all_goals clear hw3
      all_goals go_wp2_with fail
      all_goals refine (plain_c c _ _ H4.out).mono ?_
      all_goals (rintro e w4 ⟨rfl, hw4⟩; have hb4 : Below w.heap.size w w4 := by rw [← hw4]; exact behind hb3 (laidNew _ _))
      all_goals clear hw4
      all_goals go_wp2_with fail
      all_goals refine (name_c s false _ hs H1.out).mono ?_
      all_goals rintro e w5 ⟨rfl, rfl⟩
      all_goals go_wp2
      all_goals go_ret
      all_goals first | exact ⟨rfl, hb4⟩ | exact ⟨ret_bool (by simp), hb4⟩
    · have h2' : ¬ s.toList = [] := by rw [Lib.toList_data]; exact h2
      have H1 := Lib.hid h1
      clear h1 h2
      cases p <;> cases d
      all_goals have h5 := H5.out
      all_goals refine (name_c _ false _ HS1.out H3.out).mono ?_
      all_goals (rintro e w3 ⟨rfl, hw3⟩; have hb3 : Below w.heap.size w w3 := by rw [← hw3]; exact behind hb2 (laidNew _ _))
      all_goals clear hw3
      all_goals go_wp2_with fail
      all_goals refine (plain_c c _ _ H4.out).mono ?_
      all_goals (rintro e w4 ⟨rfl, hw4⟩; have hb4 : Below w.heap.size w w4 := by rw [← hw4]; exact behind hb3 (laidNew _ _))
      all_goals clear hw4
      all_goals go_wp2_with fail
      all_goals refine (name_c s false _ hs H1.out).mono ?_
      all_goals rintro e w5 ⟨rfl, rfl⟩
      all_goals go_wp2
      all_goals go_ret
      all_goals exact ⟨rfl, hb4⟩
    · have H1 := Lib.hid h1
      have hl : s.data.toList.length = s.size := by simp
      have HS2 := Lib.hid (show ({ data := #[45] } ++ s : ByteArray).size ≤ maxLen from by rw [cat_size]; unfold maxLen; have : (ByteArray.mk #[45]).size = 1 := rfl; omega)
      have HS3 := Lib.hid (show ({ data := #[49] } ++ s : ByteArray).size ≤ maxLen from by rw [cat_size]; unfold maxLen; have : (ByteArray.mk #[49]).size = 1 := rfl; omega)
      have HN2 := Lib.hid (show nameB ({ data := #[45] } ++ s : ByteArray).data.toList = false from by rw [cat_data]; exact name_hyphen _)
      have HN3 := Lib.hid (show nameB ({ data := #[49] } ++ s : ByteArray).data.toList = false from by rw [cat_data]; exact name_one _)
      have HN4 := Lib.hid (show nameB (ByteArray.mk (lowL s.data.toList).toArray).data.toList = true from by rw [data_eq]; exact name_low _ h1)
      have HS4 := Lib.hid (show (ByteArray.mk (lowL s.data.toList).toArray).size ≤ maxLen from by rw [low_size]; exact hs)
      rw [hl] at h6
      clear h1 hl
      rcases h6 with ⟨rfl, rfl, h7⟩ | ⟨rfl, rfl, h7⟩ | ⟨rfl, rfl, rfl, h7⟩ | ⟨rfl, rfl, rfl, h7⟩ | ⟨rfl, rfl, rfl⟩
      all_goals have h5 := H5.out
      all_goals refine (name_c _ _ _ HS1.out H3.out).mono ?_
      all_goals (rintro e w3 ⟨rfl, hw3⟩; have hb3 : Below w.heap.size w w3 := by rw [← hw3]; exact behind hb2 (laidNew _ _))
      all_goals clear hw3
      all_goals go_wp2_with fail
      all_goals refine (plain_c c _ _ H4.out).mono ?_
      all_goals (rintro e w4 ⟨rfl, hw4⟩; have hb4 : Below w.heap.size w w4 := by rw [← hw4]; exact behind hb3 (laidNew _ _))
      all_goals clear hw4
      all_goals go_wp2_with fail
      all_goals refine (name_c s true _ hs H1.out).mono ?_
      all_goals rintro e w5 ⟨rfl, rfl⟩
      all_goals go_wp2_with fail
      all_goals refine (name_c _ false _ HS2.out HN2.out).mono ?_
      all_goals rintro e w5 ⟨rfl, rfl⟩
      all_goals go_wp2_with fail
      all_goals refine (name_c _ false _ HS3.out HN3.out).mono ?_
      all_goals rintro e w5 ⟨rfl, rfl⟩
      all_goals go_wp2_with fail
      all_goals refine (lower_any s _ hs).mono ?_
      all_goals rintro e w6 ⟨rfl, hb6⟩
      all_goals go_wp2_with fail
      all_goals refine (name_c _ true _ HS4.out HN4.out).mono ?_
      all_goals rintro e w7 ⟨rfl, rfl⟩
      all_goals go_wp2
      all_goals go_ret
      all_goals first | exact ⟨rfl, behind hb4 hb6⟩ | exact ⟨ret_bool (by simp; omega), behind hb4 hb6⟩

theorem readable : ∀ t ∈ #[9, 5].toList, Try.prog.readableRec t = true ∧ t < Try.prog.types.size := by
  intro t ht
  have h : t ∈ ([9, 5] : List TypeId) := ht
  simp only [List.mem_cons, List.not_mem_nil, or_false] at h
  rcases h with rfl | rfl
  · exact ⟨by kernel_rfl, of_decide_eq_true (by kernel_rfl)⟩
  · exact ⟨by kernel_rfl, of_decide_eq_true (by kernel_rfl)⟩

theorem lifted (os : Os) (started : os.Started) (H : Type) (enc : TypeId × Value → H) :
    ReturnsInHanded {} Try.checked os 9 .any (Rows.lettersNamedSpec.pre6 enc Try.prog Try.f9 Rows.lettersNamedRow.domain false) (Rows.lettersNamedSpec.post enc Try.prog Try.f9 false true false false) := by
  refine returnsInHanded_of_change_sized (C := Try.checked) own started (by kernel_rfl) Try.func9
    (ChangeSpec.witness6 (enc := enc) (C := Try.checked) false ⟨#[], #[.string ⟨#[]⟩, .int .u8 0], []⟩ 8 (by kernel_rfl) (by kernel_rfl) (by kernel_rfl) (by kernel_rfl)) ?_
  intro W base args ds gs before hval hW _ hz _
  have hW' := hW
  obtain ⟨p, q, hA, hV, rfl, hfz, hnd⟩ := hW
  rw [Try.params9] at hA hval
  obtain ⟨v0, vs0, d0, ds0, p0, q0, hargs0, rfl, rfl, h0, r0⟩ := trodAll_cons hA
  obtain ⟨v1, vs1, d1, ds1, p1, q1, hargs1, rfl, rfl, h1, r1⟩ := trodAll_cons r0
  obtain ⟨rfl, rfl, rfl⟩ := trodAll_nil r1
  subst hargs1
  obtain rfl : args = #[v0, v1] := by cases args; simp_all
  obtain ⟨rfl, rfl⟩ := trodVars_none hV
  obtain ⟨s0, rfl, rfl, rfl, hs0⟩ := string_arg (hval 0 9 v0 rfl rfl) h0
  have hr0 := string_reach hz (j := 0) (s := s0) rfl rfl
  obtain ⟨n1, rfl, rfl, rfl, wf1⟩ := open_int Try.underlying5 (hval 1 5 v1 rfl rfl) h1
  refine (walk s0 hs0 hr0 n1 wf1 W).mono fun e W' ⟨he, hb⟩ => ⟨_, he, law_post rfl rfl ?_ hW' rfl hb⟩
  rw [Try.params9]
  exact readable

theorem proved : Rows.LettersNamedSaid :=
  OpenClaim.holds_of_wide 9 Try.f9 rfl rfl rfl rfl rfl rfl rfl ⟨rfl, rfl, rfl, rfl, rfl⟩ rfl rfl rfl rfl rfl (by kernel_rfl) Try.func9 (by kernel_rfl)
    (of_decide_eq_true (by kernel_rfl)) (by unfold Func.isWrapper; first | (rw [if_pos (by decide +kernel)]; kernel_rfl) | (rw [if_neg (by decide +kernel)]; exact ⟨rfl, rfl⟩))
    (fun os started H enc _ => lifted os started H enc)
end Go.Proofs.Ytljkcdmcjbhgaaa.namedLaw
