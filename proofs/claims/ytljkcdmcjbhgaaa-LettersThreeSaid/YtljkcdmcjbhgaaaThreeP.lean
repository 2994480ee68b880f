/-
  LettersThree: of three texts the order goes on, for any three texts of at most 1048576 bytes together, and true is answered beyond. No conditions: every three strings that can be read.
-/
import Derived.Test.YtljkcdmcjbhgaaaAlive
namespace Go.Proofs.Ytljkcdmcjbhgaaa.threeLaw
open Go.ChangeShapes Go.WideShapes Go.ChangeAt Go.RowKit

set_option maxHeartbeats 1000000 in
theorem walk (a : ByteArray) (_hs : a.size ≤ maxLen) (ha : a.size ≤ 140737488351232) (b : ByteArray) (_ht : b.size ≤ maxLen) (hb : b.size ≤ 140737488351232) (c : ByteArray) (_hu : c.size ≤ maxLen) (hc : c.size ≤ 140737488351232) (w : World) :
    Calls Try.prog 7 #[.string a, .string b, .string c] w fun e w' => e = .returned (.bool true) ∧ Below w.heap.size w w' := by
  have HT := Lib.hid (ord_trans a.data.toList b.data.toList c.data.toList)
  go_enter Try.func7, Try.ntmps7
  go_wp2_with fail
  refine (alive_any _).mono ?_
  rintro e w1 ⟨rfl, hb1⟩
  go_wp2_with fail
  refine (beyond3 _ (a.size : Int) (b.size : Int) (c.size : Int) _ (by simp) (by simp) (by simp) (by omega) (by omega) (by omega)).mono ?_
  rintro e w' ⟨rfl, rfl⟩
  go_wp2_with fail
  · refine (alive_any _).mono ?_
    rintro e w2 ⟨rfl, hb2⟩
    go_wp2
    go_ret
    exact ⟨rfl, behind (behind hb1 (laidNew _ _)) hb2⟩
  · by_cases h1 : 0 < ordL a.data.toList b.data.toList
    · refine (order_any a b _ ha hb).mono ?_
      rintro e w2 ⟨rfl, hb2⟩
      go_wp2
      go_ret
      exact ⟨rfl, behind (behind hb1 (laidNew _ _)) hb2⟩
    · have h1' : ordL a.data.toList b.data.toList ≤ 0 := by omega
      clear h1
      refine (order_any a b _ ha hb).mono ?_
      rintro e w2 ⟨rfl, hb2⟩
      go_wp2_with fail
      by_cases h2 : 0 < ordL b.data.toList c.data.toList
      · refine (order_any b c _ hb hc).mono ?_
        rintro e w3 ⟨rfl, hb3⟩
        go_wp2
        go_ret
        exact ⟨rfl, behind (behind (behind hb1 (laidNew _ _)) hb2) hb3⟩
      · have h2' : ordL b.data.toList c.data.toList ≤ 0 := by omega
        have h3 := HT.out h1' h2'
        clear h2
        refine (order_any b c _ hb hc).mono ?_
        rintro e w3 ⟨rfl, hb3⟩
        go_wp2_with fail
        refine (order_any a c _ ha hc).mono ?_
        rintro e w4 ⟨rfl, hb4⟩
        go_wp2
        go_ret
        exact ⟨rfl, behind (behind (behind (behind hb1 (laidNew _ _)) hb2) hb3) hb4⟩

theorem readable : ∀ t ∈ #[9, 9, 9].toList, Try.prog.readableRec t = true ∧ t < Try.prog.types.size := by
  intro t ht
  obtain rfl : t = 9 := by simpa using ht
  exact ⟨by kernel_rfl, of_decide_eq_true (by kernel_rfl)⟩

theorem lifted (os : Os) (started : os.Started) (H : Type) (enc : TypeId × Value → H) :
    ReturnsInHanded {} Try.checked os 7 .any (Rows.lettersThreeSpec.pre6 enc Try.prog Try.f7 Rows.lettersThreeRow.domain false) (Rows.lettersThreeSpec.post enc Try.prog Try.f7 false true false false) := by
  refine returnsInHanded_of_change_sized (C := Try.checked) own started (by kernel_rfl) Try.func7
    (ChangeSpec.witness6 (enc := enc) (C := Try.checked) false ⟨#[], #[.string ⟨#[]⟩, .string ⟨#[]⟩, .string ⟨#[]⟩], []⟩ 8 (by kernel_rfl) (by kernel_rfl) (by kernel_rfl) (by kernel_rfl)) ?_
  intro W base args ds gs before hval hW _ hz _
  have hW' := hW
  obtain ⟨p, q, hA, hV, rfl, hfz, hnd⟩ := hW
  rw [Try.params7] at hA hval
  obtain ⟨v0, vs0, d0, ds0, p0, q0, hargs0, rfl, rfl, h0, r0⟩ := trodAll_cons hA
  obtain ⟨v1, vs1, d1, ds1, p1, q1, hargs1, rfl, rfl, h1, r1⟩ := trodAll_cons r0
  obtain ⟨v2, vs2, d2, ds2, p2, q2, hargs2, rfl, rfl, h2, r2⟩ := trodAll_cons r1
  obtain ⟨rfl, rfl, rfl⟩ := trodAll_nil r2
  subst hargs1
  subst hargs2
  obtain rfl : args = #[v0, v1, v2] := by cases args; simp_all
  obtain ⟨rfl, rfl⟩ := trodVars_none hV
  obtain ⟨s0, rfl, rfl, rfl, hs0⟩ := string_arg (hval 0 9 v0 rfl rfl) h0
  have hr0 := string_reach hz (j := 0) (s := s0) rfl rfl
  obtain ⟨s1, rfl, rfl, rfl, hs1⟩ := string_arg (hval 1 9 v1 rfl rfl) h1
  have hr1 := string_reach hz (j := 1) (s := s1) rfl rfl
  obtain ⟨s2, rfl, rfl, rfl, hs2⟩ := string_arg (hval 2 9 v2 rfl rfl) h2
  have hr2 := string_reach hz (j := 2) (s := s2) rfl rfl
  refine (walk s0 hs0 hr0 s1 hs1 hr1 s2 hs2 hr2 W).mono fun e W' ⟨he, hb⟩ => ⟨_, he, law_post rfl rfl ?_ hW' rfl hb⟩
  rw [Try.params7]
  exact readable

theorem proved : Rows.LettersThreeSaid :=
  OpenClaim.holds_of_wide 7 Try.f7 rfl rfl rfl rfl rfl rfl rfl ⟨rfl, rfl, rfl, rfl, rfl⟩ rfl rfl rfl rfl rfl (by kernel_rfl) Try.func7 (by kernel_rfl)
    (of_decide_eq_true (by kernel_rfl)) (by unfold Func.isWrapper; first | (rw [if_pos (by decide +kernel)]; kernel_rfl) | (rw [if_neg (by decide +kernel)]; exact ⟨rfl, rfl⟩))
    (fun os started H enc _ => lifted os started H enc)
end Go.Proofs.Ytljkcdmcjbhgaaa.threeLaw
