/-
  LettersTurned: the order of two texts the other way about is the negative, lies between -1 and 1, and is 0 for the same text alone, for any two texts of at most 1048576 bytes together, and true is answered beyond. No conditions: every two strings that can be read.
-/
import Derived.Test.YtljkcdmcjbhgaaaAlive
namespace Go.Proofs.Ytljkcdmcjbhgaaa.turnedLaw
open Go.ChangeShapes Go.WideShapes Go.ChangeAt Go.RowKit

theorem data_inj {a b : ByteArray} (h : a.data.toList = b.data.toList) : a = b := by
  apply ByteArray.ext; exact Array.toList_inj.1 h

set_option maxHeartbeats 1000000 in
theorem walk (a : ByteArray) (_hs : a.size ≤ maxLen) (ha : a.size ≤ 140737488351232) (b : ByteArray) (_ht : b.size ≤ maxLen) (hb : b.size ≤ 140737488351232) (w : World) :
    Calls Try.prog 6 #[.string a, .string b] w fun e w' => e = .returned (.bool true) ∧ Below w.heap.size w w' := by
  have HR := Lib.hid (ord_range a.data.toList b.data.toList)
  have HZ := Lib.hid (ord_zero a.data.toList b.data.toList)
  have HS := Lib.hid (ord_swap a.data.toList b.data.toList)
  go_enter Try.func6, Try.ntmps6
  go_wp2_with fail
  refine (alive_any _).mono ?_
  rintro e w1 ⟨rfl, hb1⟩
  go_wp2_with fail
  refine (beyond2 _ (a.size : Int) (b.size : Int) _ (by simp) (by simp) (by omega) (by omega)).mono ?_
  rintro e w' ⟨rfl, rfl⟩
  go_wp2_with fail
  · refine (alive_any _).mono ?_
    rintro e w2 ⟨rfl, hb2⟩
    go_wp2
    go_ret
    exact ⟨rfl, behind (behind hb1 (laidNew _ _)) hb2⟩
  · rcases HR.out with h | h | h
    · have hne : ¬ a.toList = b.toList := by
        rw [Lib.toList_data, Lib.toList_data]; intro e; rw [HZ.out.2 e] at h; cases h
      refine (order_c a b (-1) _ ha hb h).mono ?_
      rintro e w2 ⟨rfl, hb2⟩
      go_wp2_with fail
      refine (order_c b a 1 _ hb ha (by rw [HS.out, h]; rfl)).mono ?_
      rintro e w3 ⟨rfl, hb3⟩
      go_wp2_with fail
      refine (order_c a a 0 _ ha ha (ord_self _)).mono ?_
      rintro e w4 ⟨rfl, hb4⟩
      go_wp2
      go_ret
      exact ⟨ret_bool (by simp [hne]), behind (behind (behind (behind hb1 (laidNew _ _)) hb2) hb3) hb4⟩
    · obtain rfl : a = b := data_inj (HZ.out.1 h)
      refine (order_c a a 0 _ ha hb h).mono ?_
      rintro e w2 ⟨rfl, hb2⟩
      go_wp2_with fail
      refine (order_c a a 0 _ hb ha h).mono ?_
      rintro e w3 ⟨rfl, hb3⟩
      go_wp2_with fail
      refine (order_c a a 0 _ ha ha h).mono ?_
      rintro e w4 ⟨rfl, hb4⟩
      go_wp2
      go_ret
      exact ⟨rfl, behind (behind (behind (behind hb1 (laidNew _ _)) hb2) hb3) hb4⟩
    · have hne : ¬ a.toList = b.toList := by
        rw [Lib.toList_data, Lib.toList_data]; intro e; rw [HZ.out.2 e] at h; cases h
      refine (order_c a b 1 _ ha hb h).mono ?_
      rintro e w2 ⟨rfl, hb2⟩
      go_wp2_with fail
      refine (order_c b a (-1) _ hb ha (by rw [HS.out, h])).mono ?_
      rintro e w3 ⟨rfl, hb3⟩
      go_wp2_with fail
      refine (order_c a a 0 _ ha ha (ord_self _)).mono ?_
      rintro e w4 ⟨rfl, hb4⟩
      go_wp2
      go_ret
      exact ⟨ret_bool (by simp [hne]), behind (behind (behind (behind hb1 (laidNew _ _)) hb2) hb3) hb4⟩

theorem readable : ∀ t ∈ #[9, 9].toList, Try.prog.readableRec t = true ∧ t < Try.prog.types.size := by
  intro t ht
  obtain rfl : t = 9 := by simpa using ht
  exact ⟨by kernel_rfl, of_decide_eq_true (by kernel_rfl)⟩

theorem lifted (os : Os) (started : os.Started) (H : Type) (enc : TypeId × Value → H) :
    ReturnsInHanded {} Try.checked os 6 .any (Rows.lettersTurnedSpec.pre6 enc Try.prog Try.f6 Rows.lettersTurnedRow.domain false) (Rows.lettersTurnedSpec.post enc Try.prog Try.f6 false true false false) := by
  refine returnsInHanded_of_change_sized (C := Try.checked) own started (by kernel_rfl) Try.func6
    (ChangeSpec.witness6 (enc := enc) (C := Try.checked) false ⟨#[], #[.string ⟨#[]⟩, .string ⟨#[]⟩], []⟩ 8 (by kernel_rfl) (by kernel_rfl) (by kernel_rfl) (by kernel_rfl)) ?_
  intro W base args ds gs before hval hW _ hz _
  have hW' := hW
  obtain ⟨p, q, hA, hV, rfl, hfz, hnd⟩ := hW
  rw [Try.params6] at hA hval
  obtain ⟨v0, vs0, d0, ds0, p0, q0, hargs0, rfl, rfl, h0, r0⟩ := trodAll_cons hA
  obtain ⟨v1, vs1, d1, ds1, p1, q1, hargs1, rfl, rfl, h1, r1⟩ := trodAll_cons r0
  obtain ⟨rfl, rfl, rfl⟩ := trodAll_nil r1
  subst hargs1
  obtain rfl : args = #[v0, v1] := by cases args; simp_all
  obtain ⟨rfl, rfl⟩ := trodVars_none hV
  obtain ⟨s0, rfl, rfl, rfl, hs0⟩ := string_arg (hval 0 9 v0 rfl rfl) h0
  have hr0 := string_reach hz (j := 0) (s := s0) rfl rfl
  obtain ⟨s1, rfl, rfl, rfl, hs1⟩ := string_arg (hval 1 9 v1 rfl rfl) h1
  have hr1 := string_reach hz (j := 1) (s := s1) rfl rfl
  refine (walk s0 hs0 hr0 s1 hs1 hr1 W).mono fun e W' ⟨he, hb⟩ => ⟨_, he, law_post rfl rfl ?_ hW' rfl hb⟩
  rw [Try.params6]
  exact readable

theorem proved : Rows.LettersTurnedSaid :=
  OpenClaim.holds_of_wide 6 Try.f6 rfl rfl rfl rfl rfl rfl rfl ⟨rfl, rfl, rfl, rfl, rfl⟩ rfl rfl rfl rfl rfl (by kernel_rfl) Try.func6 (by kernel_rfl)
    (of_decide_eq_true (by kernel_rfl)) (by unfold Func.isWrapper; first | (rw [if_pos (by decide +kernel)]; kernel_rfl) | (rw [if_neg (by decide +kernel)]; exact ⟨rfl, rfl⟩))
    (fun os started H enc _ => lifted os started H enc)
end Go.Proofs.Ytljkcdmcjbhgaaa.turnedLaw
