/-
  DigestJoins: of two texts, one behind the other, it is that of the second one behind the first, alone or behind others, and no bytes change nothing; for any two texts of at most 1048576 bytes together and any number, and true is answered beyond. No conditions: every two strings and every number of 64 bits.
-/
import Derived.Test.YtllpikcfjlibeaaLaw
import Derived.Test.YtllpikcfjlibeaaBeyond
import Derived.Test.YtllpikcfjlibeaaAlive
namespace Go.Proofs.Ytllpikcfjlibeaa.joinsLaw
open Go.ChangeShapes Go.WideShapes Go.ChangeAt Go.RowKit

theorem as_nat (n : Int) (wf : (Lit.int .u64 n).wf = true) : ∃ d : Nat, n = (d : Int) ∧ d < 18446744073709551616 := by
  have h : 0 ≤ n ∧ n ≤ 18446744073709551615 := by simpa [Lit.wf, IntKind.min, IntKind.max, IntKind.signed, IntKind.bits] using wf
  exact ⟨n.toNat, by omega, by omega⟩

set_option maxHeartbeats 1000000 in
theorem walk (a : ByteArray) (hs : a.size ≤ maxLen) (ha : a.size ≤ 140737488351232) (b : ByteArray) (ht : b.size ≤ maxLen) (hb : b.size ≤ 140737488351232) (n : Int) (wf : (Lit.int .u64 n).wf = true) (w : World) :
    Calls Try.prog 5 #[.string a, .string b, .int .u64 n] w fun e w' => e = .returned (.bool true) ∧ Below w.heap.size w w' := by
  obtain ⟨d, rfl, hd⟩ := as_nat n wf
  clear wf
  have hz : (a ++ b).size ≤ maxLen := by rw [ByteArray.size_append]; unfold maxLen; omega
  have hc : (a ++ b).data.toList = a.data.toList ++ b.data.toList := by simp
  have H1 := fun w => of_any (a ++ b) hz w
  have H2 := fun w => of_any a hs w
  have H3 := fun w => more_any (ofD a.data.toList) (ofD_lt _) b ht w
  have H4 := fun w => more_any d hd (a ++ b) hz w
  have H5 := fun w => more_any d hd a hs w
  have H6 := fun w => more_any (moreD d a.data.toList) (moreD_lt d hd _) b ht w
  have H7 := fun w => more_any d hd ⟨#[]⟩ (by decide +kernel) w
  rw [show moreD d (⟨#[]⟩ : ByteArray).data.toList = d from rfl] at H7
  rw [hc] at H1 H4
  rw [show ofD (a.data.toList ++ b.data.toList) = moreD (ofD a.data.toList) b.data.toList from moreD_append _ _ _] at H1
  rw [moreD_append] at H4
  clear hc hz
  have e1 : (((moreD (ofD a.data.toList) b.data.toList : Nat) : Int) == ((moreD (ofD a.data.toList) b.data.toList : Nat) : Int)) = true := by simp
  have e2 : (((moreD (moreD d a.data.toList) b.data.toList : Nat) : Int) == ((moreD (moreD d a.data.toList) b.data.toList : Nat) : Int)) = true := by simp
  have e3 : ((d : Int) == (d : Int)) = true := by simp
  go_enter Try.func5, Try.ntmps5
  go_wp2_with fail
  refine (alive_any w w (Below.refl _ _)).mono ?_
  rintro e w1 ⟨rfl, hb1⟩
  go_wp2_with fail
  refine (beyond2 _ (a.size : Int) (b.size : Int) _ (by simp) (by simp) (by omega) (by omega)).mono ?_
  rintro e w' ⟨rfl, rfl⟩
  go_wp2_with fail
  · refine (alive_any w _ (behind hb1 (laidNew _ _))).mono ?_
    rintro e w2 ⟨rfl, hb2⟩
    go_wp2
    go_ret
    exact ⟨rfl, hb2⟩
  · refine (H1 _).mono ?_
    rintro e w' ⟨rfl, rfl⟩
    go_wp2_with fail
    refine (H2 _).mono ?_
    rintro e w' ⟨rfl, rfl⟩
    go_wp2_with fail
    refine (H3 _).mono ?_
    rintro e w' ⟨rfl, rfl⟩
    go_wp2_with fail
    refine (H4 _).mono ?_
    rintro e w' ⟨rfl, rfl⟩
    go_wp2_with fail
    refine (H5 _).mono ?_
    rintro e w' ⟨rfl, rfl⟩
    go_wp2_with fail
    refine (H6 _).mono ?_
    rintro e w' ⟨rfl, rfl⟩
    go_wp2_with fail
    refine (H7 _).mono ?_
    rintro e w' ⟨rfl, rfl⟩
    go_wp2
    go_ret
    exact ⟨rfl, behind hb1 (laidNew _ _)⟩

theorem readable : ∀ t ∈ #[9, 9, 22].toList, Try.prog.readableRec t = true ∧ t < Try.prog.types.size := by
  intro t ht
  have h : t ∈ ([9, 9, 22] : List TypeId) := ht
  simp only [List.mem_cons, List.not_mem_nil, or_false] at h
  rcases h with rfl | rfl | rfl
  · exact ⟨by kernel_rfl, of_decide_eq_true (by kernel_rfl)⟩
  · exact ⟨by kernel_rfl, of_decide_eq_true (by kernel_rfl)⟩
  · exact ⟨by kernel_rfl, of_decide_eq_true (by kernel_rfl)⟩

theorem lifted (os : Os) (started : os.Started) (H : Type) (enc : TypeId × Value → H) :
    ReturnsInHanded {} Try.checked os 5 .any (Rows.digestJoinsSpec.pre6 enc Try.prog Try.f5 Rows.digestJoinsRow.domain false) (Rows.digestJoinsSpec.post enc Try.prog Try.f5 false true false false) := by
  refine returnsInHanded_of_change_sized (C := Try.checked) own started (by kernel_rfl) Try.func5
    (ChangeSpec.witness6 (enc := enc) (C := Try.checked) false ⟨#[], #[.string ⟨#[]⟩, .string ⟨#[]⟩, .int .u64 0], []⟩ 8 (by kernel_rfl) (by kernel_rfl) (by kernel_rfl) (by kernel_rfl)) ?_
  intro W base args ds gs before hval hW _ hz _
  have hW' := hW
  obtain ⟨p, q, hA, hV, rfl, hfz, hnd⟩ := hW
  rw [Try.params5] at hA hval
  obtain ⟨v0, vs0, d0, ds0, p0, q0, hargs0, rfl, rfl, h0, r0⟩ := trodAll_cons hA
  obtain ⟨v1, vs1, d1, ds1, p1, q1, hargs1, rfl, rfl, h1, r1⟩ := trodAll_cons r0
  obtain ⟨v2, vs2, d2, ds2, p2, q2, hargs2, rfl, rfl, h2, r2⟩ := trodAll_cons r1
  obtain ⟨rfl, rfl, rfl⟩ := trodAll_nil r2
  subst hargs1
  subst hargs2
  obtain rfl : args = #[v0, v1, v2] := by cases args; simp_all
  obtain ⟨rfl, rfl⟩ := trodVars_none hV
  obtain ⟨s0, rfl, rfl, rfl, hs0⟩ := string_arg (hval 0 9 v0 rfl rfl) h0
  have hr0 := string_reach hz (j := 0) (s := s0) rfl rfl
  obtain ⟨s1, rfl, rfl, rfl, hs1⟩ := string_arg (hval 1 9 v1 rfl rfl) h1
  have hr1 := string_reach hz (j := 1) (s := s1) rfl rfl
  obtain ⟨n2, rfl, rfl, rfl, wf2⟩ := open_int Try.underlying22 (hval 2 22 v2 rfl rfl) h2
  refine (walk s0 hs0 hr0 s1 hs1 hr1 n2 wf2 W).mono fun e W' ⟨he, hb⟩ => ⟨_, he, law_post rfl rfl ?_ hW' rfl hb⟩
  rw [Try.params5]
  exact readable

theorem proved : Rows.DigestJoinsSaid :=
  OpenClaim.holds_of_wide 5 Try.f5 rfl rfl rfl rfl rfl rfl rfl ⟨rfl, rfl, rfl, rfl, rfl⟩ rfl rfl rfl rfl rfl (by kernel_rfl) Try.func5 (by kernel_rfl)
    (of_decide_eq_true (by kernel_rfl)) (by unfold Func.isWrapper; first | (rw [if_pos (by decide +kernel)]; kernel_rfl) | (rw [if_neg (by decide +kernel)]; exact ⟨rfl, rfl⟩))
    (fun os started H enc _ => lifted os started H enc)
end Go.Proofs.Ytllpikcfjlibeaa.joinsLaw
