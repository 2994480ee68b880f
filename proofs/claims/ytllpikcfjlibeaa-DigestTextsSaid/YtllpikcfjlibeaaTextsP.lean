/-
  DigestTexts: the text of any number, and the number of any text, are just those that the document's own answers give, for any text of at most 1048576 bytes, and true is answered beyond. No conditions: every number of 64 bits and every string.
-/
import Derived.Test.YtllpikcfjlibeaaLaw
import Derived.Test.YtllpikcfjlibeaaBeyond
import Derived.Test.YtllpikcfjlibeaaRefParse
namespace Go.Proofs.Ytllpikcfjlibeaa.textsLaw
open Go.ChangeShapes Go.WideShapes Go.ChangeAt Go.RowKit

theorem as_nat (n : Int) (wf : (Lit.int .u64 n).wf = true) : ∃ d : Nat, n = (d : Int) ∧ d < 18446744073709551616 := by
  have h : 0 ≤ n ∧ n ≤ 18446744073709551615 := by simpa [Lit.wf, IntKind.min, IntKind.max, IntKind.signed, IntKind.bits] using wf
  exact ⟨n.toNat, by omega, by omega⟩

set_option maxHeartbeats 1000000 in
theorem walk (n : Int) (wf : (Lit.int .u64 n).wf = true) (s : ByteArray) (_hs : s.size ≤ maxLen) (hr : s.size ≤ 140737488351232) (w : World) :
    Calls Try.prog 4 #[.int .u64 n, .string s] w fun e w' => e = .returned (.bool true) ∧ Below w.heap.size w w' := by
  obtain ⟨d, rfl, hd⟩ := as_nat n wf
  clear wf
  obtain ⟨t, ht⟩ : ∃ t : ByteArray, t = ⟨(textD d).toArray⟩ := ⟨_, rfl⟩
  have HT := fun W w hb => text_any d hd W w hb
  have HR := fun w => refText_any d hd w
  rw [← ht] at HT HR
  clear ht
  have hb1 : (t.toList == t.toList) = true := by simp
  have HP := fun W w hb => parse_any s W w hb
  have HQ := fun w => refParse_any s w
  cases hv : parseD s.data.toList with
  | none =>
    rw [hv] at HP HQ
    go_enter Try.func4, Try.ntmps4
    go_wp2_with fail
    refine (beyond1 _ (s.size : Int) _ (by simp) (by omega)).mono ?_
    rintro e w' ⟨rfl, rfl⟩
    go_wp2_with fail
    · go_ret
      exact ⟨rfl, laidNew _ _⟩
    · refine (HP w _ (laidNew _ _)).mono ?_
      rintro e w1 ⟨rfl, hb1⟩
      unfold ansV
      go_wp2_with fail
      refine (HQ _).mono ?_
      rintro e w' ⟨rfl, rfl⟩
      unfold ansV
      go_wp2_with fail
      refine (HT w _ hb1).mono ?_
      rintro e w2 ⟨rfl, hb2⟩
      go_wp2_with fail
      refine (HR _).mono ?_
      rintro e w' ⟨rfl, rfl⟩
      go_wp2
      go_ret
      exact ⟨rfl, hb2⟩
  | some m =>
    rw [hv] at HP HQ
    have hm : ((m : Int) == (m : Int)) = true := by simp
    go_enter Try.func4, Try.ntmps4
    go_wp2_with fail
    refine (beyond1 _ (s.size : Int) _ (by simp) (by omega)).mono ?_
    rintro e w' ⟨rfl, rfl⟩
    go_wp2_with fail
    · go_ret
      exact ⟨rfl, laidNew _ _⟩
    · refine (HP w _ (laidNew _ _)).mono ?_
      rintro e w1 ⟨rfl, hb1⟩
      unfold ansV
      go_wp2_with fail
      refine (HQ _).mono ?_
      rintro e w' ⟨rfl, rfl⟩
      unfold ansV
      go_wp2_with fail
      refine (HT w _ hb1).mono ?_
      rintro e w2 ⟨rfl, hb2⟩
      go_wp2_with fail
      refine (HR _).mono ?_
      rintro e w' ⟨rfl, rfl⟩
      go_wp2
      go_ret
      exact ⟨rfl, hb2⟩

theorem readable : ∀ t ∈ #[22, 9].toList, Try.prog.readableRec t = true ∧ t < Try.prog.types.size := by
  intro t ht
  have h : t ∈ ([22, 9] : List TypeId) := ht
  simp only [List.mem_cons, List.not_mem_nil, or_false] at h
  rcases h with rfl | rfl
  · exact ⟨by kernel_rfl, of_decide_eq_true (by kernel_rfl)⟩
  · exact ⟨by kernel_rfl, of_decide_eq_true (by kernel_rfl)⟩

theorem lifted (os : Os) (started : os.Started) (H : Type) (enc : TypeId × Value → H) :
    ReturnsInHanded {} Try.checked os 4 .any (Rows.digestTextsSpec.pre6 enc Try.prog Try.f4 Rows.digestTextsRow.domain false) (Rows.digestTextsSpec.post enc Try.prog Try.f4 false true false false) := by
  refine returnsInHanded_of_change_sized (C := Try.checked) own started (by kernel_rfl) Try.func4
    (ChangeSpec.witness6 (enc := enc) (C := Try.checked) false ⟨#[], #[.int .u64 0, .string ⟨#[]⟩], []⟩ 8 (by kernel_rfl) (by kernel_rfl) (by kernel_rfl) (by kernel_rfl)) ?_
  intro W base args ds gs before hval hW _ hz _
  have hW' := hW
  obtain ⟨p, q, hA, hV, rfl, hfz, hnd⟩ := hW
  rw [Try.params4] at hA hval
  obtain ⟨v0, vs0, d0, ds0, p0, q0, hargs0, rfl, rfl, h0, r0⟩ := trodAll_cons hA
  obtain ⟨v1, vs1, d1, ds1, p1, q1, hargs1, rfl, rfl, h1, r1⟩ := trodAll_cons r0
  obtain ⟨rfl, rfl, rfl⟩ := trodAll_nil r1
  subst hargs1
  obtain rfl : args = #[v0, v1] := by cases args; simp_all
  obtain ⟨rfl, rfl⟩ := trodVars_none hV
  obtain ⟨n0, rfl, rfl, rfl, wf0⟩ := open_int Try.underlying22 (hval 0 22 v0 rfl rfl) h0
  obtain ⟨s1, rfl, rfl, rfl, hs1⟩ := string_arg (hval 1 9 v1 rfl rfl) h1
  have hr1 := string_reach hz (j := 1) (s := s1) rfl rfl
  refine (walk n0 wf0 s1 hs1 hr1 W).mono fun e W' ⟨he, hb⟩ => ⟨_, he, law_post rfl rfl ?_ hW' rfl hb⟩
  rw [Try.params4]
  exact readable

theorem proved : Rows.DigestTextsSaid :=
  OpenClaim.holds_of_wide 4 Try.f4 rfl rfl rfl rfl rfl rfl rfl ⟨rfl, rfl, rfl, rfl, rfl⟩ rfl rfl rfl rfl rfl (by kernel_rfl) Try.func4 (by kernel_rfl)
    (of_decide_eq_true (by kernel_rfl)) (by unfold Func.isWrapper; first | (rw [if_pos (by decide +kernel)]; kernel_rfl) | (rw [if_neg (by decide +kernel)]; exact ⟨rfl, rfl⟩))
    (fun os started H enc _ => lifted os started H enc)
end Go.Proofs.Ytllpikcfjlibeaa.textsLaw
