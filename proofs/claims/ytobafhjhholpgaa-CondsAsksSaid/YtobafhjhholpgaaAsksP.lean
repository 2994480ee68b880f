/-
  CondsAsks: what any condition asks for, and whether it holds, are just those that the document's own answer gives, or it is refused; the attributes stay as they were, their spare room too; where the list is at most 1000 long and all texts have at most 100000 bytes, and true is answered beyond. No conditions: every list of attributes and every string.
-/
import Derived.Test.YtobafhjhholpgaaLaw
import Derived.Test.YtobafhjhholpgaaLeft
import Derived.Test.YtobafhjhholpgaaArg
import Derived.Test.YtobafhjhholpgaaCondsC
namespace Go.Proofs.Ytobafhjhholpgaa.asksLaw
open Go.ChangeShapes Go.WideShapes Go.ChangeAt Go.RowKit

set_option maxHeartbeats 2000000 in
theorem walk (w : World) (v : Value) (l : List At) (hA : Attrs w v l) (s : ByteArray) (hs : s.size ≤ maxLen) (hr : s.size ≤ 140737488351232) :
    Calls Try.prog 4 #[v, .string s] w fun e w' => e = .returned (.bool true) ∧ Below w.heap.size w w' := by
  rcases hg : askL l s.data.toList with _ | ⟨nm, b⟩
  all_goals
    go_enter Try.func4, Try.ntmps4
    go_wp2_with fail
    refine (great_any v l s w hA hr).mono ?_
    rintro e w1 ⟨g, rfl, hsm, q, hw1⟩
    have hb1 : Below w.heap.size w w1 := by rw [hw1]; exact below_drewN (Below.refl _ _) q
    clear hw1
    cases g with
    | true =>
      go_wp2
      go_ret
      exact ⟨rfl, hb1⟩
    | false =>
      obtain ⟨⟨hl1, _⟩, _⟩ := hsm rfl
      have hA1 := hA.below hb1
      go_wp2_with fail
      refine (twinAttrs_any v l w1 hA1 hl1).mono ?_
      rintro e w2 ⟨t, rfl, hT, hb2⟩
      have hA2 := hA1.below hb2
      have hbb2 := behind hb1 hb2
      go_wp2_with fail
      refine (ask_c t l s w w2 hbb2 hT.attrs hr).mono ?_
      rintro e w3 ⟨rfl, hbb3, hb3⟩
      rw [hg]
      unfold askV
      have hT3 := hT.below hb3
      have hA3 := hA2.below hb3
      go_wp2_with fail
      refine (refAsk_any v l s w3 hA3 hs).mono ?_
      rintro e w4 ⟨rfl, q2, hw4⟩
      rw [hg]
      unfold askV
      have hb4 : Below w3.heap.size w3 w4 := by rw [hw4]; exact below_drewN (Below.refl _ _) q2
      clear hw4
      have hT4 := hT3.below hb4
      have hA4 := hA3.below hb4
      go_wp2_with fail
      refine (leftAttrs_any t v _ l w4 hT4 hA4).mono ?_
      rintro e w5 ⟨rfl, hb5⟩
      go_wp2
      go_ret
      exact ⟨rfl, behind (behind hbb3 hb4) hb5⟩

theorem readable : ∀ t ∈ #[22, 9].toList, Try.prog.readableRec t = true ∧ t < Try.prog.types.size := by
  intro t ht
  have h : t ∈ ([22, 9] : List TypeId) := ht
  simp only [List.mem_cons, List.not_mem_nil, or_false] at h
  rcases h with rfl | rfl
  · exact ⟨by kernel_rfl, of_decide_eq_true (by kernel_rfl)⟩
  · exact ⟨by kernel_rfl, of_decide_eq_true (by kernel_rfl)⟩

theorem lifted (os : Os) (started : os.Started) (H : Type) (enc : TypeId × Value → H) :
    ReturnsInHanded {} Try.checked os 4 .any (Rows.condsAsksSpec.pre6 enc Try.prog Try.f4 Rows.condsAsksRow.domain false) (Rows.condsAsksSpec.post enc Try.prog Try.f4 false true false false) := by
  refine returnsInHanded_of_change_sized (C := Try.checked) own started (by kernel_rfl) Try.func4
    (ChangeSpec.witness6 (enc := enc) (C := Try.checked) false ⟨#[], #[.slice none 0 0, .string ⟨#[]⟩], []⟩ 8 (by kernel_rfl) (by kernel_rfl) (by kernel_rfl) (by kernel_rfl)) ?_
  intro W base args ds gs before hval hW _ hz _
  have hW' := hW
  obtain ⟨p, q, hA, hV, rfl, hfz, hnd⟩ := hW
  rw [Try.params4] at hA hval
  obtain ⟨v0, vs0, d0, ds0, p0, q0, hargs0, rfl, rfl, h0, r0⟩ := trodAll_cons hA
  obtain ⟨v1, vs1, d1, ds1, p1, q1, hargs1, rfl, rfl, h1, r1⟩ := trodAll_cons r0
  obtain ⟨rfl, rfl, rfl⟩ := trodAll_nil r1
  subst hargs1
  obtain rfl : args = #[v0, v1] := by cases args; simp_all
  obtain ⟨rfl, rfl⟩ := trodVars_none hV
  obtain ⟨l0, hA0⟩ := attrs_arg (hval 0 22 v0 rfl rfl) h0 (fun n hn => by have := List.all_eq_true.1 hz n (DataW.weights_mem_each (j := 0) rfl rfl n hn); simpa using this)
  obtain ⟨s1, rfl, rfl, rfl, hs1⟩ := string_arg (hval 1 9 v1 rfl rfl) h1
  have hr1 := string_reach hz (j := 1) (s := s1) rfl rfl
  refine (walk W v0 l0 hA0 s1 hs1 hr1).mono fun e W' ⟨he, hb⟩ => ⟨_, he, law_post rfl rfl ?_ hW' rfl hb⟩
  rw [Try.params4]
  exact readable

theorem proved : Rows.CondsAsksSaid :=
  OpenClaim.holds_of_wide 4 Try.f4 rfl rfl rfl rfl rfl rfl rfl ⟨rfl, rfl, rfl, rfl, rfl⟩ rfl rfl rfl rfl rfl (by kernel_rfl) Try.func4 (by kernel_rfl)
    (of_decide_eq_true (by kernel_rfl)) (by unfold Func.isWrapper; first | (rw [if_pos (by decide +kernel)]; kernel_rfl) | (rw [if_neg (by decide +kernel)]; exact ⟨rfl, rfl⟩))
    (fun os started H enc _ => lifted os started H enc)
end Go.Proofs.Ytobafhjhholpgaa.asksLaw
