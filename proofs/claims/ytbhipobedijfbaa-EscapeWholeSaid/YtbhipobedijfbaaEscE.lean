import Derived.Test.YtbhipobedijfbaaLaw
import Derived.OpenShut
import Derived.Lib.SmallJoins
namespace Go.Proofs.Ytbhipobedijfbaa
open Go.ChangeShapes Go.WideShapes Go.ChangeAt Go.RowKit Go.Joins

set_option maxRecDepth 100000 in
/-- an argument that is an element: four texts -/
theorem four_str {H : Type} {enc : TypeId × Value → H} {W : World} {r : Reach} {b0 : Nat} {v : Value} {d : DataW H} {ps : List MemPlace} (hval : Value.okWide Try.prog W r b0 29 v)
    (h : DataW.Trod enc Try.prog W 0 (fun _ => true) true 29 v d ps) (hw : ∀ n ∈ d.weights Try.prog 29, n ≤ reachBytes) :
    ∃ s t u z : ByteArray, v = .agg #[.string s, .string t, .string u, .string z] ∧ s.size ≤ 140737488351232 ∧ t.size ≤ 140737488351232 ∧ u.size ≤ 140737488351232 ∧ z.size ≤ 140737488351232 := by
  obtain ⟨c0, c1, c2, c3, y0, y1, y2, y3, m, rfl, rfl, rfl, h0, h1, h2, h3⟩ := open_agg4 Try.underlying29 (by kernel_rfl) (show Try.prog.cellsOf 29 = 4 by kernel_rfl) hval h
  obtain ⟨s0, hv0, hd0, _⟩ := DataW.trod_string Try.underlying9 h0
  obtain ⟨s1, hv1, hd1, _⟩ := DataW.trod_string Try.underlying9 h1
  obtain ⟨s2, hv2, hd2, _⟩ := DataW.trod_string Try.underlying9 h2
  obtain ⟨s3, hv3, hd3, _⟩ := DataW.trod_string Try.underlying9 h3
  simp only [List.cons.injEq, and_true] at hv0 hv1 hv2 hv3
  subst hv0; subst hv1; subst hv2; subst hv3
  have w0 := hw s0.data.toList.length (by rw [hd0, hd1, hd2, hd3]; simp [DataW.weights, Try.underlying29, DataW.weightsEach])
  have w1 := hw s1.data.toList.length (by rw [hd0, hd1, hd2, hd3]; simp [DataW.weights, Try.underlying29, DataW.weightsEach])
  have w2 := hw s2.data.toList.length (by rw [hd0, hd1, hd2, hd3]; simp [DataW.weights, Try.underlying29, DataW.weightsEach])
  have w3 := hw s3.data.toList.length (by rw [hd0, hd1, hd2, hd3]; simp [DataW.weights, Try.underlying29, DataW.weightsEach])
  have hrb : reachBytes = 140737488351232 := by decide
  rw [Array.length_toList, hrb] at w0 w1 w2 w3
  exact ⟨s0, s1, s2, s3, rfl, w0, w1, w2, w3⟩
end Go.Proofs.Ytbhipobedijfbaa
