import Derived.Test.YtcdlleeonfnamaaArg
import Derived.OpenShut
namespace Go.Proofs.Ytcdlleeonfnamaa
open Go.ChangeShapes Go.WideShapes Go.ChangeAt Go.RowKit Go.Deep

set_option maxRecDepth 100000 in
/-- an argument that is an array of two texts -/
theorem pair_str {H : Type} {enc : TypeId × Value → H} {W : World} {r : Reach} {b0 : Nat} {v : Value} {d : DataW H} {ps : List MemPlace} (hval : Value.okWide Try.prog W r b0 23 v)
    (h : DataW.Trod enc Try.prog W 0 (fun _ => true) true 23 v d ps) (hw : ∀ n ∈ d.weights Try.prog 23, n ≤ reachBytes) :
    ∃ s t : ByteArray, v = .agg #[.string s, .string t] ∧ s.size ≤ 140737488351232 ∧ t.size ≤ 140737488351232 := by
  have hc2 : Try.prog.cellsOf 23 = 2 := by kernel_rfl
  have hc1 : Try.prog.cellsOf 9 = 1 := by kernel_rfl
  unfold Value.okWide at hval
  rw [Try.underlying23] at hval
  obtain ⟨⟨cs⟩, rfl, hsz, _⟩ := hval
  rw [hc2] at hsz
  obtain ⟨fuel, hf⟩ := h
  match cs, hsz with
  | [c0, c1], _ =>
    obtain ⟨xs, m, _, hx, hcl, hxl, hi⟩ := DataW.trod_array Try.underlying23 hf
    rw [hc1] at hi
    match xs, hxl with
    | [y0, y1], _ =>
      have i0 := hi 0 (by decide)
      have i1 := hi 1 (by decide)
      have e0 : (Value.agg ⟨[c0, c1]⟩).cells.toList = [c0, c1] := rfl
      rw [e0] at i0 i1
      obtain ⟨s0, hv0, hd0, _⟩ := DataW.trod_string Try.underlying9 (show DataW.trod enc Try.prog W 0 (fun _ => true) true m 9 [c0] = some y0 from i0)
      obtain ⟨s1, hv1, hd1, _⟩ := DataW.trod_string Try.underlying9 (show DataW.trod enc Try.prog W 0 (fun _ => true) true m 9 [c1] = some y1 from i1)
      simp only [List.cons.injEq, and_true] at hv0 hv1
      subst hv0; subst hv1
      have hdx : d = .agg [y0.1, y1.1] := by injection hx
      have w0 := hw s0.data.toList.length (by rw [hdx, hd0, hd1]; simp [DataW.weights, Try.underlying23, DataW.weightsAll])
      have w1 := hw s1.data.toList.length (by rw [hdx, hd0, hd1]; simp [DataW.weights, Try.underlying23, DataW.weightsAll])
      have hrb : reachBytes = 140737488351232 := by decide
      rw [Array.length_toList, hrb] at w0 w1
      exact ⟨s0, s1, rfl, w0, w1⟩
end Go.Proofs.Ytcdlleeonfnamaa
