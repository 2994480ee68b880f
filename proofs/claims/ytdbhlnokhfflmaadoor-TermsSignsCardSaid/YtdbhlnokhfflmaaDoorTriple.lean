import Derived.Test.YtdbhlnokhfflmaaDoorLaw
import Derived.OpenShut
namespace Go.Proofs.YtdbhlnokhfflmaaDoor
open Go.ChangeShapes Go.WideShapes Go.ChangeAt Go.RowKit

set_option maxRecDepth 100000 in
/-- an argument that is an array of three texts -/
theorem three_str {H : Type} {enc : TypeId × Value → H} {W : World} {r : Reach} {b0 : Nat} {v : Value} {d : DataW H} {ps : List MemPlace} (hval : Value.okWide Tryd.prog W r b0 32 v)
    (h : DataW.Trod enc Tryd.prog W 0 (fun _ => true) true 32 v d ps) (hw : ∀ n ∈ d.weights Tryd.prog 32, n ≤ reachBytes) :
    ∃ s t u : ByteArray, v = .agg #[.string s, .string t, .string u] ∧ s.size ≤ 140737488351232 ∧ t.size ≤ 140737488351232 ∧ u.size ≤ 140737488351232 := by
  have hc2 : Tryd.prog.cellsOf 32 = 3 := by kernel_rfl
  have hc1 : Tryd.prog.cellsOf 9 = 1 := by kernel_rfl
  unfold Value.okWide at hval
  rw [Tryd.underlying32] at hval
  obtain ⟨⟨cs⟩, rfl, hsz, _⟩ := hval
  rw [hc2] at hsz
  obtain ⟨fuel, hf⟩ := h
  match cs, hsz with
  | [c0, c1, c2], _ =>
    obtain ⟨xs, m, _, hx, hcl, hxl, hi⟩ := DataW.trod_array Tryd.underlying32 hf
    rw [hc1] at hi
    match xs, hxl with
    | [y0, y1, y2], _ =>
      have i0 := hi 0 (by decide)
      have i1 := hi 1 (by decide)
      have i2 := hi 2 (by decide)
      have e0 : (Value.agg ⟨[c0, c1, c2]⟩).cells.toList = [c0, c1, c2] := rfl
      rw [e0] at i0 i1 i2
      obtain ⟨s0, hv0, hd0, _⟩ := DataW.trod_string Tryd.underlying9 (show DataW.trod enc Tryd.prog W 0 (fun _ => true) true m 9 [c0] = some y0 from i0)
      obtain ⟨s1, hv1, hd1, _⟩ := DataW.trod_string Tryd.underlying9 (show DataW.trod enc Tryd.prog W 0 (fun _ => true) true m 9 [c1] = some y1 from i1)
      obtain ⟨s2, hv2, hd2, _⟩ := DataW.trod_string Tryd.underlying9 (show DataW.trod enc Tryd.prog W 0 (fun _ => true) true m 9 [c2] = some y2 from i2)
      simp only [List.cons.injEq, and_true] at hv0 hv1 hv2
      subst hv0; subst hv1; subst hv2
      have hdx : d = .agg [y0.1, y1.1, y2.1] := by injection hx
      have w0 := hw s0.data.toList.length (by rw [hdx, hd0, hd1, hd2]; simp [DataW.weights, Tryd.underlying32, DataW.weightsAll])
      have w1 := hw s1.data.toList.length (by rw [hdx, hd0, hd1, hd2]; simp [DataW.weights, Tryd.underlying32, DataW.weightsAll])
      have w2 := hw s2.data.toList.length (by rw [hdx, hd0, hd1, hd2]; simp [DataW.weights, Tryd.underlying32, DataW.weightsAll])
      have hrb : reachBytes = 140737488351232 := by decide
      rw [Array.length_toList, hrb] at w0 w1 w2
      exact ⟨s0, s1, s2, rfl, w0, w1, w2⟩
end Go.Proofs.YtdbhlnokhfflmaaDoor
