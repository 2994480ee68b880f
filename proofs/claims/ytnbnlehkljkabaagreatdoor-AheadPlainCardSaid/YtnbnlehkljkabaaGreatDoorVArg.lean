/- Merged: Arg. -/
import Derived.Test.YtnbnlehkljkabaaGreatDoorU3
import Derived.Deep.SlicePairs
import Derived.ChangeSame
namespace Go.Proofs.YtnbnlehkljkabaaGreatDoor
open Go.ChangeShapes Go.WideShapes Go.ChangeAt Go.RowKit Go.Deep

theorem weights_all {H : Type} {P : Program} {e : TypeId} : ∀ {ds : List (DataW H)} {d : DataW H}, d ∈ ds → ∀ n ∈ d.weights P e, n ∈ DataW.weightsAll P e ds
  | d0 :: ds, d, h, n, hn => by
    simp only [DataW.weightsAll, List.mem_append]
    rcases List.mem_cons.1 h with rfl | h
    · exact .inl hn
    · exact .inr (weights_all h n hn)
theorem cell_lt {W : World} {a : Addr} {v : Value} (h : W.cell? a = some v) : a.block < W.heap.size := by
  unfold World.cell? at h
  cases e : W.heap[a.block]? with
  | none => simp [e] at h
  | some o => exact (Array.getElem?_eq_some_iff.1 e).1

set_option maxRecDepth 100000 in
/-- an argument that is a slice of attributes -/
theorem attrs_arg {H : Type} {enc : TypeId × Value → H} {W : World} {r : Reach} {b0 : Nat} {v : Value} {d : DataW H} {ps : List MemPlace} (hval : Value.okWide Tryz.prog W r b0 22 v)
    (h : DataW.Trod enc Tryz.prog W 0 (fun _ => true) true 22 v d ps) (hw : ∀ n ∈ d.weights Tryz.prog 22, n ≤ reachBytes) : ∃ l : List At, Attrs W v l := by
  obtain ⟨av, lv, cv, rfl⟩ := okWide_slice Tryz.underlying22 hval
  obtain ⟨fuel, hf⟩ := h
  rcases open_slice_pairs Tryz.underlying22 Tryz.underlying84 (by kernel_rfl) rfl rfl (by kernel_rfl) (by kernel_rfl) hf with ⟨hc, hx⟩ | ⟨a, len, cap, m, k, V0, V1, D0, D1, P0, P1, hc, _, hl, hm, hmm, hx, hall⟩
  · have hc' : ([Value.slice av lv cv] : List Value) = [.slice none 0 0] := hc
    simp only [List.cons.injEq, and_true, Value.slice.injEq] at hc'
    obtain ⟨rfl, rfl, rfl⟩ := hc'
    exact ⟨[], none, 0, rfl, by simp, ⟨by intro a ha; simp at ha, fun _ => rfl, by simp⟩, fun h => by simp at h⟩
  · have hc' : ([Value.slice av lv cv] : List Value) = [.slice (some a) len cap] := hc
    simp only [List.cons.injEq, and_true, Value.slice.injEq] at hc'
    obtain ⟨rfl, rfl, rfl⟩ := hc'
    simp only [if_true] at hmm
    subst hmm
    simp only [Prod.mk.injEq] at hx
    obtain ⟨rfl, -⟩ := hx
    have hex : ∀ i, ∃ q : At, i < lv → V0 i = .string q.1 ∧ V1 i = .string q.2 ∧ D0 i = .lit (.string q.1.data.toList) ∧ D1 i = .lit (.string q.2.data.toList) := by
      intro i
      by_cases hi : i < lv
      · obtain ⟨_, _, t0, t1⟩ := hall i (by omega)
        obtain ⟨s0, hv0, hd0, _⟩ := DataW.trod_string Tryz.underlying9 t0
        obtain ⟨s1, hv1, hd1, _⟩ := DataW.trod_string Tryz.underlying9 t1
        simp only [List.cons.injEq, and_true] at hv0 hv1
        simp only [Prod.mk.injEq] at hd0 hd1
        exact ⟨(s0, s1), fun _ => ⟨hv0, hv1, hd0.1, hd1.1⟩⟩
      · exact ⟨(⟨#[]⟩, ⟨#[]⟩), fun h => absurd h hi⟩
    obtain ⟨q, hq⟩ := Classical.axiomOfChoice hex
    have hS : Sized ((List.range lv).map q) := by
      intro a ha
      obtain ⟨i, hi, rfl⟩ := List.mem_map.1 ha
      have hi' : i < lv := List.mem_range.1 hi
      obtain ⟨_, _, e0, e1⟩ := hq i hi'
      have hmem : (DataW.agg [D0 i, D1 i] : DataW H) ∈ (List.range lv).map fun i => (.agg [D0 i, D1 i] : DataW H) := List.mem_map.2 ⟨i, hi, rfl⟩
      have hin : ∀ n ∈ (DataW.agg [D0 i, D1 i] : DataW H).weights Tryz.prog 84, n ≤ reachBytes := by
        intro n hn
        refine hw n ?_
        simp only [DataW.weights, Tryz.underlying22, List.mem_cons, List.mem_append]
        exact .inr (.inl (weights_all hmem n hn))
      have w0 := hin (q i).1.data.toList.length (by rw [e0, e1]; simp [DataW.weights, Tryz.underlying84, DataW.weightsEach])
      have w1 := hin (q i).2.data.toList.length (by rw [e0, e1]; simp [DataW.weights, Tryz.underlying84, DataW.weightsEach])
      have hrb : reachBytes = 140737488351232 := by decide
      simp only [Array.length_toList] at w0 w1
      rw [hrb] at w0 w1
      exact ⟨w0, w1⟩
    refine ⟨(List.range lv).map q, some a, m, by simp, by simp [maxLen] at hm ⊢; omega, ⟨hS, (fun h => by cases h), by simp; omega⟩, fun h0 => ?_⟩
    simp only [List.length_map, List.length_range] at h0
    obtain ⟨b, o, spot⟩ := a
    have hspot : spot = none := by simpa [Addr.add] using World.cell?_spot (hall 0 (by omega)).1
    subst hspot
    refine ⟨b, o, rfl, cell_lt (hall 0 (by omega)).1, fun i hi => ?_⟩
    simp only [List.length_map, List.length_range] at hi
    obtain ⟨c0, c1, _, _⟩ := hall i (by omega)
    obtain ⟨e0, e1, _, _⟩ := hq i hi
    rw [e0] at c0
    rw [e1] at c1
    simp only [List.getElem_map, List.getElem_range]
    have ea : ∀ j, (⟨b, o, none⟩ : Addr).add j = ⟨b, o + j, none⟩ := by intro j; by_cases hj : j = 0 <;> simp [Addr.add, hj]
    rw [ea] at c0 c1
    exact ⟨c0, by rw [Nat.add_assoc]; exact c1⟩
end Go.Proofs.YtnbnlehkljkabaaGreatDoor
