import Derived.Test.YtcdlleeonfnamaaSize
import Derived.OwnWalk
import Derived.OneCell
import Derived.ArgAppend
import Derived.Maps.AppendAt
namespace Go.Proofs.Ytcdlleeonfnamaa
open Go.RowKit
set_option maxRecDepth 100000

/-- attributes' cells -/
def atCells (l : List At) : List Value := l.flatMap fun a => [.string a.1, .string a.2]
theorem atCells_length (l : List At) : (atCells l).length = l.length * 2 := by
  induction l with
  | nil => rfl
  | cons a l ih => simp [atCells] at ih ⊢; omega
theorem atCells_append (a b : List At) : atCells (a ++ b) = atCells a ++ atCells b := by simp [atCells]
theorem atCells_take (l : List At) (k : Nat) (h : k < l.length) : atCells (l.take (k + 1)) = atCells (l.take k) ++ [.string l[k].1, .string l[k].2] := by
  rw [List.take_succ_eq_append_getElem h, atCells_append]; rfl
theorem atCells_at : ∀ (l : List At) (i : Nat) (h : i < l.length), (atCells l)[i * 2]? = some (.string l[i].1) ∧ (atCells l)[i * 2 + 1]? = some (.string l[i].2)
  | a :: l, 0, _ => ⟨rfl, rfl⟩
  | a :: l, i + 1, h => by
    have ih := atCells_at l i (by simpa using h)
    have e : atCells (a :: l) = [.string a.1, .string a.2] ++ atCells l := rfl
    have a1 : (i + 1) * 2 = i * 2 + 2 := by omega
    rw [e, a1]
    refine ⟨?_, ?_⟩
    · rw [List.getElem?_append_right (by simp)]; simpa using ih.1
    · rw [List.getElem?_append_right (by simp)]; simpa using ih.2

theorem info48 : (Try.prog.info? 46).map (fun i => (i.zero, i.size, i.bytes)) = some (some (.agg #[.string ⟨#[]⟩, .string ⟨#[]⟩]), 2, 32) := by kernel_rfl
theorem add_at (b j : Nat) : (⟨b, 0, none⟩ : Addr).add j = ⟨b, j, none⟩ := by by_cases hj : j = 0 <;> simp [Addr.add, hj]
theorem pair_new (w : World) (u v : Value) (t : TypeId) : ∀ j y, [u, v][j]? = some y → (w.alloc (.cells #[u, v] t)).cell? ((⟨w.heap.size, 0, none⟩ : Addr).add j) = some y := by
  intro j y hj
  rw [add_at, World.cell?_alloc_new]
  simpa using hj
theorem pair_one (a b : ByteArray) : ∀ u ∈ [Value.string a, .string b], u.oneCell' = true := by
  intro u hu
  simp only [List.mem_cons, List.not_mem_nil, or_false] at hu
  rcases hu with rfl | rfl <;> rfl

/-- a row of attributes reads as they do -/
theorem row_attrs {w : World} {base n : Nat} {v : Value} {l : List At} (h : w.ownsRow base 46 2 v n (atCells l)) (hn : n = l.length) (hs : Sized l) (hm : l.length ≤ 9223372036854775807) : Attrs w v l := by
  subst hn
  obtain ⟨h1, ⟨rfl, h0⟩ | ⟨g, cap, cur, rfl, hb, hg, hn, hc, hcs, htk⟩⟩ := h
  · exact ⟨none, 0, by rw [h0], hm, ⟨hs, fun _ => rfl, by omega⟩, fun h => by omega⟩
  · refine ⟨some ⟨g, 0, none⟩, cap, rfl, hm, ⟨hs, (fun h => by cases h), hn⟩, fun _ => ⟨g, 0, rfl, (Array.getElem?_eq_some_iff.1 hg).1, fun i hi => ?_⟩⟩
    obtain ⟨e1, e2⟩ := atCells_at l i hi
    rw [← htk, List.getElem?_take] at e1 e2
    rw [if_pos (by omega)] at e1 e2
    rw [Nat.zero_add]
    simp only [World.cell?, hg]
    exact ⟨by simpa using e1, by simpa using e2⟩

/-- "spare" -/
def spareA : At := (⟨#[115, 112, 97, 114, 101]⟩, ⟨#[]⟩)
/-- a twin: a list with a spare attribute behind -/
structure Twin (w : World) (base : Nat) (v : Value) (l : List At) : Prop where
  row : ∃ T cap, v = .slice (some ⟨T, 0, none⟩) l.length cap ∧ w.ownsRow base 46 2 (.slice (some ⟨T, 0, none⟩) (l.length + 1) cap) (l.length + 1) (atCells (l ++ [spareA]))
  sized : Sized l
  len : l.length ≤ 1000

end Go.Proofs.Ytcdlleeonfnamaa
