import Derived.Test.YtcdlleeonfnamaaTwin
import Derived.Test.YtcdlleeonfnamaaPut
namespace Go.Proofs.Ytcdlleeonfnamaa
open Go.RowKit

/-- attributes in memory of their own -/
def OwnA (w : World) (base : Nat) (a : Value) (l : List At) : Prop := w.ownsRow base 46 2 a l.length (atCells l) ∧ Sized l
theorem OwnA.attrs {w : World} {base : Nat} {a : Value} {l : List At} (h : OwnA w base a l) (hl : l.length ≤ 9223372036854775807) : Attrs w a l := row_attrs h.1 rfl h.2 hl
theorem OwnA.below {w w' : World} {base : Nat} {a : Value} {l : List At} (h : OwnA w base a l) (hb : Below w.heap.size w w') : OwnA w' base a l := by
  obtain ⟨⟨h1, h2⟩, h3⟩ := h
  refine ⟨⟨h1, ?_⟩, h3⟩
  rcases h2 with h2 | ⟨g, cap, cur, rfl, hB, hg, r⟩
  · exact .inl h2
  · exact .inr ⟨g, cap, cur, rfl, hB, by rw [hb.block g (Array.getElem?_eq_some_iff.1 hg).1]; exact hg, r⟩

theorem OwnA.form {w : World} {base : Nat} {a : Value} {l : List At} (h : OwnA w base a l) : ∃ p c, a = .slice p l.length c := by
  rcases h.1.2 with ⟨rfl, h0⟩ | ⟨g, cap, cur, rfl, r⟩
  · exact ⟨none, 0, by rw [h0]⟩
  · exact ⟨_, _, rfl⟩
theorem setE_no {l : List At} {n u : ByteArray} (h : (checkL l && nameB n.data.toList && mayL u.data.toList) = false) : setE l n u = 1 ∧ setL l n u = [] := by
  have e : setE l n u = 1 := by unfold setE; rw [if_neg (by rw [h]; decide)]
  exact ⟨e, by unfold setL; rw [e]; rfl⟩
theorem setE_ok {l : List At} {n u : ByteArray} (h : (checkL l && nameB n.data.toList && mayL u.data.toList) = true) (hz : (putL l n u).length ≤ 64) : setE l n u = 0 ∧ setL l n u = putL l n u := by
  have e : setE l n u = 0 := by unfold setE; rw [if_pos h, if_pos hz]
  exact ⟨e, by unfold setL; rw [if_pos e]⟩
theorem setE_full {l : List At} {n u : ByteArray} (h : (checkL l && nameB n.data.toList && mayL u.data.toList) = true) (hz : ¬ (putL l n u).length ≤ 64) : setE l n u = 3 ∧ setL l n u = [] := by
  have e : setE l n u = 3 := by unfold setE; rw [if_pos h, if_neg hz]
  exact ⟨e, by unfold setL; rw [e]; rfl⟩
theorem cutE_ok {l : List At} {n : ByteArray} (h : (checkL l && nameB n.data.toList) = true) : cutE l n = 0 ∧ unsL l n = cutL l n := by
  have e : cutE l n = 0 := by unfold cutE; rw [if_pos h]
  exact ⟨e, by unfold unsL; rw [if_pos e]⟩
theorem cutE_no {l : List At} {n : ByteArray} (h : (checkL l && nameB n.data.toList) = false) : cutE l n = 1 ∧ unsL l n = [] := by
  have e : cutE l n = 1 := by unfold cutE; rw [if_neg (by rw [h]; decide)]
  exact ⟨e, by unfold unsL; rw [e]; rfl⟩
theorem full_length {l : List At} {n u : ByteArray} (h : checkL l = true) (hz : ¬ (putL l n u).length ≤ 64) : l.length = 64 := by
  have h1 := (check_parts h).1
  have h2 := put_length l n u
  omega
theorem three {a b c : Bool} (h : (a && b && c) = true) : a = true ∧ b = true ∧ c = true := by revert h; cases a <;> cases b <;> cases c <;> simp
theorem setL_small {l : List At} {n u : ByteArray} (h : l.length ≤ 1000) : (setL l n u).length ≤ 9223372036854775807 := by
  unfold setL
  split
  · have := put_length l n u; omega
  · simp
theorem unsL_small {l : List At} {n : ByteArray} (h : l.length ≤ 1000) : (unsL l n).length ≤ 9223372036854775807 := by
  unfold unsL
  split
  · have := List.length_filter_le (neP n) l; unfold cutL; omega
  · simp
end Go.Proofs.Ytcdlleeonfnamaa
