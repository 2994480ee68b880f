import Derived.Test.YtcdlleeonfnamaaName
import Derived.Test.YtcdlleeonfnamaaLaw
import Derived.BigQuiet
import Derived.Deep.QuietTactic
namespace Go.Proofs.Ytcdlleeonfnamaa
open Go.RowKit

/-- a name with a value -/
abbrev At := ByteArray × ByteArray
/-- cells of attributes -/
def AtCells (w : World) (b o : Nat) (l : List At) : Prop := ∀ i (h : i < l.length), w.cell? ⟨b, o + i * 2, none⟩ = some (.string l[i].1) ∧ w.cell? ⟨b, o + i * 2 + 1, none⟩ = some (.string l[i].2)
def Sized (l : List At) : Prop := ∀ a ∈ l, a.1.size ≤ 140737488351232 ∧ a.2.size ≤ 140737488351232
/-- a slice of attributes that reads as l -/
def Attrs (w : World) (v : Value) (l : List At) : Prop :=
  ∃ (p : Option Addr) (cap : Nat), v = .slice p l.length cap ∧ l.length ≤ 9223372036854775807 ∧ (Sized l ∧ (p = none → cap = 0) ∧ l.length ≤ cap) ∧ (0 < l.length → ∃ b o, p = some ⟨b, o, none⟩ ∧ b < w.heap.size ∧ AtCells w b o l)

theorem Attrs.below {w w' : World} {v : Value} {l : List At} (h : Attrs w v l) (hb : Below w.heap.size w w') : Attrs w' v l := by
  obtain ⟨p, cap, hv, hl, hs, hc⟩ := h
  refine ⟨p, cap, hv, hl, hs, fun h0 => ?_⟩
  obtain ⟨b, o, hp, hlt, hc⟩ := hc h0
  exact ⟨b, o, hp, Nat.lt_of_lt_of_le hlt hb.size, fun i hi => ⟨(hb.cell (p := ⟨b, o + i * 2, none⟩) hlt).trans (hc i hi).1, (hb.cell (p := ⟨b, o + i * 2 + 1, none⟩) hlt).trans (hc i hi).2⟩⟩

/-- the value of a name -/
def getL (l : List At) (n : ByteArray) : Option ByteArray := (l.find? fun a => a.1.toList == n.toList).map (·.2)
/-- what Get answers -/
def getV : Option ByteArray → Value
  | some v => .tuple #[.string v, .bool true]
  | none => .tuple #[.string ⟨#[]⟩, .bool false]
theorem get_none {o : Option ByteArray} (h : o = none) : Value.tuple #[.string ⟨#[]⟩, .bool false] = getV o := by rw [h]; rfl
theorem get_some {o : Option ByteArray} {m : ByteArray} (h : o = some m) : Value.tuple #[.string m, .bool true] = getV o := by rw [h]; rfl
theorem getL_here {l : List At} {n : ByteArray} {k : Nat} (h : k < l.length) (he : (l[k].1.toList == n.toList) = true) : getL (l.drop k) n = some l[k].2 := by
  unfold getL; rw [List.drop_eq_getElem_cons h, List.find?_cons, he]; rfl
theorem getL_next {l : List At} {n : ByteArray} {k : Nat} (h : k < l.length) (he : (l[k].1.toList == n.toList) = false) : getL (l.drop k) n = getL (l.drop (k + 1)) n := by
  unfold getL; rw [List.drop_eq_getElem_cons h, List.find?_cons, he]
theorem getL_end {l : List At} {n : ByteArray} {k : Nat} (h : l.length ≤ k) : getL (l.drop k) n = none := by
  rw [List.drop_of_length_le h]; rfl

end Go.Proofs.Ytcdlleeonfnamaa
