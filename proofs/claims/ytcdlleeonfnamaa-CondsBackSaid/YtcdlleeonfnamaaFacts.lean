import Derived.Test.YtcdlleeonfnamaaCondsC
namespace Go.Proofs.Ytcdlleeonfnamaa
open Go.RowKit

theorem name_c (n : ByteArray) (W w : World) (_hb : Below W.heap.size W w) (hn : n.size ≤ 140737488351232) : Calls Try.prog 14 #[.string n] w fun e w' => e = .returned (.bool (nameB n.data.toList)) ∧ w = w' :=
  name_any n w (by unfold maxLen; omega)
theorem great_c (v : Value) (l : List At) (s : ByteArray) (W w : World) (hb : Below W.heap.size W w) (h : Attrs w v l) (hs : s.size ≤ 140737488351232) : Calls Try.prog 10 #[v, .string s] w fun e w' => ∃ g : Bool, e = .returned (.bool g) ∧ (g = false → Small l ∧ s.size ≤ 100000) ∧ Below W.heap.size W w' ∧ Below w.heap.size w w' :=
  (great_any v l s w h hs).mono fun _ _ ⟨g, he, hg, q, hw⟩ => ⟨g, he, hg, by rw [hw]; exact below_drewN hb q, by rw [hw]; exact below_drewN (Below.refl _ _) q⟩
end Go.Proofs.Ytcdlleeonfnamaa
