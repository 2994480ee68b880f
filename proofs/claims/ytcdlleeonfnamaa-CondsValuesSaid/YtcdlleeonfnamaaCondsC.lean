import Derived.Test.YtcdlleeonfnamaaRefCheck
import Derived.Test.YtcdlleeonfnamaaRefAsk
import Derived.Test.YtcdlleeonfnamaaTwin
import Derived.Test.YtcdlleeonfnamaaPut
import Derived.Test.YtcdlleeonfnamaaSameT
import Derived.Test.YtcdlleeonfnamaaOwn
import Derived.Test.YtcdlleeonfnamaaCheckC
import Derived.Test.YtcdlleeonfnamaaSetC
import Derived.Test.YtcdlleeonfnamaaAskC
import Derived.Test.YtcdlleeonfnamaaFillC
namespace Go.Proofs.Ytcdlleeonfnamaa
open Go.RowKit

/- The contracts of conds that the laws want (W, w: the law's first world, and the one at the call). -/
theorem check_c (v : Value) (l : List At) (W w : World) (hb : Below W.heap.size W w) (h : Attrs w v l) : Calls Try.prog 13 #[v] w fun e w' => e = .returned (.bool (checkL l)) ∧ Below W.heap.size W w' ∧ Below w.heap.size w w' :=
  (check_any v l w h).mono fun _ _ ⟨he, h2⟩ => ⟨he, behind hb h2, h2⟩
theorem get_c (v : Value) (l : List At) (n : ByteArray) (W w : World) (hb : Below W.heap.size W w) (h : Attrs w v l) (hn : n.size ≤ 140737488351232) : Calls Try.prog 15 #[v, .string n] w fun e w' => e = .returned (getV (getL l n)) ∧ Below W.heap.size W w' ∧ Below w.heap.size w w' := by
  have _ := hn
  exact (get_any v l n w h).mono fun _ _ ⟨he, h2⟩ => ⟨he, behind hb h2, h2⟩
theorem ask_c (v : Value) (l : List At) (n : ByteArray) (W w : World) (hb : Below W.heap.size W w) (h : Attrs w v l) (hn : n.size ≤ 140737488351232) : Calls Try.prog 17 #[v, .string n] w fun e w' => e = .returned (askV (askL l n.data.toList)) ∧ Below W.heap.size W w' ∧ Below w.heap.size w w' :=
  (ask_any v l n w h hn).mono fun _ _ ⟨he, h2⟩ => ⟨he, behind hb h2, h2⟩
theorem set_c (v : Value) (l : List At) (n u : ByteArray) (W w : World) (hb : Below W.heap.size W w) (h : Attrs w v l) (hn : n.size ≤ 140737488351232) (hu : u.size ≤ 140737488351232) : Calls Try.prog 11 #[v, .string n, .string u] w fun e w' =>
    ∃ a, e = .returned (.tuple #[a, .int .i64 ((setE l n u : Nat) : Int)]) ∧ OwnA w' w.heap.size a (setL l n u) ∧ Below W.heap.size W w' ∧ Below w.heap.size w w' :=
  (set_any v l n u w h hn hu).mono fun _ _ ⟨a, he, ho, h2⟩ => ⟨a, he, ho, behind hb h2, h2⟩
theorem unset_c (v : Value) (l : List At) (n : ByteArray) (W w : World) (hb : Below W.heap.size W w) (h : Attrs w v l) (hn : n.size ≤ 140737488351232) : Calls Try.prog 12 #[v, .string n] w fun e w' =>
    ∃ a, e = .returned (.tuple #[a, .int .i64 ((cutE l n : Nat) : Int)]) ∧ OwnA w' w.heap.size a (unsL l n) ∧ Below W.heap.size W w' ∧ Below w.heap.size w w' :=
  (unset_any v l n w h hn).mono fun _ _ ⟨a, he, ho, h2⟩ => ⟨a, he, ho, behind hb h2, h2⟩
theorem fill_c (v : Value) (l : List At) (s : ByteArray) (W w : World) (hb : Below W.heap.size W w) (h : Attrs w v l) (hl : Small l) (hs : s.size ≤ 100000) : Calls Try.prog 18 #[v, .string s] w fun e w' =>
    ∃ a, e = .returned (.tuple #[.string (bT (fillL l s.data.toList).1), a]) ∧ w'.ownsRow w.heap.size 9 1 a (fillL l s.data.toList).2.length ((fillL l s.data.toList).2.map strV) ∧ Below W.heap.size W w' ∧ Below w.heap.size w w' :=
  (fill_any v l s w h (small_loose hl) hs).mono fun _ _ ⟨a, he, ho, h2⟩ => ⟨a, he, ho, behind hb h2, h2⟩
end Go.Proofs.Ytcdlleeonfnamaa
