import Derived.Test.YtikeaiibociapaaGreatDoorSApartA
import Derived.Test.YtikeaiibociapaaGreatDoorSLeft
namespace Go.Proofs.YtikeaiibociapaaGreatDoor.src
open Go.RowKit
set_option maxRecDepth 100000

theorem attrsOf_any (base K : Nat) (n : Int) (t : Value) (p : Option Addr) (m c : Nat) (xs : List Value) (lp : Option Addr) (ln lc : Nat) (w : World) (hn : 0 ≤ n ∧ n ≤ 1000) (hm : m ≤ 1000) (hB : BookIs w K n t (.slice p m c)) (hbase : base ≤ w.heap.size)
    (hown : w.ownsRow base 141 3 (.slice p m c) m xs) :
    Calls Tryz.prog 28 #[.pointer (some ⟨K, 0, none⟩), .slice lp ln lc] w fun e w' => e = .returned (.tuple #[]) ∧ ∃ (g' c' : Nat), BookIs w' K (n + 1) t (.slice (some ⟨g', 0, none⟩) (m + 1) c') ∧
      w'.ownsRow base 141 3 (.slice (some ⟨g', 0, none⟩) (m + 1) c') (m + 1) (xs ++ [.slice lp ln lc, nilS, .int .i64 (n + 1)]) ∧ KeptBut (fun b => b = K ∨ (Value.slice p m c).ownBlock = some b) w w' := by
  have hK : (Value.slice p m c).ownBlock ≠ some K := book_not_row hB (by decide) hown
  go_enter Tryz.func28, Tryz.ntmps28
  go_wp2_with (go_at_call 101; refine (keepAttr_any base K n t p m c xs lp ln lc _ hn hm hB hbase hown hK).mono ?_; rintro e w' ⟨rfl, p', c', h1, h2, h3⟩)
  go_end0
  obtain ⟨g6, cap6, e6⟩ := ownsRow_succ h2
  cases e6
  exact ⟨rfl, g6, _, h1, h2, h3⟩
theorem book_new (w : World) : BookIs (w.alloc (.cells #[.int .i64 0, nilS, nilS, nilS, nilS, nilS, nilS, nilS, nilS, nilS, nilS, nilS, nilS, nilS, nilS, nilS, nilS, nilS] 48)) w.heap.size 0 nilS nilS := by
  show (w.heap.push _)[w.heap.size]? = _
  rw [Array.getElem?_push_size]
/-- a twin's row, without its spare room -/
theorem Twin.short {w : World} {base : Nat} {v : Value} {l : List At} (h : Twin w base v l) : ∃ T cap, v = .slice (some ⟨T, 0, none⟩) l.length cap ∧ base ≤ T ∧ T < w.heap.size ∧ w.ownsRow base 69 2 (.slice (some ⟨T, 0, none⟩) l.length cap) l.length (atCells l) := by
  obtain ⟨⟨T, cap, hv, h1⟩, -, -⟩ := h
  obtain ⟨a1, ⟨h0, _⟩ | ⟨g, c, cur, e, b, q, n1, m1, s1, t1⟩⟩ := h1
  · cases h0
  · cases e
    refine ⟨T, cap, hv, b, (Array.getElem?_eq_some_iff.1 q).1, atCells_length l, .inr ⟨T, cap, cur, rfl, b, q, by omega, m1, s1, ?_⟩⟩
    have := congrArg (List.take (l.length * 2)) t1
    rw [List.take_take, Nat.min_eq_left (by omega), atCells_append, List.take_left' (atCells_length l)] at this
    exact this
end Go.Proofs.YtikeaiibociapaaGreatDoor.src
