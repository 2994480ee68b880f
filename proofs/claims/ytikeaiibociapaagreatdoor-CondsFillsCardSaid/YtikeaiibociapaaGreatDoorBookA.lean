import Derived.Test.YtikeaiibociapaaGreatDoorApartA
import Derived.Test.YtikeaiibociapaaGreatDoorLeft
namespace Go.Proofs.YtikeaiibociapaaGreatDoor
open Go.RowKit
set_option maxRecDepth 100000

theorem attrsOf_any (base K : Nat) (n : Int) (t : Value) (p : Option Addr) (m c : Nat) (xs : List Value) (lp : Option Addr) (ln lc : Nat) (w : World) (hn : 0 ≤ n ∧ n ≤ 1000) (hm : m ≤ 1000) (hB : BookIs w K n t (.slice p m c)) (hbase : base ≤ w.heap.size)
    (hown : w.ownsRow base 123 3 (.slice p m c) m xs) :
    Calls Tryz.prog 17 #[.pointer (some ⟨K, 0, none⟩), .slice lp ln lc] w fun e w' => e = .returned (.tuple #[]) ∧ ∃ (g' c' : Nat), BookIs w' K (n + 1) t (.slice (some ⟨g', 0, none⟩) (m + 1) c') ∧
      w'.ownsRow base 123 3 (.slice (some ⟨g', 0, none⟩) (m + 1) c') (m + 1) (xs ++ [.slice lp ln lc, nilS, .int .i64 (n + 1)]) ∧ KeptBut (fun b => b = K ∨ (Value.slice p m c).ownBlock = some b) w w' := by
  have hK : (Value.slice p m c).ownBlock ≠ some K := book_not_row hB (by decide) hown
  go_enter Tryz.func17, Tryz.ntmps17
  go_wp2_with (go_at_call 45; refine (keepAttr_any base K n t p m c xs lp ln lc _ hn hm hB hbase hown hK).mono ?_; rintro e w' ⟨rfl, p', c', h1, h2, h3⟩)
  go_end0
  obtain ⟨g6, cap6, e6⟩ := ownsRow_succ h2
  cases e6
  exact ⟨rfl, g6, _, h1, h2, h3⟩
theorem book_new (w : World) : BookIs (w.alloc (.cells #[.int .i64 0, nilS, nilS, nilS, nilS, nilS, nilS, nilS, nilS, nilS, nilS, nilS, nilS, nilS, nilS, nilS, nilS, nilS] 48)) w.heap.size 0 nilS nilS := by
  show (w.heap.push _)[w.heap.size]? = _
  rw [Array.getElem?_push_size]
/-- a twin's row, without its spare room -/
theorem Twin.short {w : World} {base : Nat} {v : Value} {l : List At} (h : Twin w base v l) : ∃ T cap, v = .slice (some ⟨T, 0, none⟩) l.length cap ∧ base ≤ T ∧ T < w.heap.size ∧ w.ownsRow base 84 2 (.slice (some ⟨T, 0, none⟩) l.length cap) l.length (atCells l) := by
  obtain ⟨⟨T, cap, hv, h1⟩, -, -⟩ := h
  obtain ⟨a1, ⟨h0, _⟩ | ⟨g, c, cur, e, b, q, n1, m1, s1, t1⟩⟩ := h1
  · cases h0
  · cases e
    refine ⟨T, cap, hv, b, (Array.getElem?_eq_some_iff.1 q).1, atCells_length l, .inr ⟨T, cap, cur, rfl, b, q, by omega, m1, s1, ?_⟩⟩
    have := congrArg (List.take (l.length * 2)) t1
    rw [List.take_take, Nat.min_eq_left (by omega), atCells_append, List.take_left' (atCells_length l)] at this
    exact this
/-- three lists of attributes, each in its own place -/
theorem told_three {w : World} {base K T c : Nat} {l M : List At} {Tt ct : Nat} {pa pb : Option Addr} {ca cb s2 s3 : Nat} (hK : BookIs w K 3 nilS (.slice (some ⟨T, 0, none⟩) 3 c))
    (hT : w.ownsRow base 123 3 (.slice (some ⟨T, 0, none⟩) 3 c) 3 [.slice (some ⟨Tt, 0, none⟩) l.length ct, nilS, .int .i64 1, .slice pa M.length ca, nilS, .int .i64 2, .slice pb M.length cb, nilS, .int .i64 3])
    (hb : base ≤ w.heap.size) (hl : l.length ≤ 1000) (hM : M.length ≤ 1100)
    (r1 : w.ownsRow base 84 2 (.slice (some ⟨Tt, 0, none⟩) l.length ct) l.length (atCells l)) (r2 : w.ownsRow s2 84 2 (.slice pa M.length ca) M.length (atCells M)) (r3 : w.ownsRow s3 84 2 (.slice pb M.length cb) M.length (atCells M))
    (b2 : base ≤ s2) (b3 : base ≤ s3) (hTt : Tt < s2) (hs : s2 ≤ s3) (ha : ∀ g, (Value.slice pa M.length ca).ownBlock = some g → g < s3) :
    ToldA w base K 3 T c [⟨some ⟨Tt, 0, none⟩, l.length, ct, 1⟩, ⟨pa, M.length, ca, 2⟩, ⟨pb, M.length, cb, 3⟩] (fun i => if i = 0 then atCells l else atCells M) := by
  have own1 : ∀ g, (Value.slice (some ⟨Tt, 0, none⟩) l.length ct).ownBlock = some g → g = Tt := fun g h => by injection h with e; exact e.symm
  have lo2 : ∀ g, (Value.slice pa M.length ca).ownBlock = some g → s2 ≤ g := fun g h => (r2.lt g h).1
  have lo3 : ∀ g, (Value.slice pb M.length cb).ownBlock = some g → s3 ≤ g := fun g h => (r3.lt g h).1
  exact {
    book := hK
    list := hT
    low := hb
    nu := fun i hi => by
      match i, hi with
      | 0, _ => show (1 : Nat) < 100; decide
      | 1, _ => show (2 : Nat) < 100; decide
      | 2, _ => show (3 : Nat) < 100; decide
    len := by show (3 : Nat) ≤ 1000; decide
    n := fun i hi => by
      match i, hi with
      | 0, _ => show l.length ≤ 1000000000; omega
      | 1, _ => show M.length ≤ 1000000000; omega
      | 2, _ => show M.length ≤ 1000000000; omega
    row := fun i hi => by
      match i, hi with
      | 0, _ => exact r1
      | 1, _ => exact row_mono r2 b2
      | 2, _ => exact row_mono r3 b3
    ne := fun i j hi hj hij g hg hg' => by
      match i, hi, j, hj with
      | 0, _, 0, _ => exact hij rfl
      | 1, _, 1, _ => exact hij rfl
      | 2, _, 2, _ => exact hij rfl
      | 0, _, 1, _ => have := own1 g hg; have := lo2 g hg'; omega
      | 1, _, 0, _ => have := own1 g hg'; have := lo2 g hg; omega
      | 0, _, 2, _ => have := own1 g hg; have := lo3 g hg'; omega
      | 2, _, 0, _ => have := own1 g hg'; have := lo3 g hg; omega
      | 1, _, 2, _ => have := ha g hg; have := lo3 g hg'; omega
      | 2, _, 1, _ => have := ha g hg'; have := lo3 g hg; omega }
end Go.Proofs.YtikeaiibociapaaGreatDoor
