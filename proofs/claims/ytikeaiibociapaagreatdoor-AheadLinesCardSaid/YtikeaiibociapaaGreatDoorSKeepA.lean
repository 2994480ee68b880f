import Derived.Test.YtikeaiibociapaaGreatDoorSLookA
import Derived.Deep.RegionLaw
namespace Go.Proofs.YtikeaiibociapaaGreatDoor.src
open Go.RowKit
set_option maxRecDepth 100000

/-- the nil slice -/
abbrev nilS : Value := .slice none 0 0

/-- a book's block: its number, its texts, its attributes; all other lists are empty -/
def BookIs (W : World) (K : Nat) (n : Int) (t a : Value) : Prop :=
  W.heap[K]? = some (.cells #[.int .i64 n, nilS, nilS, t, nilS, nilS, a, nilS, nilS, nilS, nilS, nilS, nilS, nilS, nilS, nilS, nilS, nilS] 48 (0, 0))

theorem BookIs.lt {W : World} {K : Nat} {n : Int} {t a : Value} (h : BookIs W K n t a) : K < W.heap.size := (Array.getElem?_eq_some_iff.1 h).1
theorem BookIs.frozen {W : World} {K : Nat} {n : Int} {t a : Value} (h : BookIs W K n t a) (j : Nat) : W.frozen? ⟨K, j, none⟩ = false := by simp [World.frozen?, show W.heap[K]? = _ from h]
theorem BookIs.num {W : World} {K : Nat} {n : Int} {t a : Value} (h : BookIs W K n t a) : W.cell? ⟨K, 0, none⟩ = some (.int .i64 n) := by simp [World.cell?, show W.heap[K]? = _ from h]
theorem BookIs.texts {W : World} {K : Nat} {n : Int} {t a : Value} (h : BookIs W K n t a) : W.cell? ⟨K, 3, none⟩ = some t := by simp [World.cell?, show W.heap[K]? = _ from h]
theorem BookIs.attrs {W : World} {K : Nat} {n : Int} {t a : Value} (h : BookIs W K n t a) : W.cell? ⟨K, 6, none⟩ = some a := by simp [World.cell?, show W.heap[K]? = _ from h]
theorem BookIs.nils {W : World} {K : Nat} {n : Int} {t a : Value} (h : BookIs W K n t a) (j : Nat) (hj : 1 ≤ j ∧ j < 18 ∧ j ≠ 3 ∧ j ≠ 6) : W.cell? ⟨K, j, none⟩ = some nilS := by
  rcases (by omega : j = 1 ∨ j = 2 ∨ j = 4 ∨ j = 5 ∨ j = 7 ∨ j = 8 ∨ j = 9 ∨ j = 10 ∨ j = 11 ∨ j = 12 ∨ j = 13 ∨ j = 14 ∨ j = 15 ∨ j = 16 ∨ j = 17) with rfl | rfl | rfl | rfl | rfl | rfl | rfl | rfl | rfl | rfl | rfl | rfl | rfl | rfl | rfl
  all_goals simp [World.cell?, show W.heap[K]? = _ from h]
theorem BookIs.kept {S : Nat → Prop} {W W' : World} {K : Nat} {n : Int} {t a : Value} (h : BookIs W K n t a) (k : KeptBut S W W') (hK : ¬ S K) : BookIs W' K n t a := (k.block K h.lt hK).trans h

theorem heap_setCell_at (W : World) (K j : Nat) (v : Value) (cur : Array Value) (t : TypeId) (fr : Nat × Nat) (h : W.heap[K]? = some (.cells cur t fr)) : (W.setCell ⟨K, j, none⟩ v).heap[K]? = some (.cells (cur.setIfInBounds j v) t fr) := by
  obtain ⟨hlt, hk⟩ := Array.getElem?_eq_some_iff.1 h
  show (W.heap.modify K _)[K]? = _
  rw [Array.getElem?_eq_getElem (by rw [Array.size_modify]; exact hlt), Array.getElem_modify_self, hk]
  rfl

theorem BookIs.setNum {W : World} {K : Nat} {n : Int} {t a : Value} (h : BookIs W K n t a) (n' : Int) : BookIs (W.setCell ⟨K, 0, none⟩ (.int .i64 n')) K n' t a := heap_setCell_at W K 0 _ _ _ _ h
theorem BookIs.setTexts {W : World} {K : Nat} {n : Int} {t a : Value} (h : BookIs W K n t a) (t' : Value) : BookIs (W.setCell ⟨K, 3, none⟩ t') K n t' a := heap_setCell_at W K 3 _ _ _ _ h
theorem BookIs.setAttrs {W : World} {K : Nat} {n : Int} {t a : Value} (h : BookIs W K n t a) (a' : Value) : BookIs (W.setCell ⟨K, 6, none⟩ a') K n t a' := heap_setCell_at W K 6 _ _ _ _ h

theorem infoA : (Tryz.prog.info? 141).map (fun i => (i.zero, i.size, i.bytes)) = some (some (.agg #[nilS, nilS, .int .i64 0]), 3, 56) := by kernel_rfl

theorem step_append_own' {P : Program} {ops : Array Oper} {o : Oper} {a : Act} {w : World} {K : Act → World → Prop} {Q : Exit → Act → World → Prop} {E : Prop}
    (hg : o.guard = none) (s x : Operand) (t : TypeId) (ho : o.op = .call { callee := .builtin .append, args := #[s, x], argTypes := #[t, t] })
    (base : Nat) (e : TypeId) (i : TypeInfo) (z : Value) (size bytes : Nat) (ht : P.underlying t = some (.slice e)) (hi : P.info? e = some i) (hz : i.zero = some z)
    (hsize : i.size = size) (hby : i.bytes = bytes) (hzs : z.cells.size = size) (hsz : 0 < size)
    (v : Value) (n : Nat) (xs : List Value) (hs : a.eval s = v) (hown : w.ownsRow base e size v n xs)
    (ad : Addr) (m c : Nat) (news : List Value) (hx : a.eval x = .slice (some ad) m c) (hl : news.length = m * size) (hnews : ∀ j u, news[j]? = some u → w.cell? (ad.add j) = some u) (h1 : ∀ u ∈ news, u.oneCell' = true)
    (h63 : n + m ≤ maxLen) (hbytes : (n + m) * bytes ≤ 140737488355328) (hbase : base ≤ w.heap.size)
    (h : ∀ v' w', w'.ownsRow base e size v' (n + m) (xs ++ news) → w.grownBy w' v.ownBlock → (v' = .slice none 0 0 ↔ v = .slice none 0 0 ∧ m = 0) → K (a.put o.dst v') w') :
    if Region.wanted o (yielded ops a.tmps) = true then Oper.wp P o a w K Q else E := by
  have hw : Region.wanted o (yielded ops a.tmps) = true := by simp [Region.wanted, hg]
  rw [if_pos hw]
  exact wp_append_own w s x t ho base e i z size bytes ht hi hz hsize hby hzs hsz v n xs hs hown ad m c news hx hl hnews h1 h63 hbytes hbase h

theorem new3 (W : World) (a b c : Value) (t : TypeId) : ∀ j u, [a, b, c][j]? = some u → (W.alloc (.cells #[a, b, c] t)).cell? ((⟨W.heap.size, 0, none⟩ : Addr).add j) = some u := by
  intro j u hj
  have ea : (⟨W.heap.size, 0, none⟩ : Addr).add j = ⟨W.heap.size, j, none⟩ := by by_cases hj0 : j = 0 <;> simp [Addr.add, hj0]
  rw [ea, World.cell?_alloc_new, ← hj]
  simp

theorem book_behind {W w2 : World} {K : Nat} {n : Int} {t a : Value} {o : Obj} {row : Option Nat} (h : BookIs W K n t a) (hg : ((W.alloc o).drew).grownBy w2 row) (hr : row ≠ some K) : BookIs w2 K n t a := by
  have h1 : BookIs (W.alloc o).drew K n t a := h.kept (S := fun _ => False) (((KeptBut.refl _ W).alloc o).drew) (fun h => h)
  exact (hg.block K h1.lt (fun e => hr e.symm)).trans h1

theorem book_not_row {W : World} {K : Nat} {n : Int} {t a : Value} (h : BookIs W K n t a) {base e size k : Nat} {v : Value} {xs : List Value} (he : e ≠ 48) (hr : W.ownsRow base e size v k xs) : v.ownBlock ≠ some K := by
  rcases hr.2 with ⟨rfl, _⟩ | ⟨g, cap, cur, rfl, _, hg, _⟩
  · simp [Value.ownBlock]
  · intro e'
    obtain rfl : g = K := by simpa [Value.ownBlock] using e'
    have := (show W.heap[g]? = _ from h).symm.trans hg
    simp at this
    exact he this.2.symm

set_option maxHeartbeats 1000000 in
theorem keepAttr_any (base K : Nat) (n : Int) (t : Value) (p : Option Addr) (m c : Nat) (xs : List Value) (lp : Option Addr) (ln lc : Nat) (w : World) (hn : 0 ≤ n ∧ n ≤ 1000) (hm : m ≤ 1000) (hB : BookIs w K n t (.slice p m c)) (hbase : base ≤ w.heap.size)
    (hown : w.ownsRow base 141 3 (.slice p m c) m xs) (hK : (Value.slice p m c).ownBlock ≠ some K) :
    Calls Tryz.prog 101 #[.pointer (some ⟨K, 0, none⟩), .slice lp ln lc] w fun e w' => e = .returned (.tuple #[]) ∧ ∃ (p' : Option Addr) (c' : Nat), BookIs w' K (n + 1) t (.slice p' (m + 1) c') ∧
      w'.ownsRow base 141 3 (.slice p' (m + 1) c') (m + 1) (xs ++ [.slice lp ln lc, nilS, .int .i64 (n + 1)]) ∧ KeptBut (fun b => b = K ∨ (Value.slice p m c).ownBlock = some b) w w' := by
  have c0 := hB.num
  have f0 := hB.frozen 0
  have c3 := hB.attrs
  have f3 := hB.frozen 6
  obtain ⟨i0, hi, hz0, hz1, hz2⟩ := info_parts infoA
  go_enter Tryz.func101, Tryz.ntmps101
  go_wp2
  obtain ⟨W1, hW1⟩ : ∃ W1, w.setCell ⟨K, 0, none⟩ (.int .i64 (n + 1)) = W1 := ⟨_, rfl⟩
  have hk1 : KeptBut (fun b => b = K ∨ (Value.slice p m c).ownBlock = some b) w W1 := by rw [← hW1]; exact (KeptBut.refl _ w).setCell (.inl (.inl rfl)) _
  have hB1 : BookIs W1 K (n + 1) t (.slice p m c) := by rw [← hW1]; exact hB.setNum _
  have hown1 : W1.ownsRow base 141 3 (.slice p m c) m xs := by rw [← hW1]; exact ownsRow_setCell_other hown hK _
  have hbase1 : base ≤ W1.heap.size := by rw [← hW1]; simpa [World.setCell] using hbase
  rw [hW1]
  clear hW1 c0 f0 c3 f3 hown hbase
  have c0 := hB1.num
  have c3 := hB1.attrs
  have hKlt := hB1.lt
  go_region_law (refine step_append_own' rfl (.tmp 15) (.tmp 22) 35 rfl base 141 i0 (.agg #[nilS, nilS, .int .i64 0]) 3 56 Tryz.underlying35 hi hz0 hz1 hz2 rfl (by decide) (.slice p m c) m xs rfl (by exact World.ownsRow.drew (hown1.alloc _)) ⟨W1.heap.size, 0, none⟩ 1 1 [.slice lp ln lc, nilS, .int .i64 (n + 1)] rfl rfl (by exact new3 W1 _ _ _ 141) (by simp [Value.oneCell']) (by unfold maxLen; omega) (by omega) (by simp; omega) ?_; intro v' w2 r1 r2 r3; obtain ⟨g', cap', rfl⟩ := ownsRow_succ r1; have hB2 := book_behind hB1 r2 hK; have d3 := hB2.attrs; have e3 := hB2.frozen 6)
  all_goals go_end0
  all_goals exact ⟨rfl, some ⟨g', 0, none⟩, cap', hB2.setAttrs _, ownsRow_setCell_other r1 (book_not_row hB2 (by decide) r1) _, KeptBut.setCell (((hk1.alloc _).drew).grown r2 (fun k hk => .inl (.inr hk))) (.inl (.inl rfl)) _⟩
end Go.Proofs.YtikeaiibociapaaGreatDoor.src
