import Derived.Test.YtljkcdmcjbhgaaaGreatDoorAppend
import Derived.Maps.AppendAt
namespace Go.Proofs.YtljkcdmcjbhgaaaGreatDoor
open Go.RowKit
set_option maxRecDepth 100000

theorem info9 : (Tryz.prog.info? 9).map (fun i => (i.zero, i.size, i.bytes)) = some (some (.string ⟨#[]⟩), 1, 16) := by kernel_rfl

theorem KeptBut.behind {S S2 : Nat → Prop} {a b c : World} (h : KeptBut S a b) (k : KeptBut S2 b c) (hs : ∀ x, S2 x → S x ∨ a.heap.size ≤ x) : KeptBut S a c :=
  ⟨k.os.trans h.os, k.tape.trans h.tape, k.output.trans h.output, Nat.le_trans h.size k.size, fun i hi hn =>
    (k.block i (Nat.lt_of_lt_of_le hi h.size) (fun e => by rcases hs i e with h1 | h1; exact hn h1; omega)).trans (h.block i hi hn)⟩

theorem Bk.setLong {W : World} {K T cT : Nat} {hs : List Held} {ls : Nat → Sl} (h : Bk W K T cT hs ls) (hKT : K ≠ T) (k : Nat) (hk : k < hs.length) (s : Sl) :
    Bk (W.setCell ⟨T, k * 3 + 1, none⟩ s.v) K T cT hs (fun i => if i = k then s else ls i) where
  field := by rw [World.cell?_setCell_other _ _ _ _ (by intro e; injection e; exact hKT (by omega))]; exact h.field
  v := fun i hi => by rw [World.cell?_setCell_other _ _ _ _ (by intro e; injection e; omega)]; exact h.v i hi
  l := fun i hi => by
    by_cases e : i = k
    · subst e
      rw [if_pos rfl, World.cell?_setCell_same' _ _ _ (by rw [h.l i hi]; rfl)]
    · rw [if_neg e, World.cell?_setCell_other _ _ _ _ (by intro e'; injection e'; omega)]; exact h.l i hi
  nu := fun i hi => by rw [World.cell?_setCell_other _ _ _ _ (by intro e; injection e; omega)]; exact h.nu i hi
  fr := fun i hi => by rw [World.frozen?_setCell]; exact h.fr i hi
  lo := by simpa [World.setCell] using h.lo
  lt := by simpa [World.setCell] using h.lt

theorem Bk.congr {W : World} {K T cT : Nat} {hs : List Held} {ls ls' : Nat → Sl} (h : Bk W K T cT hs ls) (e : ∀ i, i < hs.length → ls i = ls' i) : Bk W K T cT hs ls' where
  field := h.field
  v := h.v
  l := fun i hi => by rw [← e i hi]; exact h.l i hi
  nu := h.nu
  fr := h.fr
  lo := h.lo
  lt := h.lt

/-- the longer lists -/
def Longs (w : World) (base : Nat) (hs : List Held) (L : Nat → Sl) (wr : World) (k : Nat) : Prop :=
  ∀ i (h : i < hs.length), i < k → (L i).n = hs[i].n + 40 ∧ wr.ownsRow base 9 1 (L i).v (hs[i].n + 40) (marks hs[i] (hs[i].n + 40)) ∧ ∀ g, (L i).v.ownBlock = some g → hs[i].v.ownBlock = some g ∨ w.heap.size ≤ g

theorem marks_snoc (h : Held) (k : Nat) : marks h k ++ [.string (markT h.nu)] = marks h (k + 1) := by unfold marks; rw [List.replicate_succ']

theorem row_kept {w w' : World} {base n k c' : Nat} {x : Held} {p : Option Addr} {xs ys : List Value} (h : w.ownsRow base 9 1 x.v n xs) (hx : x.n = n) (hk : w.ownsRow base 9 1 (.slice p k c') k ys) (hn : n ≤ k)
    (hkb : KeptBut (fun b => (Value.slice p k c').ownBlock = some b) w w') (h' : w'.ownsRow base 9 1 (.slice p k c') k ys) : w'.ownsRow base 9 1 x.v n xs := by
  obtain ⟨xp, xn, xc, xu⟩ := x
  simp only at hx
  subst hx
  cases p with
  | none => exact hkb.row h (fun g _ hg' => by cases hg')
  | some a =>
    cases xp with
    | none => exact hkb.row h (fun g hg _ => by cases hg)
    | some b =>
      by_cases e : b.block = a.block
      · have ha : a = ⟨a.block, 0, none⟩ := by
          rcases hk.2 with ⟨h0, _⟩ | ⟨g, _, _, h0, _⟩
          · cases h0
          · cases h0; rfl
        have hb : b = ⟨a.block, 0, none⟩ := by
          rcases h.2 with ⟨h0, _⟩ | ⟨g, _, _, h0, _⟩
          · cases h0
          · cases h0; rw [← e]
        unfold Held.v at h ⊢
        simp only at h ⊢
        rw [hb] at h ⊢
        rw [ha] at hk h'
        exact row_head h hk h' hn
      · exact hkb.row h (fun g hg hg' => by
          apply e
          have h1 : b.block = g := by simpa [Held.v, Value.ownBlock] using hg
          have h2 : a.block = g := by simpa [Value.ownBlock] using hg'
          omega)
end Go.Proofs.YtljkcdmcjbhgaaaGreatDoor
