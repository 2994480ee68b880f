import Derived.Test.YtikeaiibociapaaGreatDoorKeepA
import Derived.Test.YtikeaiibociapaaGreatDoorHollowA
import Derived.Test.YtikeaiibociapaaGreatDoorHollowB
import Derived.Test.YtikeaiibociapaaGreatDoorHollowT
namespace Go.Proofs.YtikeaiibociapaaGreatDoor
open Go.RowKit
set_option maxRecDepth 100000

/-- the cells of what is held -/
def heldRow (hs : List Held) : List Value := hs.flatMap fun h => [h.v, nilS, .int .i64 h.nu]

theorem heldRow_at : ∀ (hs : List Held) (i : Nat) (h : i < hs.length), (heldRow hs)[i * 3]? = some hs[i].v ∧ (heldRow hs)[i * 3 + 1]? = some nilS ∧ (heldRow hs)[i * 3 + 2]? = some (.int .i64 hs[i].nu)
  | x :: hs, 0, _ => ⟨rfl, rfl, rfl⟩
  | x :: hs, i + 1, h => by
    have ih := heldRow_at hs i (by simpa using h)
    have e : heldRow (x :: hs) = [x.v, nilS, .int .i64 x.nu] ++ heldRow hs := rfl
    have a1 : (i + 1) * 3 = i * 3 + 3 := by omega
    rw [e, a1]
    refine ⟨?_, ?_, ?_⟩
    · rw [List.getElem?_append_right (by simp)]; simpa using ih.1
    · rw [List.getElem?_append_right (by simp)]; simpa using ih.2.1
    · rw [List.getElem?_append_right (by simp)]; simpa using ih.2.2

theorem book_startA {w : World} {base K : Nat} {n : Int} {t : Value} {T c : Nat} {hs : List Held} (hB : BookIs w K n t (.slice (some ⟨T, 0, none⟩) hs.length c)) (hT : w.ownsRow base 123 3 (.slice (some ⟨T, 0, none⟩) hs.length c) hs.length (heldRow hs)) : Bk 7 w K T c hs (fun _ => ⟨none, 0, 0⟩) := by
  obtain ⟨h1, ⟨h0, _⟩ | ⟨g, cap, cur, e, b, q, n1, m1, s1, t1⟩⟩ := hT
  · cases h0
  · cases e
    have hc : ∀ j v, (heldRow hs)[j]? = some v → w.cell? ⟨T, j, none⟩ = some v := by
      intro j v hj
      have : cur.toList[j]? = some v := by
        rw [← t1] at hj
        rw [List.getElem?_take] at hj
        split at hj
        · exact hj
        · cases hj
      simp [World.cell?, q]
      simpa using this
    exact {
      field := hB.attrs
      v := fun i h => hc _ _ (heldRow_at hs i h).1
      l := fun i h => hc _ _ (heldRow_at hs i h).2.1
      nu := fun i h => hc _ _ (heldRow_at hs i h).2.2
      fr := fun i h => by simp [World.frozen?, q]
      lo := hB.lt
      lt := (Array.getElem?_eq_some_iff.1 q).1 }

theorem book_startT {w : World} {base K : Nat} {n : Int} {a : Value} {T c : Nat} {hs : List Held} (hB : BookIs w K n (.slice (some ⟨T, 0, none⟩) hs.length c) a) (hT : w.ownsRow base 125 3 (.slice (some ⟨T, 0, none⟩) hs.length c) hs.length (heldRow hs)) : Bk 3 w K T c hs (fun _ => ⟨none, 0, 0⟩) := by
  obtain ⟨h1, ⟨h0, _⟩ | ⟨g, cap, cur, e, b, q, n1, m1, s1, t1⟩⟩ := hT
  · cases h0
  · cases e
    have hc : ∀ j v, (heldRow hs)[j]? = some v → w.cell? ⟨T, j, none⟩ = some v := by
      intro j v hj
      have : cur.toList[j]? = some v := by
        rw [← t1] at hj
        rw [List.getElem?_take] at hj
        split at hj
        · exact hj
        · cases hj
      simp [World.cell?, q]
      simpa using this
    exact {
      field := hB.texts
      v := fun i h => hc _ _ (heldRow_at hs i h).1
      l := fun i h => hc _ _ (heldRow_at hs i h).2.1
      nu := fun i h => hc _ _ (heldRow_at hs i h).2.2
      fr := fun i h => by simp [World.frozen?, q]
      lo := hB.lt
      lt := (Array.getElem?_eq_some_iff.1 q).1 }

theorem row_not_row {W : World} {base base' e e' size size' k k' : Nat} {v v' : Value} {xs xs' : List Value} (he : e ≠ e') (h : W.ownsRow base e size v k xs) (h' : W.ownsRow base' e' size' v' k' xs') : ∀ g, v.ownBlock = some g → v'.ownBlock ≠ some g := by
  intro g hg hg'
  rcases h.2 with ⟨rfl, _⟩ | ⟨g1, cap, cur, rfl, _, q, _⟩
  · cases hg
  · rcases h'.2 with ⟨rfl, _⟩ | ⟨g2, cap2, cur2, rfl, _, q2, _⟩
    · cases hg'
    · cases hg; cases hg'
      rw [q] at q2
      cases q2
      exact he rfl

/-- what a law holds is apart: all that is told to a book with attributes alone -/
structure ToldA (w : World) (base K : Nat) (n : Int) (T c : Nat) (hs : List Held) (rows : Nat → List Value) : Prop where
  book : BookIs w K n nilS (.slice (some ⟨T, 0, none⟩) hs.length c)
  list : w.ownsRow base 123 3 (.slice (some ⟨T, 0, none⟩) hs.length c) hs.length (heldRow hs)
  low : base ≤ w.heap.size
  nu : ∀ i (h : i < hs.length), hs[i].nu < 100
  len : hs.length ≤ 1000
  n : ∀ i (h : i < hs.length), hs[i].n ≤ 1000000000
  row : ∀ i (h : i < hs.length), w.ownsRow base 84 2 hs[i].v hs[i].n (rows i)
  ne : ∀ i j (hi : i < hs.length) (hj : j < hs.length), i ≠ j → ∀ g, hs[i].v.ownBlock = some g → hs[j].v.ownBlock ≠ some g

theorem ToldA.sep {w : World} {base K : Nat} {n : Int} {T c : Nat} {hs : List Held} {rows : Nat → List Value} (h : ToldA w base K n T c hs rows) : Sep K T hs where
  nu := h.nu
  len := by have := h.len; omega
  n := fun i hi => by have := h.n i hi; omega
  nK := fun i hi => book_not_row h.book (by decide) (h.row i hi)
  nT := fun i hi => by
    intro e
    exact row_not_row (by decide) (h.row i hi) h.list T e rfl
  KT := fun e => book_not_row h.book (by decide) h.list (by rw [e]; rfl)
  ne := h.ne

set_option maxHeartbeats 8000000 in
theorem apartA_any {w : World} {base K : Nat} {n : Int} {T c : Nat} {hs : List Held} {rows : Nat → List Value} (h : ToldA w base K n T c hs rows) :
    Calls Tryz.prog 19 #[.pointer (some ⟨K, 0, none⟩)] w fun e w' => e = .returned (.bool true) ∧ KeptBut (fun b => b = T ∨ Own hs b) w w' := by
  have hS := h.sep
  have hB := h.book
  have hK0 := book_startA h.book h.list
  have hR := h.row
  have hn40 : ∀ i (hi : i < hs.length), hs[i].n ≤ 4294967296 := fun i hi => by have := h.n i hi; omega
  have hn41 := h.n
  have hbase := h.low
  have hKO : ¬ Own hs K := fun ⟨i, hi, e⟩ => hS.nK i hi e
  have hKT := hS.KT
  clear h
  go_enter Tryz.func19, Tryz.ntmps19
  go_wp2_with (first | (go_at_call 47; refine (fillByte_none K _ (hB.nils 1 (by decide))).mono ?_; rintro e w' ⟨rfl, rfl⟩) | (go_at_call 48; refine (fillInt_none K _ (hB.nils 2 (by decide))).mono ?_; rintro e w' ⟨rfl, rfl⟩) | (go_at_call 49; refine (fillText_none K _ hB.texts).mono ?_; rintro e w' ⟨rfl, rfl⟩) | (go_at_call 50; refine (fillFault_none K _ (hB.nils 4 (by decide))).mono ?_; rintro e w' ⟨rfl, rfl⟩) | (go_at_call 51; refine (fillLine_none K _ (hB.nils 5 (by decide))).mono ?_; rintro e w' ⟨rfl, rfl⟩) | (go_at_call 52; refine (fillSource_none K _ (hB.nils 6 (by decide))).mono ?_; rintro e w' ⟨rfl, rfl⟩))
  go_at_call 53
  refine (fillAttr_any base K T c hs _ rows _ hK0 hS hR).mono ?_
  rintro e w1 ⟨rfl, hk1, hR1⟩
  have hB1 := hB.kept hk1 hKO
  have hK1 := hK0.kept hk1 hKO (fun ⟨i, hi, e⟩ => hS.nT i hi e)
  have hbase1 : base ≤ w1.heap.size := Nat.le_trans hbase hk1.size
  go_wp2_with (first | (go_at_call 54; refine (fillDiag_none K _ (hB1.nils 8 (by decide))).mono ?_; rintro e w' ⟨rfl, rfl⟩) | (go_at_call 55; refine (fillSpan_none K _ (hB1.nils 9 (by decide))).mono ?_; rintro e w' ⟨rfl, rfl⟩) | (go_at_call 56; refine (fillCell_none K _ (hB1.nils 10 (by decide))).mono ?_; rintro e w' ⟨rfl, rfl⟩) | (go_at_call 57; refine (fillRow_none K _ (hB1.nils 11 (by decide))).mono ?_; rintro e w' ⟨rfl, rfl⟩) | (go_at_call 58; refine (fillBlock_none K _ (hB1.nils 12 (by decide))).mono ?_; rintro e w' ⟨rfl, rfl⟩) | (go_at_call 59; refine (fillChapter_none K _ (hB1.nils 13 (by decide))).mono ?_; rintro e w' ⟨rfl, rfl⟩) | (go_at_call 60; refine (fillPlace_none K _ (hB1.nils 14 (by decide))).mono ?_; rintro e w' ⟨rfl, rfl⟩) | (go_at_call 61; refine (fillLocator_none K _ (hB1.nils 15 (by decide))).mono ?_; rintro e w' ⟨rfl, rfl⟩) | (go_at_call 62; refine (fillEntry_none K _ (hB1.nils 16 (by decide))).mono ?_; rintro e w' ⟨rfl, rfl⟩) | (go_at_call 63; refine (fillFile_none K _ (hB1.nils 17 (by decide))).mono ?_; rintro e w' ⟨rfl, rfl⟩) | (go_at_call 64; refine (growByte_none K _ (hB1.nils 1 (by decide))).mono ?_; rintro e w' ⟨rfl, rfl⟩) | (go_at_call 65; refine (growInt_none K _ (hB1.nils 2 (by decide))).mono ?_; rintro e w' ⟨rfl, rfl⟩) | (go_at_call 66; refine (growText_none K _ hB1.texts).mono ?_; rintro e w' ⟨rfl, rfl⟩) | (go_at_call 67; refine (growFault_none K _ (hB1.nils 4 (by decide))).mono ?_; rintro e w' ⟨rfl, rfl⟩) | (go_at_call 68; refine (growLine_none K _ (hB1.nils 5 (by decide))).mono ?_; rintro e w' ⟨rfl, rfl⟩) | (go_at_call 69; refine (growSource_none K _ (hB1.nils 6 (by decide))).mono ?_; rintro e w' ⟨rfl, rfl⟩))
  go_at_call 70
  refine (growAttr_any base K T c hs _ _ hK1 hS hbase1 hn40 hR1).mono ?_
  rintro e w2 ⟨rfl, hk2, hR2, L, hK2, hL2⟩
  have hB2 := hB1.kept hk2 (fun e => e.elim hKT hKO)
  go_wp2_with (first | (go_at_call 71; refine (growDiag_none K _ (hB2.nils 8 (by decide))).mono ?_; rintro e w' ⟨rfl, rfl⟩) | (go_at_call 72; refine (growSpan_none K _ (hB2.nils 9 (by decide))).mono ?_; rintro e w' ⟨rfl, rfl⟩) | (go_at_call 73; refine (growCell_none K _ (hB2.nils 10 (by decide))).mono ?_; rintro e w' ⟨rfl, rfl⟩) | (go_at_call 74; refine (growRow_none K _ (hB2.nils 11 (by decide))).mono ?_; rintro e w' ⟨rfl, rfl⟩) | (go_at_call 75; refine (growBlock_none K _ (hB2.nils 12 (by decide))).mono ?_; rintro e w' ⟨rfl, rfl⟩) | (go_at_call 76; refine (growChapter_none K _ (hB2.nils 13 (by decide))).mono ?_; rintro e w' ⟨rfl, rfl⟩) | (go_at_call 77; refine (growPlace_none K _ (hB2.nils 14 (by decide))).mono ?_; rintro e w' ⟨rfl, rfl⟩) | (go_at_call 78; refine (growLocator_none K _ (hB2.nils 15 (by decide))).mono ?_; rintro e w' ⟨rfl, rfl⟩) | (go_at_call 79; refine (growEntry_none K _ (hB2.nils 16 (by decide))).mono ?_; rintro e w' ⟨rfl, rfl⟩) | (go_at_call 80; refine (growFile_none K _ (hB2.nils 17 (by decide))).mono ?_; rintro e w' ⟨rfl, rfl⟩) | (go_at_call 81; refine (lookByte_none K _ (hB2.nils 1 (by decide))).mono ?_; rintro e w' ⟨rfl, rfl⟩) | (go_at_call 82; refine (lookInt_none K _ (hB2.nils 2 (by decide))).mono ?_; rintro e w' ⟨rfl, rfl⟩) | (go_at_call 83; refine (lookText_none K _ hB2.texts).mono ?_; rintro e w' ⟨rfl, rfl⟩) | (go_at_call 84; refine (lookFault_none K _ (hB2.nils 4 (by decide))).mono ?_; rintro e w' ⟨rfl, rfl⟩) | (go_at_call 85; refine (lookLine_none K _ (hB2.nils 5 (by decide))).mono ?_; rintro e w' ⟨rfl, rfl⟩) | (go_at_call 86; refine (lookSource_none K _ (hB2.nils 6 (by decide))).mono ?_; rintro e w' ⟨rfl, rfl⟩))
  refine (lookAttr_any base K T c hs L _ hK2 hS hn40 hR2 (fun i hi => ⟨(hL2 i hi hi).1, (hL2 i hi hi).2.1⟩)).mono ?_
  rintro e w3 ⟨rfl, hk3⟩
  have hB3 := hB2.kept hk3 (fun e => e)
  go_wp2_with (first | (go_at_call 88; refine (lookDiag_none K _ (hB3.nils 8 (by decide))).mono ?_; rintro e w' ⟨rfl, rfl⟩) | (go_at_call 89; refine (lookSpan_none K _ (hB3.nils 9 (by decide))).mono ?_; rintro e w' ⟨rfl, rfl⟩) | (go_at_call 90; refine (lookCell_none K _ (hB3.nils 10 (by decide))).mono ?_; rintro e w' ⟨rfl, rfl⟩) | (go_at_call 91; refine (lookRow_none K _ (hB3.nils 11 (by decide))).mono ?_; rintro e w' ⟨rfl, rfl⟩) | (go_at_call 92; refine (lookBlock_none K _ (hB3.nils 12 (by decide))).mono ?_; rintro e w' ⟨rfl, rfl⟩) | (go_at_call 93; refine (lookChapter_none K _ (hB3.nils 13 (by decide))).mono ?_; rintro e w' ⟨rfl, rfl⟩) | (go_at_call 94; refine (lookPlace_none K _ (hB3.nils 14 (by decide))).mono ?_; rintro e w' ⟨rfl, rfl⟩) | (go_at_call 95; refine (lookLocator_none K _ (hB3.nils 15 (by decide))).mono ?_; rintro e w' ⟨rfl, rfl⟩) | (go_at_call 96; refine (lookEntry_none K _ (hB3.nils 16 (by decide))).mono ?_; rintro e w' ⟨rfl, rfl⟩) | (go_at_call 97; refine (lookFile_none K _ (hB3.nils 17 (by decide))).mono ?_; rintro e w' ⟨rfl, rfl⟩))
  go_ret
  exact ⟨rfl, ((hk1.mono fun _ h => .inr h).trans hk2).trans (hk3.mono fun _ h => h.elim)⟩
end Go.Proofs.YtikeaiibociapaaGreatDoor
