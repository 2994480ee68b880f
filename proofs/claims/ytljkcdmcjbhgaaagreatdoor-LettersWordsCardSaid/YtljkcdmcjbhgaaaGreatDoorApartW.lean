import Derived.Test.YtljkcdmcjbhgaaaGreatDoorApart
namespace Go.Proofs.YtljkcdmcjbhgaaaGreatDoor
open Go.RowKit
set_option maxRecDepth 100000

/-- what a law holds is apart: all that is told to a book with texts alone -/
structure Told (w : World) (base K : Nat) (n : Int) (T c : Nat) (hs : List Held) (rows : Nat → List Value) : Prop where
  book : BookIs w K n (some ⟨T, 0, none⟩) hs.length c
  texts : w.ownsRow base 56 3 (.slice (some ⟨T, 0, none⟩) hs.length c) hs.length (heldRow hs)
  low : base ≤ w.heap.size
  nu : ∀ i (h : i < hs.length), hs[i].nu < 100
  len : hs.length ≤ 1000
  n : ∀ i (h : i < hs.length), hs[i].n ≤ 4294967296
  row : ∀ i (h : i < hs.length), w.ownsRow base 9 1 hs[i].v hs[i].n (rows i)
  ne : ∀ i j (hi : i < hs.length) (hj : j < hs.length), i ≠ j → ∀ g, hs[i].v.ownBlock = some g → hs[j].v.ownBlock ≠ some g

theorem Told.sep {w : World} {base K : Nat} {n : Int} {T c : Nat} {hs : List Held} {rows : Nat → List Value} (h : Told w base K n T c hs rows) : Sep K T hs where
  nu := h.nu
  len := by have := h.len; omega
  n := fun i hi => by have := h.n i hi; omega
  nK := fun i hi => book_not_row h.book (by decide) (h.row i hi)
  nT := fun i hi => by
    intro e
    exact row_not_row (by decide) (h.row i hi) h.texts T e rfl
  KT := fun e => book_not_row h.book (by decide) h.texts (by rw [e]; rfl)
  ne := h.ne

set_option maxHeartbeats 8000000 in
theorem apart_any {w : World} {base K : Nat} {n : Int} {T c : Nat} {hs : List Held} {rows : Nat → List Value} (h : Told w base K n T c hs rows) :
    Calls Tryz.prog 9 #[.pointer (some ⟨K, 0, none⟩)] w fun e w' => e = .returned (.bool true) ∧ KeptBut (fun b => b = T ∨ Own hs b) w w' := by
  have hS := h.sep
  have hB := h.book
  have hK0 := book_start h.book h.texts
  have hR := h.row
  have hn40 := h.n
  have hbase := h.low
  have hKO : ¬ Own hs K := fun ⟨i, hi, e⟩ => hS.nK i hi e
  have hKT := hS.KT
  clear h
  go_enter Tryz.func9, Tryz.ntmps9
  go_wp2_with (first | (go_at_call 13; refine (fillByte_none K _ (hB.nils 1 (by decide))).mono ?_; rintro e w' ⟨rfl, rfl⟩) | (go_at_call 14; refine (fillInt_none K _ (hB.nils 2 (by decide))).mono ?_; rintro e w' ⟨rfl, rfl⟩))
  go_at_call 15
  refine (fillText_any base K T c hs _ rows _ hK0 hS hR).mono ?_
  rintro e w1 ⟨rfl, hk1, hR1⟩
  have hB1 := hB.kept hk1 hKO
  have hK1 := hK0.kept hk1 hKO (fun ⟨i, hi, e⟩ => hS.nT i hi e)
  have hbase1 : base ≤ w1.heap.size := Nat.le_trans hbase hk1.size
  go_wp2_with (first | (go_at_call 16; refine (fillFault_none K _ (hB1.nils 4 (by decide))).mono ?_; rintro e w' ⟨rfl, rfl⟩) | (go_at_call 17; refine (fillLine_none K _ (hB1.nils 5 (by decide))).mono ?_; rintro e w' ⟨rfl, rfl⟩) | (go_at_call 18; refine (fillSource_none K _ (hB1.nils 6 (by decide))).mono ?_; rintro e w' ⟨rfl, rfl⟩) | (go_at_call 19; refine (fillAttr_none K _ (hB1.nils 7 (by decide))).mono ?_; rintro e w' ⟨rfl, rfl⟩) | (go_at_call 20; refine (fillDiag_none K _ (hB1.nils 8 (by decide))).mono ?_; rintro e w' ⟨rfl, rfl⟩) | (go_at_call 21; refine (fillSpan_none K _ (hB1.nils 9 (by decide))).mono ?_; rintro e w' ⟨rfl, rfl⟩) | (go_at_call 22; refine (fillCell_none K _ (hB1.nils 10 (by decide))).mono ?_; rintro e w' ⟨rfl, rfl⟩) | (go_at_call 23; refine (fillRow_none K _ (hB1.nils 11 (by decide))).mono ?_; rintro e w' ⟨rfl, rfl⟩) | (go_at_call 24; refine (fillBlock_none K _ (hB1.nils 12 (by decide))).mono ?_; rintro e w' ⟨rfl, rfl⟩) | (go_at_call 25; refine (fillChapter_none K _ (hB1.nils 13 (by decide))).mono ?_; rintro e w' ⟨rfl, rfl⟩) | (go_at_call 26; refine (fillPlace_none K _ (hB1.nils 14 (by decide))).mono ?_; rintro e w' ⟨rfl, rfl⟩) | (go_at_call 27; refine (fillLocator_none K _ (hB1.nils 15 (by decide))).mono ?_; rintro e w' ⟨rfl, rfl⟩) | (go_at_call 28; refine (fillEntry_none K _ (hB1.nils 16 (by decide))).mono ?_; rintro e w' ⟨rfl, rfl⟩) | (go_at_call 29; refine (fillFile_none K _ (hB1.nils 17 (by decide))).mono ?_; rintro e w' ⟨rfl, rfl⟩) | (go_at_call 30; refine (growByte_none K _ (hB1.nils 1 (by decide))).mono ?_; rintro e w' ⟨rfl, rfl⟩) | (go_at_call 31; refine (growInt_none K _ (hB1.nils 2 (by decide))).mono ?_; rintro e w' ⟨rfl, rfl⟩))
  go_at_call 32
  refine (growText_any base K T c hs _ _ hK1 hS hbase1 hn40 hR1).mono ?_
  rintro e w2 ⟨rfl, hk2, hR2, L, hK2, hL2⟩
  have hB2 := hB1.kept hk2 (fun e => e.elim hKT hKO)
  go_wp2_with (first | (go_at_call 33; refine (growFault_none K _ (hB2.nils 4 (by decide))).mono ?_; rintro e w' ⟨rfl, rfl⟩) | (go_at_call 34; refine (growLine_none K _ (hB2.nils 5 (by decide))).mono ?_; rintro e w' ⟨rfl, rfl⟩) | (go_at_call 35; refine (growSource_none K _ (hB2.nils 6 (by decide))).mono ?_; rintro e w' ⟨rfl, rfl⟩) | (go_at_call 36; refine (growAttr_none K _ (hB2.nils 7 (by decide))).mono ?_; rintro e w' ⟨rfl, rfl⟩) | (go_at_call 37; refine (growDiag_none K _ (hB2.nils 8 (by decide))).mono ?_; rintro e w' ⟨rfl, rfl⟩) | (go_at_call 38; refine (growSpan_none K _ (hB2.nils 9 (by decide))).mono ?_; rintro e w' ⟨rfl, rfl⟩) | (go_at_call 39; refine (growCell_none K _ (hB2.nils 10 (by decide))).mono ?_; rintro e w' ⟨rfl, rfl⟩) | (go_at_call 40; refine (growRow_none K _ (hB2.nils 11 (by decide))).mono ?_; rintro e w' ⟨rfl, rfl⟩) | (go_at_call 41; refine (growBlock_none K _ (hB2.nils 12 (by decide))).mono ?_; rintro e w' ⟨rfl, rfl⟩) | (go_at_call 42; refine (growChapter_none K _ (hB2.nils 13 (by decide))).mono ?_; rintro e w' ⟨rfl, rfl⟩) | (go_at_call 43; refine (growPlace_none K _ (hB2.nils 14 (by decide))).mono ?_; rintro e w' ⟨rfl, rfl⟩) | (go_at_call 44; refine (growLocator_none K _ (hB2.nils 15 (by decide))).mono ?_; rintro e w' ⟨rfl, rfl⟩) | (go_at_call 45; refine (growEntry_none K _ (hB2.nils 16 (by decide))).mono ?_; rintro e w' ⟨rfl, rfl⟩) | (go_at_call 46; refine (growFile_none K _ (hB2.nils 17 (by decide))).mono ?_; rintro e w' ⟨rfl, rfl⟩) | (go_at_call 47; refine (lookByte_none K _ (hB2.nils 1 (by decide))).mono ?_; rintro e w' ⟨rfl, rfl⟩) | (go_at_call 48; refine (lookInt_none K _ (hB2.nils 2 (by decide))).mono ?_; rintro e w' ⟨rfl, rfl⟩))
  refine (lookText_any base K T c hs L _ hK2 hS hn40 hR2 (fun i hi => ⟨(hL2 i hi hi).1, (hL2 i hi hi).2.1⟩)).mono ?_
  rintro e w3 ⟨rfl, hk3⟩
  have hB3 := hB2.kept hk3 (fun e => e)
  go_wp2_with (first | (go_at_call 50; refine (lookFault_none K _ (hB3.nils 4 (by decide))).mono ?_; rintro e w' ⟨rfl, rfl⟩) | (go_at_call 51; refine (lookLine_none K _ (hB3.nils 5 (by decide))).mono ?_; rintro e w' ⟨rfl, rfl⟩) | (go_at_call 52; refine (lookSource_none K _ (hB3.nils 6 (by decide))).mono ?_; rintro e w' ⟨rfl, rfl⟩) | (go_at_call 53; refine (lookAttr_none K _ (hB3.nils 7 (by decide))).mono ?_; rintro e w' ⟨rfl, rfl⟩) | (go_at_call 54; refine (lookDiag_none K _ (hB3.nils 8 (by decide))).mono ?_; rintro e w' ⟨rfl, rfl⟩) | (go_at_call 55; refine (lookSpan_none K _ (hB3.nils 9 (by decide))).mono ?_; rintro e w' ⟨rfl, rfl⟩) | (go_at_call 56; refine (lookCell_none K _ (hB3.nils 10 (by decide))).mono ?_; rintro e w' ⟨rfl, rfl⟩) | (go_at_call 57; refine (lookRow_none K _ (hB3.nils 11 (by decide))).mono ?_; rintro e w' ⟨rfl, rfl⟩) | (go_at_call 58; refine (lookBlock_none K _ (hB3.nils 12 (by decide))).mono ?_; rintro e w' ⟨rfl, rfl⟩) | (go_at_call 59; refine (lookChapter_none K _ (hB3.nils 13 (by decide))).mono ?_; rintro e w' ⟨rfl, rfl⟩) | (go_at_call 60; refine (lookPlace_none K _ (hB3.nils 14 (by decide))).mono ?_; rintro e w' ⟨rfl, rfl⟩) | (go_at_call 61; refine (lookLocator_none K _ (hB3.nils 15 (by decide))).mono ?_; rintro e w' ⟨rfl, rfl⟩) | (go_at_call 62; refine (lookEntry_none K _ (hB3.nils 16 (by decide))).mono ?_; rintro e w' ⟨rfl, rfl⟩) | (go_at_call 63; refine (lookFile_none K _ (hB3.nils 17 (by decide))).mono ?_; rintro e w' ⟨rfl, rfl⟩))
  go_ret
  exact ⟨rfl, ((hk1.mono fun _ h => .inr h).trans hk2).trans (hk3.mono fun _ h => h.elim)⟩
end Go.Proofs.YtljkcdmcjbhgaaaGreatDoor
