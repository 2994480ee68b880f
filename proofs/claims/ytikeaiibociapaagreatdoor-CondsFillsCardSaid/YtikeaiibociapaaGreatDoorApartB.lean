import Derived.Test.YtikeaiibociapaaGreatDoorApartA
import Derived.Test.YtikeaiibociapaaGreatDoorKeepT
import Derived.Test.YtikeaiibociapaaGreatDoorLookT
namespace Go.Proofs.YtikeaiibociapaaGreatDoor
open Go.RowKit
set_option maxRecDepth 100000

/-- what a law holds is apart: all that is told to a book with attributes and texts -/
structure ToldB (w : World) (base K : Nat) (n : Int) (T c : Nat) (hs : List Held) (rows : Nat → List Value) (T' c' : Nat) (hs' : List Held) (rows' : Nat → List Value) : Prop where
  book : BookIs w K n (.slice (some ⟨T', 0, none⟩) hs'.length c') (.slice (some ⟨T, 0, none⟩) hs.length c)
  low : base ≤ w.heap.size
  list : w.ownsRow base 123 3 (.slice (some ⟨T, 0, none⟩) hs.length c) hs.length (heldRow hs)
  nu : ∀ i (h : i < hs.length), hs[i].nu < 100
  len : hs.length ≤ 1000
  n : ∀ i (h : i < hs.length), hs[i].n ≤ 1000000000
  row : ∀ i (h : i < hs.length), w.ownsRow base 84 2 hs[i].v hs[i].n (rows i)
  ne : ∀ i j (hi : i < hs.length) (hj : j < hs.length), i ≠ j → ∀ g, hs[i].v.ownBlock = some g → hs[j].v.ownBlock ≠ some g
  list' : w.ownsRow base 125 3 (.slice (some ⟨T', 0, none⟩) hs'.length c') hs'.length (heldRow hs')
  nu' : ∀ i (h : i < hs'.length), hs'[i].nu < 100
  len' : hs'.length ≤ 1000
  n' : ∀ i (h : i < hs'.length), hs'[i].n ≤ 1000000000
  row' : ∀ i (h : i < hs'.length), w.ownsRow base 9 1 hs'[i].v hs'[i].n (rows' i)
  ne' : ∀ i j (hi : i < hs'.length) (hj : j < hs'.length), i ≠ j → ∀ g, hs'[i].v.ownBlock = some g → hs'[j].v.ownBlock ≠ some g

theorem ToldB.sepA {w : World} {base K : Nat} {n : Int} {T c T' c' : Nat} {hs hs' : List Held} {rows rows' : Nat → List Value} (h : ToldB w base K n T c hs rows T' c' hs' rows') : Sep K T hs where
  nu := h.nu
  len := by have := h.len; omega
  n := fun i hi => by have := h.n i hi; omega
  nK := fun i hi => book_not_row h.book (by decide) (h.row i hi)
  nT := fun i hi => by
    intro e
    exact row_not_row (by decide) (h.row i hi) h.list T e rfl
  KT := fun e => book_not_row h.book (by decide) h.list (by rw [e]; rfl)
  ne := h.ne
theorem ToldB.sepT {w : World} {base K : Nat} {n : Int} {T c T' c' : Nat} {hs hs' : List Held} {rows rows' : Nat → List Value} (h : ToldB w base K n T c hs rows T' c' hs' rows') : Sep K T' hs' where
  nu := h.nu'
  len := by have := h.len'; omega
  n := fun i hi => by have := h.n' i hi; omega
  nK := fun i hi => book_not_row h.book (by decide) (h.row' i hi)
  nT := fun i hi => by
    intro e
    exact row_not_row (by decide) (h.row' i hi) h.list' T' e rfl
  KT := fun e => book_not_row h.book (by decide) h.list' (by rw [e]; rfl)
  ne := h.ne'

set_option maxHeartbeats 8000000 in
theorem apartB_any {w : World} {base K : Nat} {n : Int} {T c T' c' : Nat} {hs hs' : List Held} {rows rows' : Nat → List Value} (h : ToldB w base K n T c hs rows T' c' hs' rows') :
    Calls Tryz.prog 19 #[.pointer (some ⟨K, 0, none⟩)] w fun e w' => e = .returned (.bool true) ∧ KeptBut (fun b => (b = T ∨ b = T') ∨ (Own hs b ∨ Own hs' b)) w w' := by
  have hSA := h.sepA
  have hST := h.sepT
  have hB := h.book
  have hKA := book_startA h.book h.list
  have hKT := book_startT h.book h.list'
  have hRA := h.row
  have hRT := h.row'
  have hnA : ∀ i (hi : i < hs.length), hs[i].n ≤ 4294967296 := fun i hi => by have := h.n i hi; omega
  have hnT : ∀ i (hi : i < hs'.length), hs'[i].n ≤ 4294967296 := fun i hi => by have := h.n' i hi; omega
  have hbase := h.low
  -- who is unlike whom
  have kA : ¬ Own hs K := fun ⟨i, hi, e⟩ => hSA.nK i hi e
  have kT : ¬ Own hs' K := fun ⟨i, hi, e⟩ => hST.nK i hi e
  have tA : ¬ Own hs T := fun ⟨i, hi, e⟩ => hSA.nT i hi e
  have tT : ¬ Own hs' T' := fun ⟨i, hi, e⟩ => hST.nT i hi e
  have xA : ¬ Own hs' T := fun ⟨i, hi, e⟩ => row_not_row (by decide) h.list (h.row' i hi) T rfl e
  have xT : ¬ Own hs T' := fun ⟨i, hi, e⟩ => row_not_row (by decide) h.list' (h.row i hi) T' rfl e
  have hKTA := hSA.KT
  have hKTT := hST.KT
  have hTT : T ≠ T' := fun e => row_not_row (by decide) h.list h.list' T rfl (by rw [e]; rfl)
  have dAT : ∀ i (hi : i < hs.length) g, hs[i].v.ownBlock = some g → ¬ Own hs' g := fun i hi g hg ⟨j, hj, e⟩ => row_not_row (by decide) (h.row i hi) (h.row' j hj) g hg e
  have dTA : ∀ i (hi : i < hs'.length) g, hs'[i].v.ownBlock = some g → ¬ Own hs g := fun i hi g hg ⟨j, hj, e⟩ => row_not_row (by decide) (h.row' i hi) (h.row j hj) g hg e
  have hlistA := h.list
  clear h
  go_enter Tryz.func19, Tryz.ntmps19
  go_wp2_with (first | (go_at_call 47; refine (fillByte_none K _ (hB.nils 1 (by decide))).mono ?_; rintro e w' ⟨rfl, rfl⟩) | (go_at_call 48; refine (fillInt_none K _ (hB.nils 2 (by decide))).mono ?_; rintro e w' ⟨rfl, rfl⟩))
  go_at_call 49
  refine (fillText_any base K T' c' hs' _ rows' _ hKT hST hRT).mono ?_
  rintro e w1 ⟨rfl, hk1, hRT1⟩
  have hB1 := hB.kept hk1 kT
  have hKT1 := hKT.kept hk1 kT tT
  have hKA1 := hKA.kept hk1 kT xA
  have hRA1 := fun i hi => hk1.row (hRA i hi) (dAT i hi)
  have hl1 := hk1.row hlistA (fun g hg => by injection hg with e; rw [← e]; exact xA)
  have hbase1 : base ≤ w1.heap.size := Nat.le_trans hbase hk1.size
  go_wp2_with (first | (go_at_call 50; refine (fillFault_none K _ (hB1.nils 4 (by decide))).mono ?_; rintro e w' ⟨rfl, rfl⟩) | (go_at_call 51; refine (fillLine_none K _ (hB1.nils 5 (by decide))).mono ?_; rintro e w' ⟨rfl, rfl⟩) | (go_at_call 52; refine (fillSource_none K _ (hB1.nils 6 (by decide))).mono ?_; rintro e w' ⟨rfl, rfl⟩))
  go_at_call 53
  refine (fillAttr_any base K T c hs _ rows _ hKA1 hSA hRA1).mono ?_
  rintro e w2 ⟨rfl, hk2, hRA2⟩
  have hB2 := hB1.kept hk2 kA
  have hKA2 := hKA1.kept hk2 kA tA
  have hKT2 := hKT1.kept hk2 kA xT
  have hRT2 := fun i hi => hk2.row (hRT1 i hi) (dTA i hi)
  have hl2 := hk2.row hl1 (fun g hg => by injection hg with e; rw [← e]; exact tA)
  have hbase2 : base ≤ w2.heap.size := Nat.le_trans hbase1 hk2.size
  go_wp2_with (first | (go_at_call 54; refine (fillDiag_none K _ (hB2.nils 8 (by decide))).mono ?_; rintro e w' ⟨rfl, rfl⟩) | (go_at_call 55; refine (fillSpan_none K _ (hB2.nils 9 (by decide))).mono ?_; rintro e w' ⟨rfl, rfl⟩) | (go_at_call 56; refine (fillCell_none K _ (hB2.nils 10 (by decide))).mono ?_; rintro e w' ⟨rfl, rfl⟩) | (go_at_call 57; refine (fillRow_none K _ (hB2.nils 11 (by decide))).mono ?_; rintro e w' ⟨rfl, rfl⟩) | (go_at_call 58; refine (fillBlock_none K _ (hB2.nils 12 (by decide))).mono ?_; rintro e w' ⟨rfl, rfl⟩) | (go_at_call 59; refine (fillChapter_none K _ (hB2.nils 13 (by decide))).mono ?_; rintro e w' ⟨rfl, rfl⟩) | (go_at_call 60; refine (fillPlace_none K _ (hB2.nils 14 (by decide))).mono ?_; rintro e w' ⟨rfl, rfl⟩) | (go_at_call 61; refine (fillLocator_none K _ (hB2.nils 15 (by decide))).mono ?_; rintro e w' ⟨rfl, rfl⟩) | (go_at_call 62; refine (fillEntry_none K _ (hB2.nils 16 (by decide))).mono ?_; rintro e w' ⟨rfl, rfl⟩) | (go_at_call 63; refine (fillFile_none K _ (hB2.nils 17 (by decide))).mono ?_; rintro e w' ⟨rfl, rfl⟩) | (go_at_call 64; refine (growByte_none K _ (hB2.nils 1 (by decide))).mono ?_; rintro e w' ⟨rfl, rfl⟩) | (go_at_call 65; refine (growInt_none K _ (hB2.nils 2 (by decide))).mono ?_; rintro e w' ⟨rfl, rfl⟩))
  go_at_call 66
  refine (growText_any base K T' c' hs' _ _ hKT2 hST hbase2 hnT hRT2).mono ?_
  rintro e w3 ⟨rfl, hk3, hRT3, LT, hKT3, hLT3⟩
  have hB3 := hB2.kept hk3 (fun e => e.elim hKTT kT)
  have hKA3 := hKA2.kept hk3 (fun e => e.elim hKTT kT) (fun e => e.elim hTT xA)
  have hRA3 := fun i hi => hk3.row (hRA2 i hi) (fun g hg e => e.elim (fun e => xT ⟨i, hi, by rw [← e]; exact hg⟩) (dAT i hi g hg))
  have hl3 := hk3.row hl2 (fun g hg e => by injection hg with e2; exact e.elim (fun e => hTT (e2.trans e)) (by rw [← e2]; exact xA))
  have hbase3 : base ≤ w3.heap.size := Nat.le_trans hbase2 hk3.size
  go_wp2_with (first | (go_at_call 67; refine (growFault_none K _ (hB3.nils 4 (by decide))).mono ?_; rintro e w' ⟨rfl, rfl⟩) | (go_at_call 68; refine (growLine_none K _ (hB3.nils 5 (by decide))).mono ?_; rintro e w' ⟨rfl, rfl⟩) | (go_at_call 69; refine (growSource_none K _ (hB3.nils 6 (by decide))).mono ?_; rintro e w' ⟨rfl, rfl⟩))
  go_at_call 70
  refine (growAttr_any base K T c hs _ _ hKA3 hSA hbase3 hnA hRA3).mono ?_
  rintro e w4 ⟨rfl, hk4, hRA4, LA, hKA4, hLA4⟩
  have hB4 := hB3.kept hk4 (fun e => e.elim hKTA kA)
  have hKT4 := hKT3.kept hk4 (fun e => e.elim hKTA kA) (fun e => e.elim (fun e => hTT e.symm) xT)
  have hRT4 := fun i hi => hk4.row (hRT3 i hi) (fun g hg e => e.elim (fun e => xA ⟨i, hi, by rw [← e]; exact hg⟩) (dTA i hi g hg))
  have hLT4 : ∀ i (hi : i < hs'.length), (LT i).n = hs'[i].n + 40 ∧ w4.ownsRow base 9 1 (LT i).v (hs'[i].n + 40) (marks hs'[i] (hs'[i].n + 40)) := fun i hi => ⟨(hLT3 i hi hi).1, hk4.row (hLT3 i hi hi).2.1 (fun g hg e => by
    rcases e with e | ⟨j, hj, e⟩
    · exact row_not_row (by decide) (hLT3 i hi hi).2.1 hl3 g hg (by rw [e]; rfl)
    · exact row_not_row (by decide) (hLT3 i hi hi).2.1 (hRA3 j hj) g hg e)⟩
  have hLA5 : ∀ i (hi : i < hs.length), (LA i).n = hs[i].n + 40 ∧ w4.ownsRow base 84 2 (LA i).v (hs[i].n + 40) (marksA hs[i] (hs[i].n + 40)) := fun i hi => ⟨(hLA4 i hi hi).1, (hLA4 i hi hi).2.1⟩
  clear hLT3 hLA4 hRT3 hRA3 hRA2 hRT2 hRA1 hRT1 hRA hRT hl1 hl2 hl3 hKA hKT hKA1 hKT1 hKA2 hKT2 hKA3 hKT3
  go_wp2_with (first | (go_at_call 71; refine (growDiag_none K _ (hB4.nils 8 (by decide))).mono ?_; rintro e w' ⟨rfl, rfl⟩) | (go_at_call 72; refine (growSpan_none K _ (hB4.nils 9 (by decide))).mono ?_; rintro e w' ⟨rfl, rfl⟩) | (go_at_call 73; refine (growCell_none K _ (hB4.nils 10 (by decide))).mono ?_; rintro e w' ⟨rfl, rfl⟩) | (go_at_call 74; refine (growRow_none K _ (hB4.nils 11 (by decide))).mono ?_; rintro e w' ⟨rfl, rfl⟩) | (go_at_call 75; refine (growBlock_none K _ (hB4.nils 12 (by decide))).mono ?_; rintro e w' ⟨rfl, rfl⟩) | (go_at_call 76; refine (growChapter_none K _ (hB4.nils 13 (by decide))).mono ?_; rintro e w' ⟨rfl, rfl⟩) | (go_at_call 77; refine (growPlace_none K _ (hB4.nils 14 (by decide))).mono ?_; rintro e w' ⟨rfl, rfl⟩) | (go_at_call 78; refine (growLocator_none K _ (hB4.nils 15 (by decide))).mono ?_; rintro e w' ⟨rfl, rfl⟩) | (go_at_call 79; refine (growEntry_none K _ (hB4.nils 16 (by decide))).mono ?_; rintro e w' ⟨rfl, rfl⟩) | (go_at_call 80; refine (growFile_none K _ (hB4.nils 17 (by decide))).mono ?_; rintro e w' ⟨rfl, rfl⟩) | (go_at_call 81; refine (lookByte_none K _ (hB4.nils 1 (by decide))).mono ?_; rintro e w' ⟨rfl, rfl⟩) | (go_at_call 82; refine (lookInt_none K _ (hB4.nils 2 (by decide))).mono ?_; rintro e w' ⟨rfl, rfl⟩))
  refine (lookText_any base K T' c' hs' LT _ hKT4 hST hnT hRT4 hLT4).mono ?_
  rintro e w5 ⟨rfl, hk5⟩
  have hB5 := hB4.kept hk5 (fun e => e)
  have hKA5 := hKA4.kept hk5 (fun e => e) (fun e => e)
  have hRA5 := fun i hi => hk5.row (hRA4 i hi) (fun _ _ e => e)
  have hLA6 : ∀ i (hi : i < hs.length), (LA i).n = hs[i].n + 40 ∧ w5.ownsRow base 84 2 (LA i).v (hs[i].n + 40) (marksA hs[i] (hs[i].n + 40)) := fun i hi => ⟨(hLA5 i hi).1, hk5.row (hLA5 i hi).2 (fun _ _ e => e)⟩
  go_wp2_with (first | (go_at_call 84; refine (lookFault_none K _ (hB5.nils 4 (by decide))).mono ?_; rintro e w' ⟨rfl, rfl⟩) | (go_at_call 85; refine (lookLine_none K _ (hB5.nils 5 (by decide))).mono ?_; rintro e w' ⟨rfl, rfl⟩) | (go_at_call 86; refine (lookSource_none K _ (hB5.nils 6 (by decide))).mono ?_; rintro e w' ⟨rfl, rfl⟩))
  refine (lookAttr_any base K T c hs LA _ hKA5 hSA hnA hRA5 hLA6).mono ?_
  rintro e w6 ⟨rfl, hk6⟩
  have hB6 := hB5.kept hk6 (fun e => e)
  go_wp2_with (first | (go_at_call 88; refine (lookDiag_none K _ (hB6.nils 8 (by decide))).mono ?_; rintro e w' ⟨rfl, rfl⟩) | (go_at_call 89; refine (lookSpan_none K _ (hB6.nils 9 (by decide))).mono ?_; rintro e w' ⟨rfl, rfl⟩) | (go_at_call 90; refine (lookCell_none K _ (hB6.nils 10 (by decide))).mono ?_; rintro e w' ⟨rfl, rfl⟩) | (go_at_call 91; refine (lookRow_none K _ (hB6.nils 11 (by decide))).mono ?_; rintro e w' ⟨rfl, rfl⟩) | (go_at_call 92; refine (lookBlock_none K _ (hB6.nils 12 (by decide))).mono ?_; rintro e w' ⟨rfl, rfl⟩) | (go_at_call 93; refine (lookChapter_none K _ (hB6.nils 13 (by decide))).mono ?_; rintro e w' ⟨rfl, rfl⟩) | (go_at_call 94; refine (lookPlace_none K _ (hB6.nils 14 (by decide))).mono ?_; rintro e w' ⟨rfl, rfl⟩) | (go_at_call 95; refine (lookLocator_none K _ (hB6.nils 15 (by decide))).mono ?_; rintro e w' ⟨rfl, rfl⟩) | (go_at_call 96; refine (lookEntry_none K _ (hB6.nils 16 (by decide))).mono ?_; rintro e w' ⟨rfl, rfl⟩) | (go_at_call 97; refine (lookFile_none K _ (hB6.nils 17 (by decide))).mono ?_; rintro e w' ⟨rfl, rfl⟩))
  go_ret
  refine ⟨rfl, ?_⟩
  have s1 := hk1.mono (S' := fun b => (b = T ∨ b = T') ∨ (Own hs b ∨ Own hs' b)) (fun _ h => .inr (.inr h))
  have s2 := hk2.mono (S' := fun b => (b = T ∨ b = T') ∨ (Own hs b ∨ Own hs' b)) (fun _ h => .inr (.inl h))
  have s3 := hk3.mono (S' := fun b => (b = T ∨ b = T') ∨ (Own hs b ∨ Own hs' b)) (fun _ h => h.elim (fun e => .inl (.inr e)) (fun e => .inr (.inr e)))
  have s4 := hk4.mono (S' := fun b => (b = T ∨ b = T') ∨ (Own hs b ∨ Own hs' b)) (fun _ h => h.elim (fun e => .inl (.inl e)) (fun e => .inr (.inl e)))
  exact s1.trans (s2.trans (s3.trans (s4.trans ((hk5.mono fun _ h => h.elim).trans (hk6.mono fun _ h => h.elim)))))
end Go.Proofs.YtikeaiibociapaaGreatDoor
