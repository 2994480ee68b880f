import Derived.Test.YtljkcdmcjbhgaaaGreatDoorLaw
import Derived.Lib.FieldsP
import Derived.Lib.SpaceUEq
import Derived.Lib.RuneCount
namespace Go.Proofs.YtljkcdmcjbhgaaaGreatDoor
open Go.RowKit
open Go.Lib (spansFromP closeSpans spansOfP goFieldsP)

/-- a blank, or a line's end -/
def gapB (c : UInt8) : Bool := c.toNat == 32 || c.toNat == 9 || c.toNat == 10
def gapR (r : Nat) : Bool := r == 32 || r == 9 || r == 10

/-- the words of a text, cur being read -/
def wordsGo : List UInt8 → List UInt8 → List (List UInt8)
  | cur, [] => if cur = [] then [] else [cur]
  | cur, b :: l => if gapB b then (if cur = [] then wordsGo [] l else cur :: wordsGo [] l) else wordsGo (cur ++ [b]) l
def wordsL (l : List UInt8) : List (List UInt8) := wordsGo [] l

theorem wordsGo_more : ∀ (x cur y : List UInt8), (∀ b ∈ x, gapB b = false) → wordsGo cur (x ++ y) = wordsGo (cur ++ x) y
  | [], cur, y, _ => by simp
  | b :: x, cur, y, h => by
    rw [List.cons_append, wordsGo, h b (by simp)]
    simp only [Bool.false_eq_true, if_false]
    rw [wordsGo_more x _ y (fun c hc => h c (by simp [hc]))]
    simp

/-- the bytes of l from a up to b -/
def cutL (l : List UInt8) (a b : Nat) : List UInt8 := (l.drop a).take (b - a)
def openL (l : List UInt8) (st : Option Nat) (pos : Nat) : List UInt8 := match st with | some a => cutL l a pos | none => []
theorem cutL_length (l : List UInt8) (a b : Nat) (hb : b ≤ l.length) : (cutL l a b).length = b - a := by simp [cutL]; omega
theorem cutL_grow (l : List UInt8) (a pos k : Nat) (h : a ≤ pos) : cutL l a pos ++ (l.drop pos).take k = cutL l a (pos + k) := by
  have e : l.drop pos = (l.drop a).drop (pos - a) := by rw [List.drop_drop]; congr 1; omega
  unfold cutL
  rw [e, show pos + k - a = (pos - a) + k by omega, List.take_add]

/-- a rune that is no ASCII one has no byte that is a gap -/
theorem wide_bytes (s : ByteArray) (pos : Nat) (h : pos < s.size) (ha : 128 ≤ s[pos].toNat) :
    pos + (Utf8.decode s pos).2 ≤ s.size ∧ ∀ b ∈ (s.data.toList.drop pos).take (Utf8.decode s pos).2, gapB b = false := by
  have hc := Lib.decodeN_conts (s.data.toList.length - pos) (s.data.toList.getD pos 0).toNat (s.data.toList.getD (pos + 1) 0).toNat (s.data.toList.getD (pos + 2) 0).toNat (s.data.toList.getD (pos + 3) 0).toNat
  rw [← Lib.decode_N] at hc
  obtain ⟨c2, c3, c4, c5⟩ := hc
  have hl : s.data.toList.length = s.size := by simp
  have h1 := Lib.decode_width_pos s pos h
  have hle : pos + (Utf8.decode s pos).2 ≤ s.size := by omega
  refine ⟨hle, fun b hb => ?_⟩
  obtain ⟨j, hj, rfl⟩ := List.mem_iff_getElem.1 hb
  have hj' : j < (Utf8.decode s pos).2 := by simp at hj; omega
  have hpj : pos + j < s.data.toList.length := by omega
  have e : ((s.data.toList.drop pos).take (Utf8.decode s pos).2)[j] = s.data.toList.getD (pos + j) 0 := by
    rw [List.getElem_take, List.getElem_drop, List.getD, List.getElem?_eq_getElem hpj]; rfl
  rw [e]
  have hge : 128 ≤ (s.data.toList.getD (pos + j) 0).toNat := by
    rcases (by omega : j = 0 ∨ j = 1 ∨ j = 2 ∨ j = 3) with rfl | rfl | rfl | rfl
    · have e0 : s.data.toList.getD (pos + 0) 0 = s[pos] := by
        rw [Nat.add_zero, List.getD, List.getElem?_eq_getElem (by omega)]; rfl
      rw [e0]; exact ha
    · have := (c2 (by omega)).1; omega
    · have := (c3 (by omega)).1; omega
    · have := (c4 (by omega)).1; omega
  unfold gapB
  generalize (s.data.toList.getD (pos + j) 0).toNat = n at hge
  have h1 : n ≠ 32 := by omega
  have h2 : n ≠ 9 := by omega
  have h3 : n ≠ 10 := by omega
  simp [h1, h2, h3]

theorem spans_words (s : ByteArray) : ∀ (f pos : Nat) (st : Option Nat) (acc : List (Nat × Nat)), s.size ≤ pos + f → pos ≤ s.size → (∀ a, st = some a → a < pos) →
    (closeSpans s (spansFromP gapR s f pos st acc)).map (fun p => cutL s.data.toList p.1 p.2) = acc.map (fun p => cutL s.data.toList p.1 p.2) ++ wordsGo (openL s.data.toList st pos) (s.data.toList.drop pos)
  | 0, pos, st, acc, h, hp, hst => by
    obtain rfl : pos = s.size := by omega
    have hl : s.data.toList.length = s.size := by simp
    have hd : s.data.toList.drop s.size = [] := List.drop_eq_nil_of_le (by omega)
    rw [hd]
    cases st with
    | none => simp [spansFromP, closeSpans, openL, wordsGo]
    | some a =>
      have hne : cutL s.data.toList a s.size ≠ [] := by
        intro h0
        have h1 := cutL_length s.data.toList a s.size (by omega)
        have := hst a rfl
        rw [h0] at h1; simp at h1; omega
      simp [spansFromP, closeSpans, openL, wordsGo, hne]
  | f + 1, pos, st, acc, h, hp, hst => by
    have hl : s.data.toList.length = s.size := by simp
    by_cases hlt : pos < s.size
    · have hdrop : s.data.toList.drop pos = s[pos] :: s.data.toList.drop (pos + 1) := List.drop_eq_getElem_cons (by omega)
      by_cases ha : s[pos].toNat < 128
      · have hdec := decode_ascii s pos hlt ha
        unfold spansFromP
        rw [if_pos hlt, hdec, hdrop]
        have hgb : gapR s[pos].toNat = gapB s[pos] := rfl
        simp only [hgb]
        cases hg : gapB s[pos] with
        | true =>
          cases st with
          | none =>
            simp only [if_true]
            rw [spans_words s f (pos + 1) none acc (by omega) (by omega) (by simp)]
            simp [openL, wordsGo, hg]
          | some a =>
            have hne : cutL s.data.toList a pos ≠ [] := by
              intro h0
              have h1 := cutL_length s.data.toList a pos (by omega)
              have := hst a rfl
              rw [h0] at h1; simp at h1; omega
            simp only [if_true]
            rw [spans_words s f (pos + 1) none (acc ++ [(a, pos)]) (by omega) (by omega) (by simp)]
            simp [openL, wordsGo, hg, hne]
        | false =>
          cases st with
          | none =>
            simp only [Bool.false_eq_true, if_false]
            rw [spans_words s f (pos + 1) (some pos) acc (by omega) (by omega) (by intro a e; cases e; omega)]
            have hc : cutL s.data.toList pos (pos + 1) = [s[pos]] := by unfold cutL; rw [hdrop]; simp
            simp [openL, wordsGo, hg, hc]
          | some a =>
            simp only [Bool.false_eq_true, if_false]
            have hlt2 := hst a rfl
            rw [spans_words s f (pos + 1) (some a) acc (by omega) (by omega) (by intro b e; cases e; omega)]
            have hc : cutL s.data.toList a (pos + 1) = cutL s.data.toList a pos ++ [s[pos]] := by
              rw [← cutL_grow _ a pos 1 (by omega), hdrop]; simp
            simp [openL, wordsGo, hg, hc]
      · have hwide := wide_bytes s pos hlt (by omega)
        have hw := Lib.decode_width_pos s pos hlt
        have hhigh := (decode_high s pos hlt (by omega)).1
        have hgr : gapR (Utf8.decode s pos).1 = false := by unfold gapR; simp; omega
        unfold spansFromP
        rw [if_pos hlt, hgr]
        have hsplit : s.data.toList.drop pos = (s.data.toList.drop pos).take (Utf8.decode s pos).2 ++ s.data.toList.drop (pos + (Utf8.decode s pos).2) := by
          rw [← List.drop_drop, List.take_append_drop]
        simp only [Bool.false_eq_true, if_false]
        cases st with
        | none =>
          simp only
          rw [spans_words s f (pos + (Utf8.decode s pos).2) (some pos) acc (by omega) hwide.1 (by intro a e; cases e; omega)]
          conv => rhs; rw [hsplit, wordsGo_more _ _ _ hwide.2]
          have hc : cutL s.data.toList pos (pos + (Utf8.decode s pos).2) = (s.data.toList.drop pos).take (Utf8.decode s pos).2 := by unfold cutL; rw [Nat.add_sub_cancel_left]
          simp [openL, hc]
        | some a =>
          have hlt2 := hst a rfl
          simp only
          rw [spans_words s f (pos + (Utf8.decode s pos).2) (some a) acc (by omega) hwide.1 (by intro b e; cases e; omega)]
          conv => rhs; rw [hsplit, wordsGo_more _ _ _ hwide.2]
          simp only [openL]
          rw [cutL_grow _ a pos _ (by omega)]
    · obtain rfl : pos = s.size := by omega
      have hd : s.data.toList.drop s.size = [] := List.drop_eq_nil_of_le (by omega)
      rw [hd, Lib.spansFromP_end _ _ _ _ _ _ hlt]
      cases st with
      | none => simp [closeSpans, openL, wordsGo]
      | some a =>
        have hne : cutL s.data.toList a s.size ≠ [] := by
          intro h0
          have h1 := cutL_length s.data.toList a s.size (by omega)
          have := hst a rfl
          rw [h0] at h1; simp at h1; omega
        simp [closeSpans, openL, wordsGo, hne]

/-- what strings.FieldsFunc tells are the words -/
theorem fields_words (s : ByteArray) : (goFieldsP gapR s).map (fun t => t.data.toList) = wordsL s.data.toList := by
  have h := spans_words s s.size 0 none [] (by omega) (by omega) (by simp)
  have e : ∀ p : Nat × Nat, (s.extract p.1 p.2).data.toList = cutL s.data.toList p.1 p.2 := fun p => Lib.extract_data s p.1 p.2
  unfold goFieldsP spansOfP
  rw [List.map_map]
  simp only [Function.comp_def, e]
  rw [h]
  simp [openL, wordsL]
end Go.Proofs.YtljkcdmcjbhgaaaGreatDoor
