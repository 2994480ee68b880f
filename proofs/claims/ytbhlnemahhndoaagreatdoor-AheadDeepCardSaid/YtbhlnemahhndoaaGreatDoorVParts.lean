/- Merged: Parts. -/
import Derived.Test.YtbhlnemahhndoaaGreatDoorU1
import Derived.Lib.SplitLaws
namespace Go.Proofs.YtbhlnemahhndoaaGreatDoor
open Go.RowKit

/-- the parts of a text between its points -/
def parts : List UInt8 → List (List UInt8)
  | [] => [[]]
  | c :: l => if c = 46 then [] :: parts l else (c :: (parts l).headD []) :: (parts l).tail

theorem parts_dot (c : UInt8) (l : List UInt8) (h : c = 46) : parts (c :: l) = [] :: parts l := by rw [parts, if_pos h]
theorem parts_other (c : UInt8) (l : List UInt8) (h : ¬ c = 46) : parts (c :: l) = (c :: (parts l).headD []) :: (parts l).tail := by rw [parts, if_neg h]
theorem parts_ne (l : List UInt8) : parts l ≠ [] := by
  cases l with
  | nil => simp [parts]
  | cons c l => unfold parts; split <;> simp

theorem headTail {α : Type} (d : α) (l : List α) (h : l ≠ []) : l.headD d :: l.tail = l := by cases l with | nil => exact absurd rfl h | cons a l => rfl

theorem parts_plain (l : List UInt8) (h : 46 ∉ l) : parts l = [l] := by
  induction l with
  | nil => rfl
  | cons c l ih =>
    have h1 : ¬ c = 46 := fun e => h (by simp [e])
    have h2 := ih (fun hm => h (by simp [hm]))
    unfold parts
    rw [if_neg h1, h2]; rfl

theorem parts_cut (a b : List UInt8) : parts (a ++ 46 :: b) = parts a ++ parts b := by
  induction a with
  | nil => simp [parts]
  | cons c a ih =>
    rw [List.cons_append]
    by_cases h : c = 46
    · rw [parts_dot _ _ h, parts_dot _ _ h, ih, List.cons_append]
    · rw [parts_other _ _ h, parts_other _ _ h, ih]
      cases hp : parts a with
      | nil => exact absurd hp (parts_ne a)
      | cons p ps => rfl

theorem parts_first (a b : List UInt8) (h : 46 ∉ a) : parts (a ++ 46 :: b) = a :: parts b := by rw [parts_cut, parts_plain a h]; rfl

theorem indexByte_dot (l : List UInt8) : (46 ∉ l ∧ Lib.indexByte l 46 = -1) ∨ ∃ a b : List UInt8, l = a ++ 46 :: b ∧ 46 ∉ a ∧ Lib.indexByte l 46 = (a.length : Int) := by
  induction l with
  | nil => left; simp [Lib.indexByte]
  | cons c l ih =>
    by_cases h : c = 46
    · right; exact ⟨[], l, by simp [h], by simp, by simp [Lib.indexByte, h]⟩
    · rcases ih with ⟨h1, h2⟩ | ⟨a, b, h1, h2, h3⟩
      · left
        refine ⟨by simp [h1]; exact fun e => h e.symm, ?_⟩
        simp [Lib.indexByte, h, h2]
      · right
        refine ⟨c :: a, b, by simp [h1], by simp [h2]; exact fun e => h e.symm, ?_⟩
        have hne : ¬ ((a.length : Int) = -1) := by omega
        simp [Lib.indexByte, h, h3, hne]

theorem splitK_parts : ∀ (k : Nat) (l : List UInt8), l.count 46 = k → Lib.splitK [46] 0 k l = parts l
  | 0, l, h => by
    rw [parts_plain l (List.count_eq_zero.1 h)]; rfl
  | k + 1, l, h => by
    rcases indexByte_dot l with ⟨h1, h2⟩ | ⟨a, b, rfl, h2, h3⟩
    · rw [List.count_eq_zero_of_not_mem h1] at h; omega
    · have hi : Lib.index (a ++ 46 :: b) [46] = (a.length : Int) := by rw [Lib.index_one]; exact h3
      have hne : ¬ (Lib.index (a ++ 46 :: b) [46] == -1) = true := by rw [hi]; simp
      unfold Lib.splitK
      rw [if_neg hne, hi]
      have hc : b.count 46 = k := by
        rw [List.count_append, List.count_eq_zero_of_not_mem h2] at h
        simp at h; omega
      have e1 : (a ++ 46 :: b).take ((a.length : Int).toNat + 0) = a := by simp
      have e2 : (a ++ 46 :: b).drop ((a.length : Int).toNat + [(46 : UInt8)].length) = b := by
        have : (a.length : Int).toNat + [(46 : UInt8)].length = a.length + 1 := by simp
        rw [this, List.drop_append]; simp
      rw [e1, e2, splitK_parts k b hc, parts_first a b h2]

def dot : ByteArray := ⟨#[46]⟩

theorem split_parts (s : ByteArray) : (Lib.splitB dot 0 (Lib.countB s dot) s).map (·.data.toList) = parts s.data.toList := by
  have hc : Lib.countB s dot = s.data.toList.count 46 := Lib.count_one 46 _
  rw [Lib.splitB_data, hc]
  exact splitK_parts _ _ rfl
/-- may a text be a file's name? -/
def checkB (l : List UInt8) : Bool := decide (l.length ≤ 60) && (parts l).all nameB

theorem checkB_long (l : List UInt8) (h : ¬ l.length ≤ 60) : checkB l = false := by
  unfold checkB; rw [decide_eq_false h]; rfl
theorem checkB_short (l : List UInt8) (h : l.length ≤ 60) : checkB l = (parts l).all nameB := by
  unfold checkB; rw [decide_eq_true h]; rfl
end Go.Proofs.YtbhlnemahhndoaaGreatDoor
