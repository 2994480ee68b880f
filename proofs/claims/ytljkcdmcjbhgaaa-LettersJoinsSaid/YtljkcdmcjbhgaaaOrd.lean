import Derived.Test.YtljkcdmcjbhgaaaChange
import Derived.Lib.Bytealg
import Derived.Lib.Walk
namespace Go.Proofs.Ytljkcdmcjbhgaaa
open Go.RowKit
open Go.Lib (compareBytes)

theorem u8_cases (x y : UInt8) : (x < y ∧ ¬ y < x ∧ x ≠ y) ∨ (¬ x < y ∧ ¬ y < x ∧ x = y) ∨ (¬ x < y ∧ y < x ∧ x ≠ y) := by
  have h := Nat.lt_trichotomy x.toNat y.toNat
  simp only [UInt8.lt_iff_toNat_lt, ← UInt8.toNat_inj, ne_eq]
  omega

theorem cb_range : ∀ a b : List UInt8, compareBytes a b = -1 ∨ compareBytes a b = 0 ∨ compareBytes a b = 1
  | [], [] => by simp [compareBytes]
  | [], _ :: _ => by simp [compareBytes]
  | _ :: _, [] => by simp [compareBytes]
  | x :: a, y :: b => by
    unfold compareBytes
    have ih := cb_range a b
    split
    · simp
    · split
      · simp
      · exact ih

theorem cb_zero : ∀ a b : List UInt8, compareBytes a b = 0 ↔ a = b
  | [], [] => by simp [compareBytes]
  | [], _ :: _ => by simp [compareBytes]
  | _ :: _, [] => by simp [compareBytes]
  | x :: a, y :: b => by
    unfold compareBytes
    have ih := cb_zero a b
    rcases u8_cases x y with ⟨h1, h2, h3⟩ | ⟨h1, h2, h3⟩ | ⟨h1, h2, h3⟩
    · simp [h1, h3]
    · simp [h3, ih]
    · simp [h1, h2, h3]

theorem cb_self (a : List UInt8) : compareBytes a a = 0 := (cb_zero a a).2 rfl

theorem cb_swap : ∀ a b : List UInt8, compareBytes b a = - compareBytes a b
  | [], [] => by simp [compareBytes]
  | [], _ :: _ => by simp [compareBytes]
  | _ :: _, [] => by simp [compareBytes]
  | x :: a, y :: b => by
    unfold compareBytes
    have ih := cb_swap a b
    rcases u8_cases x y with ⟨h1, h2, h3⟩ | ⟨h1, h2, h3⟩ | ⟨h1, h2, h3⟩
    · simp [h1, h2]
    · simp [h1, h2, ih]
    · simp [h1, h2]

theorem cb_trans : ∀ a b c : List UInt8, compareBytes a b ≤ 0 → compareBytes b c ≤ 0 → compareBytes a c ≤ 0
  | [], _, [] => by simp [compareBytes]
  | [], _, _ :: _ => by simp [compareBytes]
  | _ :: _, [], _ => by simp [compareBytes]
  | _ :: _, _ :: _, [] => by simp [compareBytes]
  | x :: a, y :: b, z :: c => by
    have ih := cb_trans a b c
    unfold compareBytes
    intro h1 h2
    rcases u8_cases x y with ⟨p1, p2, p3⟩ | ⟨p1, p2, p3⟩ | ⟨p1, p2, p3⟩ <;> rcases u8_cases y z with ⟨q1, q2, q3⟩ | ⟨q1, q2, q3⟩ | ⟨q1, q2, q3⟩
    · have : x < z := by rw [UInt8.lt_iff_toNat_lt] at *; omega
      simp [this]
    · subst q3; simp [p1]
    · simp [q1, q2] at h2
    · subst p3; simp [q1]
    · subst p3 q3
      simp [p1] at h1 h2 ⊢
      exact ih h1 h2
    · simp [q1, q2] at h2
    · simp [p1, p2] at h1
    · simp [p1, p2] at h1
    · simp [p1, p2] at h1

/-- 'a < b' of texts -/
theorem less_eq : ∀ a b : List UInt8, Op.bytesLess a b = decide (compareBytes a b = -1)
  | [], [] => by simp [compareBytes, Op.bytesLess]
  | [], _ :: _ => by simp [compareBytes, Op.bytesLess]
  | _ :: _, [] => by simp [compareBytes, Op.bytesLess]
  | x :: a, y :: b => by
    unfold compareBytes Op.bytesLess
    have ih := less_eq a b
    rcases u8_cases x y with ⟨h1, h2, h3⟩ | ⟨h1, h2, h3⟩ | ⟨h1, h2, h3⟩
    · simp [h1]
    · subst h3; simp [h1, ih]
    · simp [h1, h2, h3]

/-- a letter or a digit -/
def alnum (c : UInt8) : Bool := isA c.toNat
/-- what a text is ordered by first -/
def keyL (l : List UInt8) : List UInt8 := (lowL l).filter alnum
/-- the order of two texts -/
def ordL (a b : List UInt8) : Int := if compareBytes (keyL a) (keyL b) = 0 then compareBytes a b else compareBytes (keyL a) (keyL b)

theorem ord_range (a b : List UInt8) : ordL a b = -1 ∨ ordL a b = 0 ∨ ordL a b = 1 := by
  unfold ordL; split
  · exact cb_range a b
  · exact cb_range _ _
theorem ord_swap (a b : List UInt8) : ordL b a = - ordL a b := by
  unfold ordL
  rw [cb_swap (keyL a) (keyL b), cb_swap a b]
  by_cases h : compareBytes (keyL a) (keyL b) = 0
  · simp [h]
  · simp [h]
theorem ord_zero (a b : List UInt8) : ordL a b = 0 ↔ a = b := by
  unfold ordL
  split
  · exact cb_zero a b
  · rename_i h
    constructor
    · intro e; exact absurd e h
    · intro e; subst e; exact absurd (cb_self _) h
theorem ord_self (a : List UInt8) : ordL a a = 0 := (ord_zero a a).2 rfl
theorem ord_trans (a b c : List UInt8) (h1 : ordL a b ≤ 0) (h2 : ordL b c ≤ 0) : ordL a c ≤ 0 := by
  unfold ordL at *
  have t1 := cb_trans (keyL a) (keyL b) (keyL c)
  have t2 := cb_trans a b c
  by_cases e1 : compareBytes (keyL a) (keyL b) = 0
  · rw [if_pos e1] at h1
    have k1 := (cb_zero _ _).1 e1
    rw [k1]
    by_cases e2 : compareBytes (keyL b) (keyL c) = 0
    · rw [if_pos e2] at h2 ⊢
      exact t2 h1 h2
    · rw [if_neg e2] at h2 ⊢
      exact h2
  · rw [if_neg e1] at h1
    by_cases e2 : compareBytes (keyL b) (keyL c) = 0
    · have k2 := (cb_zero _ _).1 e2
      rw [← k2, if_neg e1]
      exact h1
    · rw [if_neg e2] at h2
      by_cases e3 : compareBytes (keyL a) (keyL c) = 0
      · have k3 := (cb_zero _ _).1 e3
        rw [← k3, cb_swap (keyL a) (keyL b)] at h2
        omega
      · rw [if_neg e3]
        exact t1 h1 h2
end Go.Proofs.Ytljkcdmcjbhgaaa
