import Derived.Test.YtcdlleeonfnamaaAtt
import Derived.Test.YtcdlleeonfnamaaMay
namespace Go.Proofs.Ytcdlleeonfnamaa
open Go.RowKit

def lessA (a b : At) : Bool := Op.bytesLess a.1.toList b.1.toList
/-- may an attribute be? -/
def attB (a : At) : Bool := nameB a.1.data.toList && mayL a.2.data.toList
/-- do names rise? -/
def riseB : List At → Bool
  | a :: b :: l => lessA a b && riseB (b :: l)
  | _ => true
/-- may attributes be? -/
def checkL (l : List At) : Bool := decide (l.length ≤ 64) && l.all attB && riseB l

theorem rise_snoc (x y : At) : ∀ ys : List At, riseB (ys ++ [x, y]) = (riseB (ys ++ [x]) && lessA x y)
  | [] => by simp [riseB]
  | [a] => by simp [riseB]
  | a :: b :: ys => by
    have ih := rise_snoc x y (b :: ys)
    simp only [List.cons_append] at ih ⊢
    simp only [riseB]
    rw [ih, Bool.and_assoc]
theorem rise_take (l : List At) (k : Nat) (h0 : 0 < k) (h : k < l.length) : riseB (l.take (k + 1)) = (riseB (l.take k) && lessA l[k - 1] l[k]) := by
  obtain ⟨j, rfl⟩ : ∃ j, k = j + 1 := ⟨k - 1, by omega⟩
  rw [List.take_succ_eq_append_getElem h, List.take_succ_eq_append_getElem (show j < l.length by omega), List.append_assoc]
  exact rise_snoc _ _ _
theorem rise_one (l : List At) (h : 0 < l.length) : riseB (l.take 1) = true := by
  cases l with
  | nil => simp at h
  | cons a l => simp [riseB]
theorem rise_prefix (l : List At) (k : Nat) : riseB l = true → riseB (l.take k) = true := by
  intro h
  induction k with
  | zero => simp [riseB]
  | succ k ih =>
    by_cases hk : k + 1 ≤ l.length
    · by_cases h0 : 0 < k
      · have : ∀ (n : Nat), k + 1 ≤ n → n ≤ l.length → riseB (l.take n) = true → riseB (l.take (k + 1)) = true := by
          intro n
          induction n with
          | zero => intro h1 _ _; omega
          | succ n ihn =>
            intro h1 h2 h3
            by_cases e : k + 1 = n + 1
            · rw [e]; exact h3
            · rw [rise_take l n (by omega) (by omega)] at h3
              exact ihn (by omega) (by omega) (by revert h3; cases riseB (l.take n) <;> simp)
        exact this l.length hk (Nat.le_refl _) (by rw [List.take_length]; exact h)
      · have : k = 0 := by omega
        subst this
        exact rise_one l (by omega)
    · rw [List.take_of_length_le (by omega)]; exact h
theorem check_long {l : List At} (h : ¬ l.length ≤ 64) : checkL l = false := by unfold checkL; rw [decide_eq_false h]; rfl
theorem check_att {l : List At} (k : Nat) (h : k < l.length) (h2 : attB l[k] = false) : checkL l = false := by
  unfold checkL
  have : l.all attB = false := by rw [List.all_eq_false]; exact ⟨l[k], List.getElem_mem h, by simp [h2]⟩
  rw [this]; simp
theorem check_rise {l : List At} (k : Nat) (h0 : 0 < k) (h : k < l.length) (h2 : lessA l[k - 1] l[k] = false) : checkL l = false := by
  have : riseB l = false := by
    cases e : riseB l
    · rfl
    · have := rise_prefix l (k + 1) e
      rw [rise_take l k h0 h, h2] at this
      simp at this
  unfold checkL; rw [this]; simp
theorem check_yes {l : List At} (h1 : l.length ≤ 64) (h2 : l.all attB = true) (h3 : riseB l = true) : checkL l = true := by
  unfold checkL; rw [decide_eq_true h1, h2, h3]; rfl
theorem att_take (l : List At) (k : Nat) (h : k < l.length) (h1 : (l.take k).all attB = true) (h2 : attB l[k] = true) : (l.take (k + 1)).all attB = true := by
  rw [List.take_succ_eq_append_getElem h, List.all_append, h1]; simp [h2]
end Go.Proofs.Ytcdlleeonfnamaa
