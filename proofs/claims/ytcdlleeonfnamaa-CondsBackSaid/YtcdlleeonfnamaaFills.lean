import Derived.Test.YtcdlleeonfnamaaFillL
namespace Go.Proofs.Ytcdlleeonfnamaa
open Go.RowKit

/-- all that is left of a text is gone through -/
def goL (l : List At) (s out : List UInt8) (asked : List (List UInt8)) : List UInt8 × List (List UInt8) := fillF l s.length s out asked
theorem go_nil (l : List At) (out : List UInt8) (asked : List (List UInt8)) : goL l [] out asked = (out, asked) := rfl
theorem go_plain {l : List At} {c : UInt8} {t out : List UInt8} {asked : List (List UInt8)} (h : askedL (c :: t) = none) : goL l (c :: t) out asked = goL l t (out ++ [c]) asked := fill_plain h
theorem go_name {l : List At} {c : UInt8} {t out nm : List UInt8} {asked : List (List UInt8)} (h : askedL (c :: t) = some nm) :
    goL l (c :: t) out asked = goL l (t.drop (nm.length + 1)) (out ++ valueL l nm) (if nm ∈ asked then asked else asked ++ [nm]) := fill_name h
theorem asked_other {c : UInt8} (t : List UInt8) (h : ¬ c = 123) : askedL (c :: t) = none := by
  simp only [askedL]; rw [if_neg (fun e => h e.1)]
theorem go_text (l : List At) (a : List UInt8) : ∀ (s out : List UInt8) (asked : List (List UInt8)), (∀ c ∈ a, ¬ c = 123) → goL l (a ++ s) out asked = goL l s (out ++ a) asked := by
  induction a with
  | nil => intro s out asked _; rw [List.nil_append, List.append_nil]
  | cons c a ih =>
    intro s out asked h
    rw [List.cons_append, go_plain (asked_other _ (h c (by simp))), ih _ _ _ (fun x hx => h x (by simp [hx])), List.append_assoc]
    rfl
theorem run_to (n t : List UInt8) (c : UInt8) (h : n.all nmB = true) (hc : nmB c = false) : runL (n ++ c :: t) = n.length := by
  refine run_stop _ n.length (by simp) (by rw [List.take_left']; exact h; rfl) ?_
  rw [List.getElem_append_right (Nat.le_refl _)]; simpa using hc
theorem name_all {l : List UInt8} (h : nameB l = true) : l.all nmB = true := by
  unfold nameB at h
  simp only [Bool.and_eq_true, decide_eq_true_eq] at h
  exact h.2
theorem asked_name (n s : List UInt8) (h : nameB n = true) : askedL (123 :: (n ++ 125 :: s)) = some n := by
  have hr := run_to n s 125 (name_all h) (by decide)
  have ht : (n ++ 125 :: s).take n.length = n := List.take_left' rfl
  simp only [askedL]
  rw [hr, ht, if_pos (by simp [h])]
theorem go_asked (l : List At) (n s out : List UInt8) (asked : List (List UInt8)) (h : nameB n = true) :
    goL l (123 :: (n ++ 125 :: s)) out asked = goL l s (out ++ valueL l n) (if n ∈ asked then asked else asked ++ [n]) := by
  rw [go_name (asked_name n s h)]
  congr 1
  have e : n ++ 125 :: s = (n ++ [125]) ++ s := by simp
  rw [e, List.drop_left' (by simp)]
/-- a name in braces, twice, with texts around -/
theorem fill_twice (l : List At) (a n : List UInt8) (ha : ∀ c ∈ a, ¬ c = 123) (h : nameB n = true) :
    fillL l (a ++ 123 :: (n ++ 125 :: (a ++ 123 :: (n ++ 125 :: [])))) = (a ++ valueL l n ++ a ++ valueL l n, [n]) := by
  show goL l _ [] [] = _
  rw [go_text l a _ _ _ ha, go_asked l n _ _ _ h, go_text l a _ _ _ ha, go_asked l n _ _ _ h, go_nil]
  simp
end Go.Proofs.Ytcdlleeonfnamaa
