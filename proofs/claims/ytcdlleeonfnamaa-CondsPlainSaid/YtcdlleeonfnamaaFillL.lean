import Derived.Test.YtcdlleeonfnamaaRun
import Derived.Test.YtcdlleeonfnamaaBt
namespace Go.Proofs.Ytcdlleeonfnamaa
open Go.RowKit

/-- what is asked for at a text's beginning: '{', a name, '}' -/
def askedL : List UInt8 → Option (List UInt8)
  | [] => none
  | c :: t => if c = 123 ∧ t[runL t]? = some 125 ∧ nameB (t.take (runL t)) = true then some (t.take (runL t)) else none
/-- a name's value, or as it stands -/
def valueL (l : List At) (nm : List UInt8) : List UInt8 := match getL l (bT nm) with
  | some v => v.data.toList
  | none => 123 :: nm ++ [125]
/-- a text, filled: what is left, what was told, what was asked for -/
def fillF (l : List At) : Nat → List UInt8 → List UInt8 → List (List UInt8) → List UInt8 × List (List UInt8)
  | 0, _, out, asked => (out, asked)
  | f + 1, s, out, asked => match s with
    | [] => (out, asked)
    | c :: t => match askedL (c :: t) with
      | some nm => fillF l f (t.drop (nm.length + 1)) (out ++ valueL l nm) (if nm ∈ asked then asked else asked ++ [nm])
      | none => fillF l f t (out ++ [c]) asked
def fillL (l : List At) (s : List UInt8) : List UInt8 × List (List UInt8) := fillF l s.length s [] []

theorem fillF_end (l : List At) (f : Nat) (out : List UInt8) (asked : List (List UInt8)) : fillF l f [] out asked = (out, asked) := by cases f <;> rfl
theorem fillF_plain {l : List At} {f : Nat} {c : UInt8} {t out : List UInt8} {asked : List (List UInt8)} (h : askedL (c :: t) = none) : fillF l (f + 1) (c :: t) out asked = fillF l f t (out ++ [c]) asked := by
  simp only [fillF, h]
theorem fillF_name {l : List At} {f : Nat} {c : UInt8} {t out nm : List UInt8} {asked : List (List UInt8)} (h : askedL (c :: t) = some nm) :
    fillF l (f + 1) (c :: t) out asked = fillF l f (t.drop (nm.length + 1)) (out ++ valueL l nm) (if nm ∈ asked then asked else asked ++ [nm]) := by
  simp only [fillF, h]
/-- more fuel than is wanted changes nothing -/
theorem fillF_more (l : List At) : ∀ (f : Nat) (s out : List UInt8) (asked : List (List UInt8)), s.length ≤ f → fillF l f s out asked = fillF l s.length s out asked := by
  intro f
  induction f using Nat.strongRecOn with
  | ind f ih =>
    intro s out asked hf
    cases s with
    | nil => rw [fillF_end, fillF_end]
    | cons c t =>
      obtain ⟨g, rfl⟩ : ∃ g, f = g + 1 := ⟨f - 1, by simp at hf; omega⟩
      simp only [List.length_cons] at hf ⊢
      cases h : askedL (c :: t) with
      | none => rw [fillF_plain h, fillF_plain h]; exact ih g (by omega) t _ _ (by omega)
      | some nm =>
        rw [fillF_name h, fillF_name h]
        have h1 : (t.drop (nm.length + 1)).length ≤ t.length := by rw [List.length_drop]; omega
        rw [ih g (by omega) _ _ _ (by omega)]
        by_cases e : t.length = g
        · rw [e, ih g (by omega) _ _ _ (by omega)]
        · rw [ih t.length (by omega) _ _ _ h1]
theorem fill_plain {l : List At} {c : UInt8} {t out : List UInt8} {asked : List (List UInt8)} (h : askedL (c :: t) = none) : fillF l (c :: t).length (c :: t) out asked = fillF l t.length t (out ++ [c]) asked := fillF_plain h
theorem fill_name {l : List At} {c : UInt8} {t out nm : List UInt8} {asked : List (List UInt8)} (h : askedL (c :: t) = some nm) :
    fillF l (c :: t).length (c :: t) out asked = fillF l (t.drop (nm.length + 1)).length (t.drop (nm.length + 1)) (out ++ valueL l nm) (if nm ∈ asked then asked else asked ++ [nm]) := by
  rw [List.length_cons, fillF_name h, fillF_more]
  rw [List.length_drop]; omega
end Go.Proofs.Ytcdlleeonfnamaa
