import Derived.Test.YtcdlleeonfnamaaRefAsk
import Derived.Test.YtcdlleeonfnamaaFills
import Derived.Lib.IndexLaws
namespace Go.Proofs.Ytcdlleeonfnamaa
open Go.RowKit

/-! ### where a byte stands first -/
theorem index_at (c : UInt8) (l : List UInt8) : (c ∉ l ∧ Lib.indexByte l c = -1) ∨ ∃ a b : List UInt8, l = a ++ c :: b ∧ c ∉ a ∧ Lib.indexByte l c = (a.length : Int) := by
  induction l with
  | nil => left; simp [Lib.indexByte]
  | cons x l ih =>
    by_cases h : x = c
    · right; exact ⟨[], l, by simp [h], by simp, by simp [Lib.indexByte, h]⟩
    · rcases ih with ⟨h1, h2⟩ | ⟨a, b, h1, h2, h3⟩
      · left
        refine ⟨by simp [h1]; exact fun e => h e.symm, ?_⟩
        simp [Lib.indexByte, h, h2]
      · right
        refine ⟨x :: a, b, by simp [h1], by simp [h2]; exact fun e => h e.symm, ?_⟩
        have hne : ¬ ((a.length : Int) = -1) := by omega
        simp [Lib.indexByte, h, h3, hne]
theorem first_one {c : UInt8} : ∀ {a b p q : List UInt8}, a ++ c :: b = p ++ c :: q → c ∉ a → c ∉ p → a = p ∧ b = q
  | [], b, [], q, h, _, _ => ⟨rfl, by simpa using h⟩
  | [], b, y :: p, q, h, _, hp => by simp at h; exact absurd (by simp [h.1]) hp
  | x :: a, b, [], q, h, ha, _ => by simp at h; exact absurd (by simp [h.1]) ha
  | x :: a, b, y :: p, q, h, ha, hp => by
    simp only [List.cons_append, List.cons.injEq] at h
    obtain ⟨e1, e2⟩ := first_one h.2 (fun hm => ha (by simp [hm])) (fun hm => hp (by simp [hm]))
    exact ⟨by rw [h.1, e1], e2⟩

/-! ### a condition's parts -/
theorem nm_split (l : List UInt8) : l.all nmB = true ∨ ∃ p y t, l = p ++ y :: t ∧ p.all nmB = true ∧ nmB y = false := by
  induction l with
  | nil => left; rfl
  | cons x l ih =>
    cases h : nmB x with
    | false => right; exact ⟨[], x, l, rfl, rfl, h⟩
    | true =>
      rcases ih with h1 | ⟨p, y, t, h1, h2, h3⟩
      · left; simp [h, h1]
      · right; exact ⟨x :: p, y, t, by rw [h1]; rfl, by rw [List.all_cons, h, h2]; rfl, h3⟩
theorem askN_all (l : List At) (no : Bool) {c : List UInt8} (h : c.all nmB = true) : askN l no c = if nameB c = false then none else some (c, (getL l (bT c)).isSome != no) := by
  unfold askN
  rw [run_end c h, List.take_length, List.drop_length]
  rfl
theorem askN_at (l : List At) (no : Bool) {p t : List UInt8} {y : UInt8} (h : p.all nmB = true) (hy : nmB y = false) : askN l no (p ++ y :: t) = if nameB p = false then none else restA (getL l (bT p)) p no (y :: t) := by
  unfold askN
  rw [run_to p t y h hy, List.take_left, List.drop_left]
theorem name_mid (p t : List UInt8) {y : UInt8} (hx : nmB y = false) : nameB (p ++ y :: t) = false := by
  cases e : nameB (p ++ y :: t) with
  | false => rfl
  | true => have := List.all_eq_true.1 (name_all e) y (by simp); rw [hx] at this; cases this
theorem ask_not (l : List At) (c : List UInt8) : askL l (33 :: c) = if nameB c = true then some (c, !(getL l (bT c)).isSome) else none := by
  show askN l true c = _
  rcases nm_split c with h | ⟨p, y, t, rfl, h, hy⟩
  · rw [askN_all l true h]
    cases nameB c <;> cases (getL l (bT c)).isSome <;> rfl
  · rw [askN_at l true h hy, name_mid p t hy, rest_no]
    simp
theorem askL_plain (l : List At) {c : List UInt8} (h : c.head? ≠ some 33) (h0 : c ≠ []) : askL l c = askN l false c := by
  cases c with
  | nil => exact absurd rfl h0
  | cons x c =>
    have : ¬ x = 33 := fun e => h (by rw [e]; rfl)
    show (if x = 33 then _ else _) = _
    rw [if_neg this]
theorem rest_bad (o : Option ByteArray) (nm : List UInt8) {y : UInt8} {t : List UInt8} (h : ¬ y = 61) (h2 : ¬ (y = 33 ∧ t.head? = some 61)) : restA o nm false (y :: t) = none := by
  cases t with
  | nil => exact rest_one o nm h
  | cons z t => exact rest_other o nm t h (fun e => h2 ⟨e.1, by rw [e.2]; rfl⟩)
theorem ask_is (l : List At) {c : List UInt8} (h : c.head? ≠ some 33) (h6 : (61 : UInt8) ∉ c) : askL l c = if nameB c = true then some (c, (getL l (bT c)).isSome) else none := by
  by_cases h0 : c = []
  · subst h0; rfl
  rw [askL_plain l h h0]
  rcases nm_split c with hc | ⟨p, y, t, rfl, hc, hy⟩
  · rw [askN_all l false hc]
    cases nameB c <;> cases (getL l (bT c)).isSome <;> rfl
  · rw [askN_at l false hc hy, name_mid p t hy, rest_bad]
    · simp
    · intro e; exact h6 (by simp [e])
    · rintro ⟨_, e⟩
      cases t with
      | nil => simp at e
      | cons z t => simp at e; exact h6 (by simp [e])
theorem nm61 : nmB 61 = false := by decide
theorem nm33 : nmB 33 = false := by decide
theorem nm125 : nmB 125 = false := by decide
theorem ask_ne (l : List At) {a b : List UInt8} (h : (a ++ [33]).head? ≠ some 33) (h6 : (61 : UInt8) ∉ a) : askL l (a ++ 33 :: 61 :: b) = if nameB a = true then some (a, !decide (getL l (bT a) = some (bT b))) else none := by
  have hh : (a ++ 33 :: 61 :: b).head? ≠ some 33 := by
    cases a with
    | nil => exact fun _ => h rfl
    | cons x a => exact fun e => h e
  rw [askL_plain l hh (by simp)]
  rcases nm_split a with hc | ⟨p, y, t, rfl, hc, hy⟩
  · rw [askN_at l false hc nm33, rest_isnt _ _ b (by decide) ⟨rfl, rfl⟩]
    cases nameB a <;> rfl
  · have e : p ++ y :: t ++ 33 :: 61 :: b = p ++ y :: (t ++ 33 :: 61 :: b) := by simp
    rw [e, askN_at l false hc hy, name_mid p t hy, rest_bad]
    · simp
    · intro e; exact h6 (by simp [e])
    · rintro ⟨_, e⟩
      cases t with
      | nil => simp at e
      | cons z t => simp at e; exact h6 (by simp [e])
theorem ask_eq (l : List At) {a b : List UInt8} (h : (a ++ 61 :: b).head? ≠ some 33) (h6 : (61 : UInt8) ∉ a) (h3 : a.getLast? ≠ some 33) : askL l (a ++ 61 :: b) = if nameB a = true then some (a, decide (getL l (bT a) = some (bT b))) else none := by
  rw [askL_plain l h (by simp)]
  rcases nm_split a with hc | ⟨p, y, t, rfl, hc, hy⟩
  · rw [askN_at l false hc nm61, rest_is _ _ b rfl]
    cases nameB a <;> rfl
  · have e : p ++ y :: t ++ 61 :: b = p ++ y :: (t ++ 61 :: b) := by simp
    rw [e, askN_at l false hc hy, name_mid p t hy, rest_bad]
    · simp
    · intro e; exact h6 (by simp [e])
    · rintro ⟨e1, e2⟩
      cases t with
      | nil => exact h3 (by simp [e1])
      | cons z t => simp at e2; exact h6 (by simp [e2])

/-! ### where a name is asked for -/
theorem asked_some {t nm : List UInt8} (h : askedL (123 :: t) = some nm) : nameB nm = true ∧ ∃ r, t = nm ++ 125 :: r := by
  simp only [askedL] at h
  split at h
  · rename_i hc
    obtain ⟨_, h2, h3⟩ := hc
    injection h with h
    refine ⟨by rw [← h]; exact h3, ?_⟩
    obtain ⟨hlt, he⟩ := List.getElem?_eq_some_iff.1 h2
    refine ⟨t.drop (runL t + 1), ?_⟩
    rw [← h, ← he, ← List.drop_eq_getElem_cons hlt, List.take_append_drop]
  · cases h
theorem name_size {l : List UInt8} (h : nameB l = true) : 1 ≤ l.length ∧ l.length ≤ 60 := by
  unfold nameB at h
  simp only [Bool.and_eq_true, decide_eq_true_eq] at h
  exact ⟨h.1.1.1, h.1.1.2⟩
theorem asked_no {t : List UInt8} (h : (125 : UInt8) ∉ t.take 61) : askedL (123 :: t) = none := by
  cases e : askedL (123 :: t) with
  | none => rfl
  | some nm =>
    obtain ⟨h1, r, rfl⟩ := asked_some e
    have := (name_size h1).2
    exact absurd (by rw [List.take_append]; simp; right; rw [show 61 - nm.length = (60 - nm.length) + 1 by omega]; simp) h
theorem asked_cut {t p q : List UInt8} (h : t.take 61 = p ++ 125 :: q) (hp : (125 : UInt8) ∉ p) : askedL (123 :: t) = if nameB p = true then some p else none := by
  have ht : t = p ++ 125 :: (q ++ t.drop 61) := by
    have := List.take_append_drop 61 t
    rw [h] at this
    simpa using this.symm
  by_cases hn : nameB p = true
  · rw [if_pos hn, ht]; exact asked_name p _ hn
  · rw [if_neg hn]
    cases e : askedL (123 :: t) with
    | none => rfl
    | some nm =>
      obtain ⟨h1, r, h2⟩ := asked_some e
      have h3 : (125 : UInt8) ∉ nm := fun hm => by have := List.all_eq_true.1 (name_all h1) 125 hm; rw [nm125] at this; cases this
      obtain ⟨e1, _⟩ := first_one (ht.symm.trans h2) hp h3
      rw [e1] at hn
      exact absurd h1 hn

/-- a text, parted at the first name that it asks for -/
def nextL : List UInt8 → Option (List UInt8 × List UInt8 × List UInt8)
  | [] => none
  | c :: t => match askedL (c :: t) with
    | some nm => some ([], nm, t.drop (nm.length + 1))
    | none => (nextL t).map fun x => (c :: x.1, x.2)
def nextK (s : List UInt8) (k : Nat) : Option (List UInt8 × List UInt8 × List UInt8) := (nextL (s.drop k)).map fun x => (s.take k ++ x.1, x.2)
theorem nextK_zero (s : List UInt8) : nextK s 0 = nextL s := by unfold nextK; simp
theorem nextK_end (s : List UInt8) (k : Nat) (h : s.length ≤ k) : nextK s k = none := by unfold nextK; rw [List.drop_of_length_le h]; rfl
theorem nextK_none (s : List UInt8) (k : Nat) (h : k < s.length) (h1 : askedL (s.drop k) = none) : nextK s k = nextK s (k + 1) := by
  unfold nextK
  rw [List.drop_eq_getElem_cons h] at h1 ⊢
  rw [nextL, h1]
  have ht := List.take_succ_eq_append_getElem h
  cases nextL (s.drop (k + 1)) with
  | none => rfl
  | some x =>
    show some (s.take k ++ (s[k] :: x.1), x.2) = some (s.take (k + 1) ++ x.1, x.2)
    rw [ht, List.append_assoc]; rfl
theorem nextK_some (s : List UInt8) (k : Nat) (h : k < s.length) {nm : List UInt8} (h1 : askedL (s.drop k) = some nm) : nextK s k = some (s.take k, nm, (s.drop (k + 1)).drop (nm.length + 1)) := by
  unfold nextK
  rw [List.drop_eq_getElem_cons h] at h1 ⊢
  rw [nextL, h1]
  simp
theorem go_none (l : List At) : ∀ (s out : List UInt8) (asked : List (List UInt8)), nextL s = none → goL l s out asked = (out ++ s, asked)
  | [], out, asked, _ => by rw [go_nil]; simp
  | c :: t, out, asked, h => by
    rw [nextL] at h
    cases e : askedL (c :: t) with
    | some nm => rw [e] at h; cases h
    | none =>
      rw [e] at h
      rw [go_plain e, go_none l t _ _ (by simpa using h)]
      simp
theorem go_some (l : List At) : ∀ (s out : List UInt8) (asked : List (List UInt8)) {a nm b : List UInt8}, nextL s = some (a, nm, b) → goL l s out asked = goL l b (out ++ a ++ valueL l nm) (if nm ∈ asked then asked else asked ++ [nm])
  | [], out, asked, a, nm, b, h => by cases h
  | c :: t, out, asked, a, nm, b, h => by
    rw [nextL] at h
    cases e : askedL (c :: t) with
    | some nm' =>
      rw [e] at h
      injection h with h
      injection h with h1 h
      injection h with h2 h3
      rw [go_name e, ← h1, ← h2, ← h3]
      simp
    | none =>
      rw [e] at h
      cases e2 : nextL t with
      | none => rw [e2] at h; cases h
      | some x =>
        rw [e2] at h
        obtain ⟨a', nm', b'⟩ := x
        simp only [Option.map_some, Option.some.injEq, Prod.mk.injEq] at h
        obtain ⟨rfl, rfl, rfl⟩ := h
        rw [go_plain e, go_some l t _ _ e2]
        simp
theorem next_parts : ∀ {s a nm b : List UInt8}, nextL s = some (a, nm, b) → nameB nm = true ∧ s.length = a.length + nm.length + 2 + b.length
  | [], a, nm, b, h => by cases h
  | c :: t, a, nm, b, h => by
    rw [nextL] at h
    cases e : askedL (c :: t) with
    | some nm' =>
      rw [e] at h
      injection h with h
      injection h with h1 h
      injection h with h2 h3
      have hc : c = 123 := by
        by_cases hc : c = 123
        · exact hc
        · rw [asked_other t hc] at e; cases e
      subst hc
      obtain ⟨n1, r, rfl⟩ := asked_some e
      subst h2
      refine ⟨n1, ?_⟩
      rw [← h1, ← h3]
      simp
      omega
    | none =>
      rw [e] at h
      cases e2 : nextL t with
      | none => rw [e2] at h; cases h
      | some x =>
        rw [e2] at h
        obtain ⟨a', nm', b'⟩ := x
        simp only [Option.map_some, Option.some.injEq, Prod.mk.injEq] at h
        obtain ⟨rfl, rfl, rfl⟩ := h
        obtain ⟨n1, n2⟩ := next_parts e2
        exact ⟨n1, by simp; omega⟩
end Go.Proofs.Ytcdlleeonfnamaa
