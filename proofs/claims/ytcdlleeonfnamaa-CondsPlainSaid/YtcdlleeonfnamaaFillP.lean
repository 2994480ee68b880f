import Derived.Test.YtcdlleeonfnamaaFills
import Derived.Test.YtcdlleeonfnamaaSameT
namespace Go.Proofs.Ytcdlleeonfnamaa
open Go.RowKit

/-- is a brace open? -/
def opn (o : Bool) (s : List UInt8) : Bool := s.foldl (fun o c => decide (c.toNat = 123) || (o && !decide (c.toNat = 125))) o
theorem opn_snoc (o : Bool) (s : List UInt8) (c : UInt8) : opn o (s ++ [c]) = (decide (c.toNat = 123) || (opn o s && !decide (c.toNat = 125))) := by unfold opn; rw [List.foldl_append]; rfl
/-- each brace that opens has one that closes behind it -/
def shut : List UInt8 → Prop
  | [] => True
  | c :: t => (c = 123 → 125 ∈ t) ∧ shut t
theorem opn_in (t : List UInt8) : opn true t = false → 125 ∈ t := by
  induction t with
  | nil => intro h; cases h
  | cons c t ih =>
    intro h
    by_cases e : c = 125
    · subst e; simp
    · have e2 : (decide (c.toNat = 123) || (true && !decide (c.toNat = 125))) = true := by
        have : ¬ c.toNat = 125 := fun e' => e (UInt8.toNat_inj.1 (by show c.toNat = 125; exact e'))
        rw [decide_eq_false this]; simp
      have h' : opn (decide (c.toNat = 123) || (true && !decide (c.toNat = 125))) t = false := h
      rw [e2] at h'
      exact List.mem_cons_of_mem _ (ih h')
theorem opn_shut (s : List UInt8) : ∀ o, opn o s = false → shut s := by
  induction s with
  | nil => intro _ _; trivial
  | cons c t ih =>
    intro o h
    have h' : opn (decide (c.toNat = 123) || (o && !decide (c.toNat = 125))) t = false := h
    refine ⟨?_, ih _ h'⟩
    rintro rfl
    exact opn_in t h'
theorem run_lt (t : List UInt8) (h : 125 ∈ t) : runL t < t.length := by
  induction t with
  | nil => cases h
  | cons c t ih =>
    unfold runL
    rw [List.takeWhile_cons]
    by_cases e : nmB c = true
    · rw [if_pos e]
      have hne : c ≠ 125 := by rintro rfl; revert e; decide
      have := ih (by rcases List.mem_cons.1 h with h | h; exact absurd h.symm hne; exact h)
      unfold runL at this
      simp; omega
    · rw [if_neg e]; simp
theorem run_app (t s : List UInt8) (h : runL t < t.length) : runL (t ++ s) = runL t := by
  induction t with
  | nil => simp at h
  | cons c t ih =>
    unfold runL at h ⊢
    rw [List.cons_append, List.takeWhile_cons, List.takeWhile_cons]
    rw [List.takeWhile_cons] at h
    by_cases e : nmB c = true
    · rw [if_pos e] at h ⊢
      rw [if_pos e]
      simp only [List.length_cons] at h ⊢
      have := ih (by unfold runL; omega)
      unfold runL at this
      omega
    · rw [if_neg e, if_neg e]
theorem asked_app (c : UInt8) (t s : List UInt8) (h : c = 123 → 125 ∈ t) : askedL (c :: (t ++ s)) = askedL (c :: t) := by
  by_cases e : c = 123
  · have hl := run_lt t (h e)
    simp only [askedL]
    rw [run_app t s hl, List.getElem?_append_left hl, List.take_append_of_le_length (by omega)]
  · rw [asked_other _ e, asked_other _ e]
theorem asked_len {c : UInt8} {t nm : List UInt8} (h : askedL (c :: t) = some nm) : nm.length + 1 ≤ t.length := by
  simp only [askedL] at h
  split at h
  · next hc =>
    injection h with h
    have := (List.getElem?_eq_some_iff.1 hc.2.1).1
    rw [← h, List.length_take]; omega
  · cases h
theorem shut_drop (s : List UInt8) : ∀ n, shut s → shut (s.drop n) := by
  induction s with
  | nil => intro n _; simp [shut]
  | cons c t ih =>
    intro n h
    cases n with
    | zero => exact h
    | succ n => exact ih n h.2
/-- a text in which no brace is open, and one behind it -/
theorem go_append (l : List At) (t : List UInt8) : ∀ (k : Nat) (s out : List UInt8) (asked : List (List UInt8)), s.length ≤ k → shut s → goL l (s ++ t) out asked = goL l t (goL l s out asked).1 (goL l s out asked).2 := by
  intro k
  induction k with
  | zero => intro s out asked h _; have : s = [] := List.eq_nil_of_length_eq_zero (by omega); subst this; rfl
  | succ k ih =>
    intro s out asked h hs
    cases s with
    | nil => rfl
    | cons c s =>
      simp only [List.length_cons] at h
      rw [List.cons_append]
      have ha := asked_app c s t hs.1
      cases e : askedL (c :: s) with
      | none =>
        rw [e] at ha
        rw [go_plain ha, go_plain e]
        exact ih s _ _ (by omega) hs.2
      | some nm =>
        rw [e] at ha
        have hl := asked_len e
        rw [go_name ha, go_name e, List.drop_append_of_le_length hl]
        exact ih _ _ _ (by rw [List.length_drop]; omega) (shut_drop s _ hs.2)
/-- one more name -/
def addN (q : List (List UInt8)) (n : List UInt8) : List (List UInt8) := if n ∈ q then q else q ++ [n]
/-- what is told hangs on the text alone -/
theorem go_parts (l : List At) : ∀ (k : Nat) (t : List UInt8), t.length ≤ k → ∃ (X : List UInt8) (ns : List (List UInt8)), ∀ out asked, goL l t out asked = (out ++ X, ns.foldl addN asked) := by
  intro k
  induction k with
  | zero => intro t h; have : t = [] := List.eq_nil_of_length_eq_zero (by omega); subst this; exact ⟨[], [], fun out asked => by rw [go_nil, List.append_nil]; rfl⟩
  | succ k ih =>
    intro t h
    cases t with
    | nil => exact ⟨[], [], fun out asked => by rw [go_nil, List.append_nil]; rfl⟩
    | cons c t =>
      simp only [List.length_cons] at h
      cases e : askedL (c :: t) with
      | none =>
        obtain ⟨X, ns, hX⟩ := ih t (by omega)
        exact ⟨c :: X, ns, fun out asked => by rw [go_plain e, hX, List.append_assoc]; rfl⟩
      | some nm =>
        obtain ⟨X, ns, hX⟩ := ih (t.drop (nm.length + 1)) (by rw [List.length_drop]; omega)
        exact ⟨valueL l nm ++ X, nm :: ns, fun out asked => by rw [go_name e, hX, List.append_assoc]; rfl⟩
theorem add_prefix (ns : List (List UInt8)) : ∀ q, q <+: ns.foldl addN q := by
  induction ns with
  | nil => intro q; exact List.prefix_refl _
  | cons n ns ih =>
    intro q
    refine List.IsPrefix.trans ?_ (ih (addN q n))
    unfold addN
    split
    · exact List.prefix_refl _
    · exact List.prefix_append _ _
theorem add_length (ns : List (List UInt8)) : ∀ (q r : List (List UInt8)) (d : Nat), (∀ x ∈ r, x ∈ q) → q.length ≤ d + r.length → (ns.foldl addN q).length ≤ d + (ns.foldl addN r).length := by
  induction ns with
  | nil => intro q r d _ h; exact h
  | cons n ns ih =>
    intro q r d h1 h2
    refine ih (addN q n) (addN r n) d ?_ ?_
    · intro x hx
      unfold addN at hx ⊢
      split at hx
      · split
        · exact h1 x hx
        · exact List.mem_append_left _ (h1 x hx)
      · rcases List.mem_append.1 hx with hx | hx
        · split
          · exact h1 x hx
          · exact List.mem_append_left _ (h1 x hx)
        · simp only [List.mem_singleton] at hx
          subst hx
          split
          · assumption
          · simp
    · unfold addN
      by_cases hq : n ∈ q
      · rw [if_pos hq]
        split
        · exact h2
        · rw [List.length_append]; simp; omega
      · rw [if_neg hq, if_neg (fun hr => hq (h1 n hr))]
        rw [List.length_append, List.length_append]; simp; omega
/-- of two texts, the first one with no brace open -/
theorem fill_two (l : List At) (s t : List UInt8) (h : shut s) : (fillL l (s ++ t)).1 = (fillL l s).1 ++ (fillL l t).1 ∧ (fillL l s).2 <+: (fillL l (s ++ t)).2 ∧ (fillL l (s ++ t)).2.length ≤ (fillL l s).2.length + (fillL l t).2.length := by
  obtain ⟨X, ns, hX⟩ := go_parts l t.length t (Nat.le_refl _)
  have e1 : fillL l (s ++ t) = goL l t (goL l s [] []).1 (goL l s [] []).2 := go_append l t s.length s [] [] (Nat.le_refl _) h
  have e2 : fillL l s = goL l s [] [] := rfl
  have e3 : fillL l t = goL l t [] [] := rfl
  rw [e1, e2, e3, hX, hX]
  exact ⟨by simp, add_prefix _ _, add_length ns _ [] _ (by simp) (by simp)⟩
theorem fill_none (l : List At) (s : List UInt8) (h : ∀ c ∈ s, ¬ c = 123) : fillL l s = (s, []) := by
  have := go_text l s [] [] [] h
  rw [List.append_nil, go_nil] at this
  exact this

/-- a row's beginning reads as the beginning of what it holds -/
theorem texts_prefix {w : World} {base : Nat} {p : Option Addr} {c : Nat} {zs xs : List (List UInt8)} (h : w.ownsRow base 9 1 (.slice p zs.length c) zs.length (zs.map strV)) (hp : xs <+: zs) (hz : zs.length ≤ 9223372036854775807) : Texts w (.slice p xs.length c) xs := by
  have hle := hp.length_le
  obtain ⟨p2, c2, hv, _, hc⟩ := texts_owned h rfl hz
  cases hv
  refine ⟨p, c, rfl, by omega, fun h0 => ?_⟩
  obtain ⟨A, hA, hcell⟩ := hc (by omega)
  refine ⟨A, hA, fun j hj => ?_⟩
  rw [hcell j (by omega)]
  congr 2
  obtain ⟨r, rfl⟩ := hp
  rw [List.getElem_append_left hj]
theorem own_form {w : World} {base n : Nat} {a : Value} {xs : List Value} (h : w.ownsRow base 9 1 a n xs) : (a = .slice none 0 0 ∧ n = 0) ∨ ∃ g c, a = .slice (some ⟨g, 0, none⟩) n c ∧ n ≤ c := by
  rcases h.2 with ⟨rfl, h0⟩ | ⟨g, cap, cur, rfl, _, _, h1, _⟩
  · exact .inl ⟨rfl, h0⟩
  · exact .inr ⟨g, cap, rfl, h1⟩
end Go.Proofs.Ytcdlleeonfnamaa
