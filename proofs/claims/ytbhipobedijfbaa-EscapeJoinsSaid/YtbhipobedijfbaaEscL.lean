import Derived.WalkKit
namespace Go.Proofs.Ytbhipobedijfbaa
set_option maxRecDepth 100000

/-! ### texts for pages, as plain lists -/
/-- what stands for a byte that would cut a page -/
def markL (c : UInt8) : Option (List UInt8) :=
  if c = 38 then some [38, 97, 109, 112, 59] else if c = 60 then some [38, 108, 116, 59] else if c = 62 then some [38, 103, 116, 59] else if c = 34 then some [38, 113, 117, 111, 116, 59] else if c = 39 then some [38, 35, 51, 57, 59] else none
def oneL (c : UInt8) : List UInt8 := (markL c).getD [c]
def textL (s : List UInt8) : List UInt8 := s.flatMap oneL
/-- the signs, in the order in which they are tried -/
def signsL : List UInt8 := [38, 60, 62, 34, 39]
/-- the sign for which the head of a text stands, and how many bytes stand for it -/
def headL (s : List UInt8) : Option (UInt8 × Nat) :=
  if [38, 97, 109, 112, 59] <+: s then some (38, 5) else if [38, 108, 116, 59] <+: s then some (60, 4) else if [38, 103, 116, 59] <+: s then some (62, 4) else if [38, 113, 117, 111, 116, 59] <+: s then some (34, 6) else if [38, 35, 51, 57, 59] <+: s then some (39, 5) else none
theorem markL_head {c : UInt8} {m : List UInt8} (h : markL c = some m) : ∃ t, m = 38 :: t := by
  unfold markL at h
  split at h
  · exact ⟨_, (Option.some.inj h).symm⟩
  · split at h
    · exact ⟨_, (Option.some.inj h).symm⟩
    · split at h
      · exact ⟨_, (Option.some.inj h).symm⟩
      · split at h
        · exact ⟨_, (Option.some.inj h).symm⟩
        · split at h
          · exact ⟨_, (Option.some.inj h).symm⟩
          · cases h
def backF : Nat → List UInt8 → Option (List UInt8)
  | 0, _ => some []
  | _ + 1, [] => some []
  | f + 1, c :: t => match markL c with
    | none => (backF f t).map (c :: ·)
    | some _ => match headL (c :: t) with
      | none => none
      | some (d, n) => (backF f ((c :: t).drop n)).map (d :: ·)
def backL (s : List UInt8) : Option (List UInt8) := backF s.length s
theorem head_pos {s : List UInt8} {d : UInt8} {n : Nat} (h : headL s = some (d, n)) : 0 < n ∧ n ≤ s.length ∧ markL d = some (s.take n) := by
  unfold headL at h
  split at h
  · next hp => cases h; obtain ⟨t, rfl⟩ := hp; exact ⟨by decide, by simp, rfl⟩
  · split at h
    · next hp => cases h; obtain ⟨t, rfl⟩ := hp; exact ⟨by decide, by simp, rfl⟩
    · split at h
      · next hp => cases h; obtain ⟨t, rfl⟩ := hp; exact ⟨by decide, by simp, rfl⟩
      · split at h
        · next hp => cases h; obtain ⟨t, rfl⟩ := hp; exact ⟨by decide, by simp, rfl⟩
        · split at h
          · next hp => cases h; obtain ⟨t, rfl⟩ := hp; exact ⟨by decide, by simp, rfl⟩
          · cases h
theorem backF_fuel : ∀ (f : Nat) (s : List UInt8), s.length ≤ f → backF f s = backL s := by
  intro f
  induction f using Nat.strongRecOn with
  | _ f ih =>
    intro s h
    match s, f with
    | [], 0 => rfl
    | [], f + 1 => rfl
    | c :: t, f + 1 =>
      simp only [List.length_cons] at h
      show backF (f + 1) (c :: t) = backF (t.length + 1) (c :: t)
      unfold backF
      cases hm : markL c with
      | none =>
        simp only
        rw [ih f (by omega) t (by omega)]; rfl
      | some m =>
        simp only
        cases hh : headL (c :: t) with
        | none => rfl
        | some p =>
          obtain ⟨d, n⟩ := p
          obtain ⟨h1, h2, -⟩ := head_pos hh
          simp only [List.length_cons] at h2
          simp only
          have hl : ((c :: t).drop n).length = t.length + 1 - n := by rw [List.length_drop, List.length_cons]
          rw [ih f (by omega) _ (by omega)]
          by_cases e : t.length = f
          · rw [e, ih f (by omega) _ (by omega)]
          · rw [ih t.length (by omega) _ (by omega)]
theorem backL_nil : backL [] = some [] := rfl
theorem backL_plain {c : UInt8} (t : List UInt8) (h : markL c = none) : backL (c :: t) = (backL t).map (c :: ·) := by
  show backF (t.length + 1) (c :: t) = _
  unfold backF; rw [h]; rfl
theorem backL_bad {c : UInt8} {m t : List UInt8} (h : markL c = some m) (hh : headL (c :: t) = none) : backL (c :: t) = none := by
  show backF (t.length + 1) (c :: t) = _
  unfold backF; rw [h, hh]
theorem backL_mark {c d : UInt8} {m t : List UInt8} {n : Nat} (h : markL c = some m) (hh : headL (c :: t) = some (d, n)) : backL (c :: t) = (backL ((c :: t).drop n)).map (d :: ·) := by
  show backF (t.length + 1) (c :: t) = _
  unfold backF; rw [h, hh]
  simp only
  obtain ⟨h1, h2, -⟩ := head_pos hh
  simp only [List.length_cons] at h2
  rw [backF_fuel _ _ (by rw [List.length_drop, List.length_cons]; omega)]
theorem headL_mark {d : UInt8} {m : List UInt8} (h : markL d = some m) (t : List UInt8) : headL (m ++ t) = some (d, m.length) := by
  unfold markL at h
  split at h
  · next e => cases h; subst e; rfl
  · split at h
    · next e => cases h; subst e; rfl
    · split at h
      · next e => cases h; subst e; rfl
      · split at h
        · next e => cases h; subst e; rfl
        · split at h
          · next e => cases h; subst e; rfl
          · cases h
theorem amp_marked : markL 38 = some [38, 97, 109, 112, 59] := rfl
theorem back_one (c : UInt8) (t : List UInt8) : backL (oneL c ++ t) = (backL t).map (c :: ·) := by
  unfold oneL
  cases hm : markL c with
  | none => simp only [Option.getD_none, List.singleton_append]; exact backL_plain t hm
  | some m =>
    simp only [Option.getD_some]
    obtain ⟨t', e⟩ := markL_head hm
    have hh := headL_mark hm t
    rw [e] at hh ⊢
    rw [List.cons_append] at hh ⊢
    rw [backL_mark amp_marked hh]
    congr 2
    have : (38 :: (t' ++ t)).drop ((38 :: t').length) = t := by simp
    exact this
theorem back_text : ∀ s : List UInt8, backL (textL s) = some s
  | [] => rfl
  | c :: t => by
    show backL (oneL c ++ textL t) = _
    rw [back_one, back_text t]; rfl
theorem text_append (a b : List UInt8) : textL (a ++ b) = textL a ++ textL b := List.flatMap_append
theorem text_back : ∀ (n : Nat) (s b : List UInt8), s.length ≤ n → backL s = some b → textL b = s := by
  intro n
  induction n with
  | zero => intro s b h e; have : s = [] := List.eq_nil_of_length_eq_zero (by omega); subst this; cases e; rfl
  | succ n ih =>
    intro s b h e
    match s with
    | [] => cases e; rfl
    | c :: t =>
      simp only [List.length_cons] at h
      cases hm : markL c with
      | none =>
        rw [backL_plain t hm] at e
        cases hb : backL t with
        | none => rw [hb] at e; cases e
        | some b' =>
          rw [hb] at e
          cases e
          show oneL c ++ textL b' = _
          rw [ih t b' (by omega) hb]
          unfold oneL; rw [hm]; rfl
      | some m =>
        cases hh : headL (c :: t) with
        | none => rw [backL_bad hm hh] at e; cases e
        | some p =>
          obtain ⟨d, k⟩ := p
          rw [backL_mark hm hh] at e
          obtain ⟨h1, h2, h3⟩ := head_pos hh
          cases hb : backL ((c :: t).drop k) with
          | none => rw [hb] at e; cases e
          | some b' =>
            rw [hb] at e
            cases e
            show oneL d ++ textL b' = _
            rw [ih _ b' (by rw [List.length_drop, List.length_cons]; omega) hb]
            unfold oneL; rw [h3]
            exact List.take_append_drop k (c :: t)
theorem back_is {s b : List UInt8} (h : backL s = some b) : textL b = s := text_back s.length s b (Nat.le_refl _) h
theorem back_append {a b x y : List UInt8} (ha : backL a = some x) (hb : backL b = some y) : backL (a ++ b) = some (x ++ y) := by
  rw [← back_is ha, ← back_is hb, ← text_append, back_text]
end Go.Proofs.Ytbhipobedijfbaa
