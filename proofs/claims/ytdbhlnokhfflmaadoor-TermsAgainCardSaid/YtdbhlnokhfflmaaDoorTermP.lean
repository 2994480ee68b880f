import Derived.Test.YtdbhlnokhfflmaaDoorTermL2
namespace Go.Proofs.YtdbhlnokhfflmaaDoor
open Go.RowKit

/-! ### what follows, as plain lists -/
theorem part_iff (l : List UInt8) : partB l = true ↔ l ≠ [] ∧ ∀ c ∈ l, signB c = false := by
  unfold partB
  rw [Bool.and_eq_true, Bool.not_eq_true', Bool.not_eq_true', List.any_eq_false]
  constructor
  · rintro ⟨h1, h2⟩
    refine ⟨fun e => (by rw [e] at h1; cases h1), fun c hc => ?_⟩
    have := h2 c hc
    cases h : signB c with
    | true => exact absurd h this
    | false => rfl
  · rintro ⟨h1, h2⟩
    exact ⟨by cases l with | nil => exact absurd rfl h1 | cons _ _ => rfl, fun c hc e => (by rw [h2 c hc] at e; cases e)⟩
theorem split_no {c : UInt8} (h : signB c = false) : splitB c = false := by
  cases e : splitB c with
  | false => rfl
  | true => rw [split_sign e] at h; cases h
theorem ahead_mid {x y : List UInt8} {c : UInt8} (hx : ∀ d ∈ x, splitB d = false) (hc : splitB c = true) : aheadL (x ++ c :: y) = x ∧ restL (x ++ c :: y) = c :: y := by
  have h1 : ∀ d ∈ x, (!splitB d) = true := fun d hd => by rw [hx d hd]; rfl
  unfold aheadL restL
  rw [List.takeWhile_append_of_pos h1, List.dropWhile_append_of_pos h1]
  simp [hc]
theorem ahead_none {x : List UInt8} (hx : ∀ d ∈ x, splitB d = false) : aheadL x = x ∧ restL x = [] := by
  have h1 : ∀ d ∈ x, (!splitB d) = true := fun d hd => by rw [hx d hd]; rfl
  exact ⟨take_self h1, drop_nil h1⟩
theorem parse_mid {x y : List UInt8} {c : UInt8} (hx : ∀ d ∈ x, splitB d = false) (hc : splitB c = true) (hl : (x ++ c :: y).length ≤ 240) (h1 : partB (trimL x) = true) (h2 : partB (trimL y) = true) :
    parseL (x ++ c :: y) = if c = 59 then some (trimL x, trimL y, []) else some (trimL x, [], trimL y) := by
  obtain ⟨e1, e2⟩ := ahead_mid (y := y) hx hc
  unfold parseL
  rw [if_neg (by omega), e1, e2, if_neg (by rw [h1]; decide)]
  simp only [h2, Bool.true_eq_false, if_false]
theorem parse_none {x : List UInt8} (hx : ∀ d ∈ x, splitB d = false) (hl : x.length ≤ 240) (h1 : partB (trimL x) = true) : parseL x = some (trimL x, [], []) := by
  obtain ⟨e1, e2⟩ := ahead_none hx
  unfold parseL
  rw [if_neg (by omega), e1, e2, if_neg (by rw [h1]; decide)]
/-- what is read: its form -/
theorem parse_some {s : List UInt8} {p : Parts} (h : parseL s = some p) : s.length ≤ 240 ∧
    ((partB (trimL s) = true ∧ (∀ d ∈ s, signB d = false) ∧ p = (trimL s, [], [])) ∨ ∃ x y c, s = x ++ c :: y ∧ splitB c = true ∧ (∀ d ∈ x, signB d = false) ∧ (∀ d ∈ y, signB d = false) ∧ partB (trimL x) = true ∧ partB (trimL y) = true ∧
      ((c = 59 ∧ p = (trimL x, trimL y, [])) ∨ (c = 62 ∧ p = (trimL x, [], trimL y)))) := by
  have noS : ∀ {z : List UInt8}, partB (trimL z) = true → ∀ d ∈ z, signB d = false := fun {z} hz d hd => by
    cases e : signB d with
    | false => rfl
    | true => rw [part_any hd e] at hz; cases hz
  unfold parseL at h
  by_cases hl : 240 < s.length
  · rw [if_pos hl] at h; cases h
  rw [if_neg hl] at h
  refine ⟨by omega, ?_⟩
  cases hp : partB (trimL (aheadL s)) with
  | false => rw [if_pos hp] at h; cases h
  | true =>
    rw [if_neg (by rw [hp]; decide)] at h
    rcases rest_cases s with ⟨h1, h2, h3⟩ | ⟨c, o, h1, h2, h3, h4⟩
    · rw [h1] at h
      simp only [Option.some.injEq] at h
      rw [h2] at hp h
      exact .inl ⟨hp, noS hp, h.symm⟩
    · rw [h1] at h
      simp only at h
      cases ho : partB (trimL o) with
      | false => rw [if_pos ho] at h; cases h
      | true =>
        rw [if_neg (by rw [ho]; decide)] at h
        refine .inr ⟨aheadL s, o, c, h3, h2, noS hp, noS ho, hp, ho, ?_⟩
        by_cases hc : c = 59
        · rw [if_pos hc] at h
          exact .inl ⟨hc, (Option.some.inj h).symm⟩
        · rw [if_neg hc] at h
          refine .inr ⟨?_, (Option.some.inj h).symm⟩
          unfold splitB at h2
          simp only [Bool.or_eq_true, decide_eq_true_eq] at h2
          exact h2.resolve_left hc
theorem part_ne {l : List UInt8} (h : partB l = true) : l ≠ [] := ((part_iff l).1 h).1
theorem part_idem {l : List UInt8} (h : partB (trimL l) = true) : partB (trimL (trimL l)) = true := by rw [trim_idem]; exact h
theorem no_splits {l : List UInt8} (h : ∀ d ∈ l, signB d = false) : ∀ d ∈ l, splitB d = false := fun d hd => split_no (h d hd)
theorem trim_signs {l : List UInt8} (h : ∀ d ∈ l, signB d = false) : ∀ d ∈ trimL l, signB d = false := fun d hd => h d (trim_mem hd)
/-- TermsAgain, in plain words -/
theorem again {s : List UInt8} {p : Parts} (h : parseL s = some p) : textL p = some (writeL p) ∧ parseL (writeL p) = some p ∧ (writeL p).length ≤ s.length ∧ p.1 ≠ [] ∧ (p.2.1 = [] ∨ p.2.2 = []) ∧ s.length ≤ 240 := by
  obtain ⟨hl, hc⟩ := parse_some h
  have key : parseL (writeL p) = some p ∧ (writeL p).length ≤ s.length ∧ p.1 ≠ [] ∧ (p.2.1 = [] ∨ p.2.2 = []) := by
    rcases hc with ⟨h1, h2, rfl⟩ | ⟨x, y, c, hs, hsp, h1, h2, h3, h4, ⟨hcc, rfl⟩ | ⟨hcc, rfl⟩⟩
    · have e : writeL (trimL s, [], []) = trimL s := by unfold writeL; simp
      rw [e]
      refine ⟨?_, trim_len s, part_ne h1, .inl rfl⟩
      rw [parse_none (no_splits (trim_signs h2)) (by have := trim_len s; omega) (part_idem h1), trim_idem]
    · have e : writeL (trimL x, trimL y, []) = trimL x ++ 59 :: trimL y := by unfold writeL; simp [part_ne h4]
      have z : (trimL x ++ 59 :: trimL y).length ≤ s.length := by
        have := trim_len x; have := trim_len y; rw [hs]; simp; omega
      rw [e]
      refine ⟨?_, z, part_ne h3, .inr rfl⟩
      rw [parse_mid (no_splits (trim_signs h1)) (by rfl) (by omega) (part_idem h3) (part_idem h4), if_pos rfl, trim_idem, trim_idem]
    · have e : writeL (trimL x, [], trimL y) = trimL x ++ 62 :: trimL y := by unfold writeL; simp [part_ne h4]
      have z : (trimL x ++ 62 :: trimL y).length ≤ s.length := by
        have := trim_len x; have := trim_len y; rw [hs]; simp; omega
      rw [e]
      refine ⟨?_, z, part_ne h3, .inl rfl⟩
      rw [parse_mid (no_splits (trim_signs h1)) (by rfl) (by omega) (part_idem h3) (part_idem h4), if_neg (by decide), trim_idem, trim_idem]
  exact ⟨by unfold textL; rw [if_pos key.1], key.1, key.2.1, key.2.2.1, key.2.2.2, hl⟩
/-- the signs of what is read: at most one, and it parts -/
theorem signs_of {s : List UInt8} {p : Parts} (h : parseL s = some p) : (s.filter signB).length ≤ 1 ∧ ∀ c ∈ s, signB c = true → splitB c = true := by
  obtain ⟨-, hc⟩ := parse_some h
  rcases hc with ⟨-, h2, -⟩ | ⟨x, y, c, hs, hsp, h1, h2, -⟩
  · have : s.filter signB = [] := List.filter_eq_nil_iff.2 (fun d hd e => by rw [h2 d hd] at e; cases e)
    rw [this]
    exact ⟨by simp, fun c hc e => (by rw [h2 c hc] at e; cases e)⟩
  · have e1 : x.filter signB = [] := List.filter_eq_nil_iff.2 (fun d hd e => by rw [h1 d hd] at e; cases e)
    have e2 : y.filter signB = [] := List.filter_eq_nil_iff.2 (fun d hd e => by rw [h2 d hd] at e; cases e)
    subst hs
    refine ⟨?_, fun d hd e => ?_⟩
    · rw [List.filter_append, List.filter_cons, e1, e2]; split <;> simp
    · rcases List.mem_append.1 hd with hd | hd
      · rw [h1 d hd] at e; cases e
      · rcases List.mem_cons.1 hd with rfl | hd
        · exact hsp
        · rw [h2 d hd] at e; cases e
theorem two_signs {a b c : List UInt8} {x y : UInt8} (hx : signB x = true) (hy : signB y = true) : parseL (a ++ x :: (b ++ y :: c)) = none := by
  cases h : parseL (a ++ x :: (b ++ y :: c)) with
  | none => rfl
  | some p =>
    have := (signs_of h).1
    rw [List.filter_append, List.filter_cons, if_pos hx, List.filter_append, List.filter_cons, if_pos hy] at this
    simp at this; omega
theorem bad_sign {a b : List UInt8} {x : UInt8} (hx : signB x = true) (hn : splitB x = false) : parseL (a ++ x :: b) = none := by
  cases h : parseL (a ++ x :: b) with
  | none => rfl
  | some p => rw [(signs_of h).2 x (by simp) hx] at hn; cases hn
/-- with blanks around the signs -/
def wideL (s : List UInt8) : List UInt8 := s.flatMap (fun c => if splitB c then [32, 9, c, 32] else [c])
theorem wide_none : ∀ {s : List UInt8}, (∀ d ∈ s, splitB d = false) → wideL s = s
  | [], _ => rfl
  | c :: t, h => by
    have ih := wide_none (s := t) (fun d hd => h d (by simp [hd]))
    unfold wideL at ih ⊢
    rw [List.flatMap_cons, ih, h c (by simp)]; rfl
theorem wide_mid {x y : List UInt8} {c : UInt8} (hx : ∀ d ∈ x, splitB d = false) (hy : ∀ d ∈ y, splitB d = false) (hc : splitB c = true) : wideL (x ++ c :: y) = x ++ [32, 9] ++ c :: (32 :: y) := by
  have e1 := wide_none hx
  have e2 := wide_none hy
  unfold wideL at e1 e2 ⊢
  rw [List.flatMap_append, List.flatMap_cons, e1, e2, hc]; simp
theorem trim_pad1 (x : List UInt8) : trimL (32 :: (x ++ [32, 9])) = trimL x := by
  rw [trim_lr, lef_cons _ (by rfl), ← trim_lr, trim_rl, show x ++ [32, 9] = (x ++ [32]) ++ [9] by simp, rig_snoc _ (by rfl), rig_snoc _ (by rfl), ← trim_rl]
theorem trim_pad2 (x : List UInt8) : trimL (32 :: (x ++ [9])) = trimL x := by
  rw [trim_lr, lef_cons _ (by rfl), ← trim_lr, trim_rl, rig_snoc _ (by rfl), ← trim_rl]
theorem pad_mem {x : List UInt8} (hx : ∀ d ∈ x, splitB d = false) (l : List UInt8) (hl : ∀ d ∈ l, splitB d = false) : ∀ d ∈ 32 :: (x ++ l), splitB d = false := fun d hd => by
  rcases List.mem_cons.1 hd with rfl | hd
  · rfl
  · exact (List.mem_append.1 hd).elim (hx d) (hl d)
theorem wide_parse {s : List UInt8} {p : Parts} (h : parseL s = some p) (hw : (wideL s).length ≤ 238) : parseL (32 :: (wideL s ++ [9])) = some p := by
  obtain ⟨-, hc⟩ := parse_some h
  rcases hc with ⟨h1, h2, rfl⟩ | ⟨x, y, c, hs, hsp, h1, h2, h3, h4, h5⟩
  · rw [wide_none (no_splits h2)] at hw ⊢
    rw [parse_none (pad_mem (no_splits h2) [9] (by simp [splitB])) (by simp; omega) (by rw [trim_pad2]; exact h1), trim_pad2]
  · subst hs
    rw [wide_mid (no_splits h1) (no_splits h2) hsp] at hw ⊢
    have e : (32 :: (x ++ [32, 9] ++ c :: (32 :: y) ++ [9]) : List UInt8) = (32 :: (x ++ [32, 9])) ++ c :: (32 :: (y ++ [9])) := by simp
    rw [e, parse_mid (pad_mem (no_splits h1) [32, 9] (by simp [splitB])) hsp (by simp at hw ⊢; omega) (by rw [trim_pad1]; exact h3) (by rw [trim_pad2]; exact h4), trim_pad1, trim_pad2]
    rcases h5 with ⟨hcc, rfl⟩ | ⟨hcc, rfl⟩
    · rw [if_pos hcc]
    · rw [if_neg (by rw [hcc]; decide)]
theorem wide_take (s : List UInt8) (k : Nat) (h : k < s.length) : wideL (s.take (k + 1)) = wideL (s.take k) ++ (if splitB s[k] then [32, 9, s[k], 32] else [s[k]]) := by
  rw [List.take_succ_eq_append_getElem h]
  unfold wideL
  rw [List.flatMap_append]; simp
/-- a term of one letter -/
theorem long_yes {x : UInt8} {k : Nat} (hx : signB x = false) (hb : blankB x = false) (h0 : 0 < k) (h : k ≤ 240) : parseL (List.replicate k x) = some (List.replicate k x, [], []) := by
  have hm : ∀ d ∈ List.replicate k x, d = x := fun d hd => (List.mem_replicate.1 hd).2
  have ht : trimL (List.replicate k x) = List.replicate k x := by
    have hl : lefL (List.replicate k x) = List.replicate k x := by
      obtain ⟨m, rfl⟩ : ∃ m, k = m + 1 := ⟨k - 1, by omega⟩
      rw [List.replicate_succ, lef_stop _ hb]
    have hr : rigL (List.replicate k x) = List.replicate k x := by
      obtain ⟨m, rfl⟩ : ∃ m, k = m + 1 := ⟨k - 1, by omega⟩
      rw [List.replicate_succ', rig_stop _ hb]
    rw [trim_lr, hl, hr]
  have hp : partB (List.replicate k x) = true := (part_iff _).2 ⟨fun e => (by have := congrArg List.length e; simp at this; omega), fun c hc => by rw [hm c hc]; exact hx⟩
  rw [parse_none (fun d hd => by rw [hm d hd]; exact split_no hx) (by simp; omega) (by rw [ht]; exact hp), ht]
theorem long_no {s : List UInt8} (h : s = [] ∨ 240 < s.length) : parseL s = none := by
  rcases h with rfl | h
  · decide
  · unfold parseL; rw [if_pos h]
/-! keys -/
theorem lowB_idem (c : UInt8) : lowB (lowB c) = lowB c := by
  have h := lowB_toNat c
  have h2 := lowB_toNat (lowB c)
  apply UInt8.toNat_inj.1
  have hn : c.toNat < 256 := c.toNat_lt
  unfold lowN at h h2
  split at h <;> split at h2 <;> omega
theorem low_idem (l : List UInt8) : lowL (lowL l) = lowL l := by
  unfold lowL; rw [List.map_map]; congr 1; funext c; exact lowB_idem c
theorem low_len (l : List UInt8) : (lowL l).length = l.length := by unfold lowL; simp
theorem low_drop (l : List UInt8) (n : Nat) : lowL (l.drop n) = (lowL l).drop n := by unfold lowL; rw [List.map_drop]
theorem cut_drop : ∀ (bs : List (List UInt8)) (l : List UInt8), ∃ n, n ≤ l.length ∧ cutBeg bs l = l.drop n
  | [], l => ⟨0, by omega, rfl⟩
  | b :: bs, l => by
    by_cases h : l.take b.length = b
    · exact ⟨b.length, by have := congrArg List.length h; rw [List.length_take] at this; omega, cut_yes bs h⟩
    · obtain ⟨n, h1, h2⟩ := cut_drop bs l
      exact ⟨n, h1, (cut_not bs h).trans h2⟩
theorem key_drop (l : List UInt8) : ∃ n, n ≤ l.length ∧ keyL l = (lowL l).drop n := by
  obtain ⟨n, h1, h2⟩ := cut_drop begs (lowL l)
  exact ⟨n, by rw [low_len] at h1; exact h1, h2⟩
theorem key_low (l : List UInt8) : lowL (keyL l) = keyL l := by
  obtain ⟨n, -, h⟩ := key_drop l
  rw [h, low_drop, low_idem]
theorem key_of_low (l : List UInt8) : keyL (lowL l) = keyL l := by unfold keyL; rw [low_idem]
theorem key_len (l : List UInt8) : (keyL l).length ≤ l.length := by
  obtain ⟨n, -, h⟩ := key_drop l
  rw [h, List.length_drop, low_len]; omega
theorem key_end (l : List UInt8) : (lowL l).drop (l.length - (keyL l).length) = keyL l := by
  obtain ⟨n, hn, h⟩ := key_drop l
  have hz : (keyL l).length = l.length - n := by rw [h, List.length_drop, low_len]
  rw [hz, show l.length - (l.length - n) = n by omega, h]
theorem low_append (a b : List UInt8) : lowL (a ++ b) = lowL a ++ lowL b := by unfold lowL; rw [List.map_append]
theorem key_the (l : List UInt8) : keyL ([116, 104, 101, 32] ++ l) = lowL l := by
  unfold keyL begs
  rw [low_append, show lowL [116, 104, 101, 32] = [116, 104, 101, 32] by decide, cut_yes _ (by simp)]; simp
theorem key_a (l : List UInt8) : keyL ([65, 32] ++ l) = lowL l := by
  unfold keyL begs
  rw [low_append, show lowL [65, 32] = [97, 32] by decide, cut_not _ (by simp), cut_yes _ (by simp)]; simp
theorem key_an (l : List UInt8) : keyL ([97, 110, 32] ++ l) = lowL l := by
  unfold keyL begs
  rw [low_append, show lowL [97, 110, 32] = [97, 110, 32] by decide, cut_not _ (by simp), cut_not _ (by simp), cut_yes _ (by simp)]; simp
end Go.Proofs.YtdbhlnokhfflmaaDoor
