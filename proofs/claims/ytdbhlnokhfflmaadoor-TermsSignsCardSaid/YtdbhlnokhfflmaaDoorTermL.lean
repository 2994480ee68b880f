import Derived.Test.YtdbhlnokhfflmaaDoorBeyond
import Derived.Test.YtdbhlnokhfflmaaDoorShelf
namespace Go.Proofs.YtdbhlnokhfflmaaDoor
open Go.RowKit

/-! ### terms' texts, as plain lists of bytes -/
def bT (l : List UInt8) : ByteArray := ⟨l.toArray⟩
theorem bT_data (s : ByteArray) : bT s.data.toList = s := by apply ByteArray.ext; simp [bT]
theorem bT_list (l : List UInt8) : (bT l).data.toList = l := rfl
theorem bT_size (l : List UInt8) : (bT l).size = l.length := by show l.toArray.size = _; simp
theorem bT_eq {s : ByteArray} {l : List UInt8} (h : s.data.toList = l) : s = bT l := by rw [← h, bT_data]
theorem bT_inj {a b : List UInt8} (h : bT a = bT b) : a = b := by have := congrArg (fun t : ByteArray => t.data.toList) h; simpa [bT_list] using this

def blankB (c : UInt8) : Bool := decide (c = 32) || decide (c = 9)
def trimL (s : List UInt8) : List UInt8 := ((s.dropWhile blankB).reverse.dropWhile blankB).reverse
/-- the signs that no part has -/
def signB (c : UInt8) : Bool := decide (c = 59) || decide (c = 62) || decide (c = 60) || decide (c = 40) || decide (c = 41)
/-- the signs that part a text -/
def splitB (c : UInt8) : Bool := decide (c = 59) || decide (c = 62)
/-- a part that may be -/
def partB (l : List UInt8) : Bool := !l.isEmpty && !l.any signB

theorem trimR_cons (p : UInt8 → Bool) (c : UInt8) (t : List UInt8) : ((c :: t).reverse.dropWhile p).reverse = if (t.reverse.dropWhile p).reverse = [] ∧ p c = true then [] else c :: (t.reverse.dropWhile p).reverse := by
  rw [List.reverse_cons, List.dropWhile_append]
  cases h : t.reverse.dropWhile p with
  | nil =>
    cases hp : p c <;> simp [hp]
  | cons a b => simp
theorem trim_comm (p : UInt8 → Bool) : ∀ l : List UInt8, ((l.reverse.dropWhile p).reverse).dropWhile p = ((l.dropWhile p).reverse.dropWhile p).reverse
  | [] => rfl
  | c :: t => by
    have ih := trim_comm p t
    rw [trimR_cons]
    cases hp : p c with
    | true =>
      rw [List.dropWhile_cons_of_pos hp, ← ih]
      by_cases h : (t.reverse.dropWhile p).reverse = []
      · rw [if_pos ⟨h, rfl⟩, h]
      · rw [if_neg (fun e => h e.1), List.dropWhile_cons_of_pos hp]
    | false =>
      have hn : ¬ p c = true := by rw [hp]; decide
      rw [if_neg (fun e => by cases e.2), List.dropWhile_cons_of_neg hn, List.dropWhile_cons_of_neg hn, trimR_cons, if_neg (fun e => hn e.2)]
theorem blank_contains (c : UInt8) : ([32, 9] : List UInt8).contains c = blankB c := by
  simp [blankB, Bool.or_comm]
theorem trim_same (l : List UInt8) : Lib.trimS l [32, 9] = trimL l := by
  unfold Lib.trimS Lib.trimLeftS Lib.trimRightS trimL
  have e : (fun c => ([32, 9] : List UInt8).contains c) = blankB := funext blank_contains
  rw [e]
  exact trim_comm blankB l

/-! trimming, from the left and from the right -/
def lefL (s : List UInt8) : List UInt8 := s.dropWhile blankB
def rigL (s : List UInt8) : List UInt8 := (s.reverse.dropWhile blankB).reverse
theorem trim_lr (s : List UInt8) : trimL s = rigL (lefL s) := rfl
theorem trim_rl (s : List UInt8) : trimL s = lefL (rigL s) := (trim_comm blankB s).symm
theorem drop_idem (p : UInt8 → Bool) : ∀ s : List UInt8, (s.dropWhile p).dropWhile p = s.dropWhile p
  | [] => rfl
  | c :: t => by
    cases h : p c with
    | true => rw [List.dropWhile_cons_of_pos h]; exact drop_idem p t
    | false =>
      have hn : ¬ p c = true := by rw [h]; decide
      rw [List.dropWhile_cons_of_neg hn, List.dropWhile_cons_of_neg hn]
theorem lef_idem (s : List UInt8) : lefL (lefL s) = lefL s := drop_idem _ s
theorem rig_idem (s : List UInt8) : rigL (rigL s) = rigL s := by unfold rigL; rw [List.reverse_reverse, drop_idem]
theorem trim_lef (s : List UInt8) : trimL (lefL s) = trimL s := by rw [trim_lr (lefL s), lef_idem]; rfl
theorem trim_rig (s : List UInt8) : trimL (rigL s) = trimL s := by rw [trim_rl (rigL s), rig_idem, ← trim_rl s]
theorem trim_idem (s : List UInt8) : trimL (trimL s) = trimL s := by rw [show trimL (trimL s) = trimL (rigL (lefL s)) from rfl, trim_rig, trim_lef]
theorem trim_len (s : List UInt8) : (trimL s).length ≤ s.length := by
  unfold trimL
  rw [List.length_reverse]
  have h1 := (List.dropWhile_suffix (l := s) blankB).length_le
  have h2 := (List.dropWhile_suffix (l := (s.dropWhile blankB).reverse) blankB).length_le
  rw [List.length_reverse] at h2
  omega
theorem lef_mem {s : List UInt8} {c : UInt8} (h : c ∈ lefL s) : c ∈ s := (List.dropWhile_suffix blankB).subset h
theorem rig_mem {s : List UInt8} {c : UInt8} (h : c ∈ rigL s) : c ∈ s := by
  unfold rigL at h
  have h2 := List.mem_reverse.1 h
  exact List.mem_reverse.1 ((List.dropWhile_suffix blankB).subset h2)
theorem trim_mem {s : List UInt8} {c : UInt8} (h : c ∈ trimL s) : c ∈ s := lef_mem (rig_mem h)
theorem mem_lef {c : UInt8} (hc : blankB c = false) : ∀ {s : List UInt8}, c ∈ s → c ∈ lefL s
  | [], h => by cases h
  | d :: t, h => by
    unfold lefL
    cases hd : blankB d with
    | true =>
      rw [List.dropWhile_cons_of_pos hd]
      rcases List.mem_cons.1 h with rfl | h
      · rw [hc] at hd; cases hd
      · exact mem_lef hc h
    | false => rw [List.dropWhile_cons_of_neg (by rw [hd]; decide)]; exact h
theorem mem_rig {c : UInt8} (hc : blankB c = false) {s : List UInt8} (h : c ∈ s) : c ∈ rigL s := by
  unfold rigL
  exact List.mem_reverse.2 (mem_lef hc (List.mem_reverse.2 h))
theorem mem_trim {c : UInt8} (hc : blankB c = false) {s : List UInt8} : c ∈ trimL s ↔ c ∈ s := ⟨trim_mem, fun h => mem_rig hc (mem_lef hc h)⟩
/-- a sign in the midst stays, and what stands to its left and right is trimmed apart -/
theorem lef_mid {c : UInt8} (hc : blankB c = false) (a b : List UInt8) : lefL (a ++ c :: b) = lefL a ++ c :: b := by
  unfold lefL
  rw [List.dropWhile_append]
  cases h : a.dropWhile blankB with
  | nil => simp [hc]
  | cons x y => simp
theorem rig_mid {c : UInt8} (hc : blankB c = false) (a b : List UInt8) : rigL (a ++ c :: b) = a ++ c :: rigL b := by
  have h := lef_mid hc b.reverse a.reverse
  unfold lefL at h
  unfold rigL
  rw [List.reverse_append, List.reverse_cons, List.append_assoc, List.singleton_append, h]
  simp
theorem trim_mid {c : UInt8} (hc : blankB c = false) (a b : List UInt8) : trimL (a ++ c :: b) = lefL a ++ c :: rigL b := by
  rw [trim_lr, lef_mid hc, rig_mid hc]
theorem sign_blank {c : UInt8} (h : signB c = true) : blankB c = false := by
  unfold signB at h
  simp only [Bool.or_eq_true, decide_eq_true_eq] at h
  rcases h with (((rfl | rfl) | rfl) | rfl) | rfl <;> rfl
theorem split_sign {c : UInt8} (h : splitB c = true) : signB c = true := by
  unfold splitB at h; unfold signB
  simp only [Bool.or_eq_true, decide_eq_true_eq] at h ⊢
  rcases h with rfl | rfl <;> simp
/-- no sign in what is trimmed, none in all of it -/
theorem any_trim (s : List UInt8) : (trimL s).any signB = s.any signB := by
  cases h : s.any signB with
  | true =>
    obtain ⟨c, hc, hs⟩ := List.any_eq_true.1 h
    exact List.any_eq_true.2 ⟨c, (mem_trim (sign_blank hs)).2 hc, hs⟩
  | false =>
    rw [List.any_eq_false] at h ⊢
    exact fun c hc => h c (trim_mem hc)

/-! ### a term's text, read -/
def aheadL (s : List UInt8) : List UInt8 := s.takeWhile (fun c => !splitB c)
def restL (s : List UInt8) : List UInt8 := s.dropWhile (fun c => !splitB c)
abbrev Parts := List UInt8 × List UInt8 × List UInt8
def parseL (s : List UInt8) : Option Parts :=
  if 240 < s.length then none
  else if partB (trimL (aheadL s)) = false then none
  else match restL s with
    | [] => some (trimL (aheadL s), [], [])
    | c :: o => if partB (trimL o) = false then none else if c = 59 then some (trimL (aheadL s), trimL o, []) else some (trimL (aheadL s), [], trimL o)
theorem rest_cases (s : List UInt8) : (restL s = [] ∧ aheadL s = s ∧ s.any splitB = false) ∨ ∃ c o, restL s = c :: o ∧ splitB c = true ∧ s = aheadL s ++ c :: o ∧ (aheadL s).any splitB = false := by
  have hs : aheadL s ++ restL s = s := List.takeWhile_append_dropWhile
  have ha : (aheadL s).any splitB = false := by
    rw [List.any_eq_false]
    intro c hc
    have := List.all_eq_true.1 (List.all_takeWhile (p := fun c => !splitB c) (l := s)) c hc
    simpa using this
  cases h : restL s with
  | nil =>
    rw [h, List.append_nil] at hs
    exact .inl ⟨rfl, hs, by rw [hs] at ha; exact ha⟩
  | cons c o =>
    refine .inr ⟨c, o, rfl, ?_, by rw [← h]; exact hs.symm, ha⟩
    have h2 : restL s ≠ [] := by rw [h]; exact List.cons_ne_nil _ _
    have h3 := List.head_dropWhile_not (p := fun c => !splitB c) (w := h2)
    have h4 : (restL s).head h2 = c := by simp [h]
    unfold restL at h4
    rw [h4] at h3
    simpa using h3
/-- as it is written -/
def writeL (p : Parts) : List UInt8 := p.1 ++ (if p.2.1 = [] then [] else 59 :: p.2.1) ++ (if p.2.2 = [] then [] else 62 :: p.2.2)
def textL (p : Parts) : Option (List UInt8) := if parseL (writeL p) = some p then some (writeL p) else none

/-! ### as the code reads it -/
def cutA (c : UInt8) (s : List UInt8) : List UInt8 := trimL (s.takeWhile (fun x => x != c))
def cutB (c : UInt8) (s : List UInt8) : List UInt8 := trimL ((s.dropWhile (fun x => x != c)).drop 1)
def cutF (c : UInt8) (s : List UInt8) : Bool := decide (c ∈ s)
def readL (s : List UInt8) : Option Parts :=
  if s.length ≤ 240 ∧ (cutF 59 s && cutF 62 (cutA 59 s)) = false ∧ partB (cutA 62 (cutA 59 s)) = true ∧ cutF 59 s = partB (cutB 59 s) ∧ cutF 62 (cutA 59 s) = partB (cutB 62 (cutA 59 s))
  then some (cutA 62 (cutA 59 s), cutB 59 s, cutB 62 (cutA 59 s)) else none
theorem take_self {p : UInt8 → Bool} : ∀ {s : List UInt8}, (∀ x ∈ s, p x = true) → s.takeWhile p = s
  | [], _ => rfl
  | c :: t, h => by rw [List.takeWhile_cons_of_pos (h c (by simp)), take_self (fun x hx => h x (by simp [hx]))]
theorem drop_nil {p : UInt8 → Bool} : ∀ {s : List UInt8}, (∀ x ∈ s, p x = true) → s.dropWhile p = []
  | [], _ => rfl
  | c :: t, h => by rw [List.dropWhile_cons_of_pos (h c (by simp)), drop_nil (fun x hx => h x (by simp [hx]))]
theorem first_of {c : UInt8} : ∀ {o : List UInt8}, c ∈ o → ∃ x y : List UInt8, o = x ++ c :: y ∧ c ∉ x
  | [], h => by cases h
  | d :: t, h => by
    by_cases e : d = c
    · subst e; exact ⟨[], t, rfl, by simp⟩
    · obtain ⟨x, y, h1, h2⟩ := first_of ((List.mem_cons.1 h).resolve_left (Ne.symm e))
      exact ⟨d :: x, y, by rw [h1]; rfl, fun e2 => (List.mem_cons.1 e2).elim (fun e3 => e e3.symm) h2⟩
theorem cut_none {c : UInt8} {s : List UInt8} (h : c ∉ s) : cutA c s = trimL s ∧ cutB c s = [] ∧ cutF c s = false := by
  have h1 : ∀ x ∈ s, (x != c) = true := fun x hx => by rw [bne_iff_ne]; exact fun e => h (e ▸ hx)
  unfold cutA cutB cutF
  have h2 : s.takeWhile (fun x => x != c) = s := take_self h1
  have h3 : s.dropWhile (fun x => x != c) = [] := drop_nil h1
  rw [h2, h3]
  exact ⟨rfl, rfl, decide_eq_false h⟩
theorem cut_mid {c : UInt8} {a b : List UInt8} (h : c ∉ a) : cutA c (a ++ c :: b) = trimL a ∧ cutB c (a ++ c :: b) = trimL b ∧ cutF c (a ++ c :: b) = true := by
  have h1 : ∀ x ∈ a, (x != c) = true := fun x hx => by rw [bne_iff_ne]; exact fun e => h (e ▸ hx)
  unfold cutA cutB cutF
  rw [List.takeWhile_append_of_pos h1, List.dropWhile_append_of_pos h1]
  simp
theorem part_nil : partB [] = false := rfl
theorem no_split {a : List UInt8} (h : a.any splitB = false) : (59 : UInt8) ∉ a ∧ (62 : UInt8) ∉ a := by
  rw [List.any_eq_false] at h
  exact ⟨fun e => h _ e rfl, fun e => h _ e rfl⟩
theorem part_any {a : List UInt8} {c : UInt8} (hc : c ∈ a) (hs : signB c = true) : partB (trimL a) = false := by
  unfold partB
  rw [any_trim, show a.any signB = true from List.any_eq_true.2 ⟨c, hc, hs⟩]
  simp
theorem read_same (s : List UInt8) : readL s = parseL s := by
  unfold readL parseL
  by_cases hl : 240 < s.length
  · rw [if_pos hl, if_neg (fun h => by omega)]
  rw [if_neg hl]
  rcases rest_cases s with ⟨h1, h2, h3⟩ | ⟨c, o, h1, h2, h3, h4⟩
  · obtain ⟨n1, n2⟩ := no_split h3
    obtain ⟨a1, a2, a3⟩ := cut_none n1
    obtain ⟨b1, b2, b3⟩ := cut_none (c := 62) (s := trimL s) (fun e => n2 (trim_mem e))
    rw [a1, a2, a3, b1, b2, b3, h1, h2, trim_idem]
    cases hp : partB (trimL s) <;> simp [part_nil]
    omega
  · obtain ⟨n1, n2⟩ := no_split h4
    rw [h1]
    generalize haa : aheadL s = a at *
    by_cases hc : c = 59
    · subst hc
      obtain ⟨a1, a2, a3⟩ := cut_mid (c := 59) (a := a) (b := o) n1
      rw [← h3] at a1 a2 a3
      obtain ⟨b1, b2, b3⟩ := cut_none (c := 62) (s := trimL a) (fun e => n2 (trim_mem e))
      rw [a1, a2, a3, b1, b2, b3, trim_idem]
      cases hp : partB (trimL a) <;> cases hq : partB (trimL o) <;> simp [part_nil, hq]
      omega
    · have hc2 : c = 62 := by
        unfold splitB at h2
        simp only [Bool.or_eq_true, decide_eq_true_eq] at h2
        exact h2.resolve_left hc
      subst hc2
      by_cases ho : (59 : UInt8) ∈ o
      · have hpo := part_any (a := o) ho rfl
        obtain ⟨x, y, hxy, hx⟩ := first_of ho
        have hs : s = (a ++ 62 :: x) ++ 59 :: y := by rw [h3, hxy]; simp
        obtain ⟨a1, a2, a3⟩ := cut_mid (c := 59) (a := a ++ 62 :: x) (b := y) (by
          intro e
          rcases List.mem_append.1 e with e | e
          · exact n1 e
          · rcases List.mem_cons.1 e with e | e
            · cases e
            · exact hx e)
        rw [← hs] at a1 a2 a3
        have b3 : cutF 62 (trimL (a ++ 62 :: x)) = true := by
          unfold cutF
          exact decide_eq_true ((mem_trim (by rfl)).2 (by simp))
        rw [a1, a3, b3]
        simp [hpo]
      · have hs : (59 : UInt8) ∉ s := by
          rw [h3]
          intro e
          rcases List.mem_append.1 e with e | e
          · exact n1 e
          · rcases List.mem_cons.1 e with e | e
            · cases e
            · exact ho e
        obtain ⟨a1, a2, a3⟩ := cut_none hs
        have ht : trimL s = lefL a ++ 62 :: rigL o := by rw [h3]; exact trim_mid (by rfl) a o
        obtain ⟨b1, b2, b3⟩ := cut_mid (c := 62) (a := lefL a) (b := rigL o) (fun e => n2 (lef_mem e))
        rw [← ht] at b1 b2 b3
        rw [a1, a2, a3, b1, b2, b3, trim_lef, trim_rig]
        cases hp : partB (trimL a) <;> cases hq : partB (trimL o) <;> simp [part_nil, hq]
        omega
end Go.Proofs.YtdbhlnokhfflmaaDoor
