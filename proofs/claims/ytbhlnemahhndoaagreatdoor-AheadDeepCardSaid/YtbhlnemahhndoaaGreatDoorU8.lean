/- Merged: ReadL, ReadF, ReadP, ReadO, ReadI, ReadS. -/
import Derived.Test.YtbhlnemahhndoaaGreatDoorU4
import Derived.Test.YtbhlnemahhndoaaGreatDoorVParts
namespace Go.Proofs.YtbhlnemahhndoaaGreatDoor
open Go.RowKit

/-! what is read, as plain lists -/
def blankB (c : UInt8) : Bool := decide (c = 32) || decide (c = 9)
/-- without blanks at its ends -/
def trimL (s : List UInt8) : List UInt8 := ((s.dropWhile blankB).reverse.dropWhile blankB).reverse
/-- up to the first blank; behind it -/
def cutW (s : List UInt8) : List UInt8 × List UInt8 := (s.takeWhile (fun c => !blankB c), trimL (s.dropWhile (fun c => !blankB c)))

/-- a line of the chapter: source, number, text -/
abbrev Ln := List UInt8 × Nat × List UInt8
/-- a fault: source, line, kind, text -/
abbrev Dg := List UInt8 × Nat × Nat × List UInt8
/-- a condition that is open -/
structure CondP where
  line : Nat
  first : Bool
  other : Bool
  else1 : Bool
/-- what there is while sources are read -/
structure Rd where
  attrs : List At
  own : List (List UInt8)
  asked : List (List UInt8)
  files : List (List UInt8)
  lines : List Ln
  diags : List Dg
  count : Nat
  long : Bool

def insL (n : List UInt8) : List (List UInt8) → List (List UInt8)
  | [] => [n]
  | x :: l => if Op.bytesLess n x = true then n :: x :: l else x :: insL n l
def Rd.ask (r : Rd) (n : List UInt8) : Rd := if n ∈ r.own ∨ n ∈ r.asked then r else { r with asked := insL n r.asked }
def Rd.fill (r : Rd) (s : List UInt8) : List UInt8 × Rd := ((fillL r.attrs s).1, (fillL r.attrs s).2.foldl Rd.ask r)
def Rd.tell (r : Rd) (file : List UInt8) (no k : Nat) (text : List UInt8) : Rd := { r with diags := r.diags ++ [(file, no, k, text)] }
def Rd.turn (r : Rd) (n : List UInt8) (l : List At) : Rd := { r with attrs := l ++ r.attrs.filter (neP (bT n)), own := r.own ++ [n] }

/-- do all parts hold that a line stands in? (the last one that was opened stands first) -/
def forceL (cs : List CondP) : Bool := cs.all fun c => if c.else1 = true then c.other else c.first
def beginsL (r : Rd) (cs : List CondP) (file : List UInt8) (no : Nat) (line rest : List UInt8) : List CondP × Rd :=
  if forceL cs = true then
    match askL r.attrs rest with
    | none => (⟨no, false, false, false⟩ :: cs, r.tell file no 3 line)
    | some (n, h) => if 16 ≤ cs.length then (⟨no, false, false, false⟩ :: cs, r.tell file no 5 line) else (⟨no, h, !h, false⟩ :: cs, r.ask n)
  else (⟨no, false, false, false⟩ :: cs, r)
/-- the first source of a name -/
def findL (l : List At) (n : List UInt8) : Option (List UInt8) := (getL l (bT n)).map (·.data.toList)
def wInclude : List UInt8 := [64, 105, 110, 99, 108, 117, 100, 101]
def wSet : List UInt8 := [64, 115, 101, 116]
def wUnset : List UInt8 := [64, 117, 110, 115, 101, 116]
def wIf : List UInt8 := [64, 105, 102]
def wElse : List UInt8 := [64, 101, 108, 115, 101]
def wEnd : List UInt8 := [64, 101, 110, 100]
/-- without the backslash, if it begins with one and '@' -/
def bareL : List UInt8 → List UInt8
  | 92 :: 64 :: t => 64 :: t
  | t => t
/-- a line that is in force, and is none of a condition's -/
def doesL (rec : List UInt8 → List UInt8 → Rd → Rd) (srcs : List At) (opn : List (List UInt8)) (file : List UInt8) (no : Nat) (line : List UInt8) (r : Rd) : Rd :=
  if line.head? ≠ some 64 then
    let f := r.fill (bareL line)
    { f.2 with lines := f.2.lines ++ [(file, no, f.1)] }
  else
    let word := (cutW line).1
    let rest := (cutW line).2
    if word = wInclude then
      if checkB rest = false then r.tell file no 3 line
      else if rest ∈ opn then r.tell file no 2 rest
      else if 16 ≤ opn.length then r.tell file no 5 rest
      else match findL srcs rest with
        | none => r.tell file no 1 rest
        | some text => rec rest text r
    else if word = wSet then
      let n := (cutW rest).1
      let f := r.fill (cutW rest).2
      if setE [] (bT n) (bT f.1) = 0 then f.2.turn n (setL [] (bT n) (bT f.1)) else f.2.tell file no 3 line
    else if word = wUnset then
      if cutE [] (bT rest) = 0 then r.turn rest [] else r.tell file no 3 line
    else r.tell file no 3 line
/-- a line -/
def lineL (rec : List UInt8 → List UInt8 → Rd → Rd) (srcs : List At) (opn : List (List UInt8)) (file : List UInt8) (no : Nat) (line : List UInt8) (cs : List CondP) (r : Rd) : List CondP × Rd :=
  let word := (cutW line).1
  if word = wIf then beginsL r cs file no line (cutW line).2
  else if word = wElse then
    match cs with
    | [] => (cs, r.tell file no 4 line)
    | c :: t => if c.else1 = true then (cs, r.tell file no 4 line) else ({ c with else1 := true } :: t, r)
  else if word = wEnd then
    match cs with
    | [] => (cs, r.tell file no 4 line)
    | _ :: t => (t, r)
  else if forceL cs = true then (cs, doesL rec srcs opn file no line r) else (cs, r)
/-- lines, one behind the other -/
def linesR (rec : List UInt8 → List UInt8 → Rd → Rd) (srcs : List At) (opn : List (List UInt8)) (file : List UInt8) : List (List UInt8) → Nat → List CondP → Rd → List CondP × Rd
  | [], _, cs, r => (cs, r)
  | x :: t, no, cs, r =>
    if r.long = true then (cs, r)
    else if r.count = 16384 then (cs, { r.tell file no 6 [] with long := true })
    else
      let s := lineL rec srcs opn file no x cs { r with count := r.count + 1 }
      linesR rec srcs opn file t (no + 1) s.1 s.2
/-- a source; so many may be open within it -/
def readR (srcs : List At) : Nat → List (List UInt8) → List UInt8 → List UInt8 → Rd → Rd
  | 0, _, _, _, r => r
  | d + 1, opn, file, text, r =>
    let r1 := if file ∈ r.files then r else { r with files := r.files ++ [file] }
    let s := linesR (readR srcs d (opn ++ [file])) srcs (opn ++ [file]) file (linesL text) 1 [] r1
    if s.2.long = true then s.2 else s.1.reverse.foldl (fun r c => r.tell file c.line 4 []) s.2
/-- all that Read answers -/
def readL (srcs attrs : List At) (name : List UInt8) : List Ln × List Dg × List (List UInt8) × List (List UInt8) :=
  match findL srcs name with
  | none => ([], [(name, 0, 1, name)], [], [])
  | some text =>
    let r := readR srcs 17 [] name text ⟨if checkL attrs = true then attrs else [], [], [], [], [], [], 0, false⟩
    (r.lines, r.diags, r.files, r.asked)
end Go.Proofs.YtbhlnemahhndoaaGreatDoor
namespace Go.Proofs.YtbhlnemahhndoaaGreatDoor
open Go.RowKit

/-! what a text asks for does not hang on the attributes; what it says hangs on those that it asks for alone -/
theorem go_grows (l : List At) : ∀ (n : Nat) (s out : List UInt8) (asked : List (List UInt8)), s.length ≤ n → ∀ x ∈ asked, x ∈ (goL l s out asked).2
  | n, s, out, asked, hn, x, hx => by
    cases h : nextL s with
    | none => rw [go_none l _ _ _ h]; exact hx
    | some t =>
      obtain ⟨a, nm, b⟩ := t
      have hlen := (next_parts h).2
      rw [go_some l _ _ _ h]
      match n, hn with
      | 0, hn => omega
      | n + 1, hn =>
        refine go_grows l n b _ _ (by omega) x ?_
        split
        · exact hx
        · exact List.mem_append_left _ hx
theorem go_names (l l' : List At) : ∀ (n : Nat) (s out out' : List UInt8) (asked : List (List UInt8)), s.length ≤ n → (goL l s out asked).2 = (goL l' s out' asked).2
  | n, s, out, out', asked, hn => by
    cases h : nextL s with
    | none => rw [go_none l _ _ _ h, go_none l' _ _ _ h]
    | some t =>
      obtain ⟨a, nm, b⟩ := t
      have hlen := (next_parts h).2
      rw [go_some l _ _ _ h, go_some l' _ _ _ h]
      match n, hn with
      | 0, hn => omega
      | n + 1, hn => exact go_names l l' n b _ _ _ (by omega)
theorem go_same (l l' : List At) : ∀ (n : Nat) (s out : List UInt8) (asked : List (List UInt8)), s.length ≤ n → (∀ x ∈ (goL l s out asked).2, getL l (bT x) = getL l' (bT x)) → (goL l s out asked).1 = (goL l' s out asked).1
  | n, s, out, asked, hn, hs => by
    cases h : nextL s with
    | none => rw [go_none l _ _ _ h, go_none l' _ _ _ h]
    | some t =>
      obtain ⟨a, nm, b⟩ := t
      have hlen := (next_parts h).2
      rw [go_some l _ _ _ h] at hs ⊢
      rw [go_some l' _ _ _ h]
      have hnm : nm ∈ (goL l b (out ++ a ++ valueL l nm) (if nm ∈ asked then asked else asked ++ [nm])).2 := by
        refine go_grows l _ b _ _ (Nat.le_refl _) nm ?_
        split
        · assumption
        · simp
      have hv : valueL l nm = valueL l' nm := by unfold valueL; rw [hs nm hnm]
      match n, hn with
      | 0, hn => omega
      | n + 1, hn =>
        rw [← hv]
        exact go_same l l' n b _ _ (by omega) hs
theorem fill_names (l l' : List At) (s : List UInt8) : (fillL l s).2 = (fillL l' s).2 := go_names l l' _ s [] [] [] (Nat.le_refl _)
theorem fill_same (l l' : List At) (s : List UInt8) (h : ∀ x ∈ (fillL l s).2, getL l (bT x) = getL l' (bT x)) : (fillL l s).1 = (fillL l' s).1 := go_same l l' _ s [] [] (Nat.le_refl _) h
theorem fill_none (l : List At) (s : List UInt8) (h : (fillL l s).2 = []) : fillL l s = (s, []) := by
  cases h1 : nextL s with
  | none => exact go_none l s [] [] h1
  | some t =>
    obtain ⟨a, nm, b⟩ := t
    have h2 : (fillL l s) = goL l b ([] ++ a ++ valueL l nm) (if nm ∈ ([] : List (List UInt8)) then [] else [] ++ [nm]) := go_some l s [] [] h1
    have h3 := go_grows l _ b ([] ++ a ++ valueL l nm) (if nm ∈ ([] : List (List UInt8)) then [] else [] ++ [nm]) (Nat.le_refl _) nm (by simp)
    rw [← h2, h] at h3
    cases h3
theorem fill_few (l : List At) : ∀ (n : Nat) (s out : List UInt8) (asked : List (List UInt8)), s.length ≤ n → (goL l s out asked).2.length ≤ asked.length + s.length
  | n, s, out, asked, hn => by
    cases h : nextL s with
    | none => rw [go_none l _ _ _ h]; simp
    | some t =>
      obtain ⟨a, nm, b⟩ := t
      have hlen := (next_parts h).2
      rw [go_some l _ _ _ h]
      match n, hn with
      | 0, hn => omega
      | n + 1, hn =>
        have ih := fill_few l n b (out ++ a ++ valueL l nm) (if nm ∈ asked then asked else asked ++ [nm]) (by omega)
        have : (if nm ∈ asked then asked else asked ++ [nm]).length ≤ asked.length + 1 := by split <;> simp
        omega
theorem fill_count (l : List At) (s : List UInt8) : (fillL l s).2.length ≤ s.length := by
  have := fill_few l _ s [] [] (Nat.le_refl _)
  show (goL l s [] []).2.length ≤ _
  simpa using this
theorem go_nameB (l : List At) : ∀ (n : Nat) (s out : List UInt8) (asked : List (List UInt8)), s.length ≤ n → (∀ x ∈ asked, nameB x = true) → ∀ x ∈ (goL l s out asked).2, nameB x = true
  | n, s, out, asked, hn, ha, x, hx => by
    cases h : nextL s with
    | none => rw [go_none l _ _ _ h] at hx; exact ha x hx
    | some t =>
      obtain ⟨a, nm, b⟩ := t
      obtain ⟨h1, hlen⟩ := next_parts h
      rw [go_some l _ _ _ h] at hx
      match n, hn with
      | 0, hn => omega
      | n + 1, hn =>
        refine go_nameB l n b _ _ (by omega) ?_ x hx
        intro y hy
        split at hy
        · exact ha y hy
        · rcases List.mem_append.1 hy with hy | hy
          · exact ha y hy
          · simp only [List.mem_singleton] at hy; subst hy; exact h1
theorem fill_nameB (l : List At) (s : List UInt8) : ∀ x ∈ (fillL l s).2, nameB x = true := go_nameB l _ s [] [] (Nat.le_refl _) (by simp)

/-- those of these names that are set -/
def ofL (l : List At) (ns : List (List UInt8)) : List At := ns.filterMap fun n => (getL l (bT n)).map fun v => (bT n, v)
theorem ofL_snoc (l : List At) (ns : List (List UInt8)) (n : List UInt8) : ofL l (ns ++ [n]) = ofL l ns ++ (match getL l (bT n) with | some v => [(bT n, v)] | none => []) := by
  unfold ofL
  rw [List.filterMap_append]
  congr 1
  cases h : getL l (bT n) <;> simp [h]
theorem bytes_same {a b : ByteArray} : (a.toList == b.toList) = true ↔ a = b := by
  rw [beq_iff_eq, Lib.toList_data, Lib.toList_data]
  exact ⟨fun e => ByteArray.ext (Array.toList_inj.1 e), fun e => by rw [e]⟩
theorem ofL_get (l : List At) : ∀ (ns : List (List UInt8)) (n : List UInt8), n ∈ ns → getL (ofL l ns) (bT n) = getL l (bT n)
  | m :: ns, n, h => by
    have key : ∀ k : List UInt8, ∀ ns : List (List UInt8), (k ∉ ns → getL (ofL l ns) (bT k) = none) := by
      intro k ns hk
      unfold getL ofL
      rw [Option.map_eq_none_iff, List.find?_eq_none]
      intro a ha
      obtain ⟨x, hx, he⟩ := List.mem_filterMap.1 ha
      cases hg : getL l (bT x) with
      | none => rw [hg] at he; cases he
      | some v =>
        rw [hg] at he
        injection he with he
        subst he
        intro e
        have e2 : x = k := by
          have := congrArg (fun t : ByteArray => t.data.toList) (bytes_same.1 e)
          simpa [bT_list] using this
        exact hk (e2 ▸ hx)
    have hc : ofL l (m :: ns) = (match getL l (bT m) with | some v => [(bT m, v)] | none => []) ++ ofL l ns := by
      unfold ofL
      rw [List.filterMap_cons]
      cases getL l (bT m) <;> rfl
    by_cases e : n = m
    · subst e
      cases hg : getL l (bT n) with
      | none =>
        rw [hc, hg]
        by_cases h2 : n ∈ ns
        · show getL (ofL l ns) (bT n) = none
          rw [ofL_get l ns n h2, hg]
        · exact key n ns h2
      | some v =>
        rw [hc, hg]
        unfold getL
        simp
    · have h2 : n ∈ ns := by
        rcases List.mem_cons.1 h with h | h
        · exact absurd h e
        · exact h
      rw [← ofL_get l ns n h2, hc]
      cases hg : getL l (bT m) with
      | none => rfl
      | some v =>
        show getL ((bT m, v) :: ofL l ns) (bT n) = _
        unfold getL
        rw [List.find?_cons]
        have : ((bT m).toList == (bT n).toList) = false := by
          rw [Bool.eq_false_iff]
          intro e3
          have := congrArg (fun t : ByteArray => t.data.toList) (bytes_same.1 e3)
          simp only [bT_list] at this
          exact e this.symm
        simp only [this]
theorem ofL_mem {l : List At} {ns : List (List UInt8)} {a : At} (h : a ∈ ofL l ns) : ∃ n ∈ ns, a.1 = bT n ∧ ∃ b ∈ l, b.2 = a.2 := by
  unfold ofL at h
  obtain ⟨n, hn, e⟩ := List.mem_filterMap.1 h
  cases hg : getL l (bT n) with
  | none => rw [hg] at e; cases e
  | some v =>
    rw [hg] at e
    injection e with e
    subst e
    refine ⟨n, hn, rfl, ?_⟩
    unfold getL at hg
    cases e2 : l.find? (fun a => a.1.toList == (bT n).toList) with
    | none => rw [e2] at hg; cases hg
    | some b => rw [e2] at hg; injection hg with hg; exact ⟨b, List.mem_of_find?_eq_some e2, hg⟩
theorem ofL_length (l : List At) (ns : List (List UInt8)) : (ofL l ns).length ≤ ns.length := List.length_filterMap_le _ _

/-! a condition -/
theorem restA_cases (nm : List UInt8) (no : Bool) (r : List UInt8) : (∀ o, restA o nm no r = none) ∨ ∃ f : Option ByteArray → Bool, ∀ o, restA o nm no r = some (nm, f o) := by
  cases r with
  | nil => exact .inr ⟨fun o => o.isSome != no, fun _ => rfl⟩
  | cons x t =>
    cases no with
    | true => exact .inl fun o => rest_no o nm x t
    | false =>
      by_cases h : x = 61
      · exact .inr ⟨_, fun o => rest_is o nm t h⟩
      · cases t with
        | nil => exact .inl fun o => rest_one o nm h
        | cons y t =>
          by_cases h2 : x = 33 ∧ y = 61
          · exact .inr ⟨_, fun o => rest_isnt o nm t h h2⟩
          · exact .inl fun o => rest_other o nm t h h2
theorem restA_same (o o' : Option ByteArray) (nm : List UInt8) (no : Bool) (r : List UInt8) : (restA o nm no r).map (·.1) = (restA o' nm no r).map (·.1) := by
  rcases restA_cases nm no r with h | ⟨f, h⟩
  · rw [h, h]
  · rw [h, h]; rfl
theorem restA_name (o : Option ByteArray) (nm : List UInt8) (no : Bool) (r : List UInt8) : ∀ x, restA o nm no r = some x → x.1 = nm := by
  intro x hx
  rcases restA_cases nm no r with h | ⟨f, h⟩
  · rw [h] at hx; cases hx
  · rw [h] at hx; injection hx with hx; rw [← hx]
theorem askN_name (l : List At) (no : Bool) (c : List UInt8) : (askN l no c).map (·.1) = (askN [] no c).map (·.1) := by
  unfold askN
  split
  · rfl
  · exact restA_same _ _ _ _ _
theorem ask_cons (l : List At) (x : UInt8) (c : List UInt8) : askL l (x :: c) = if x = 33 then askN l true c else askN l false (x :: c) := rfl
theorem ask_names (l : List At) (c : List UInt8) : (askL l c).map (·.1) = (askL [] c).map (·.1) := by
  cases c with
  | nil => rfl
  | cons x c =>
    rw [ask_cons, ask_cons]
    by_cases h : x = 33
    · rw [if_pos h, if_pos h]; exact askN_name _ _ _
    · rw [if_neg h, if_neg h]; exact askN_name _ _ _
theorem askN_same (l l' : List At) (no : Bool) (c n : List UInt8) (hn : (askN l no c).map (·.1) = some n) (h : getL l (bT n) = getL l' (bT n)) : askN l no c = askN l' no c := by
  unfold askN at hn ⊢
  by_cases h1 : nameB (c.take (runL c)) = false
  · rw [if_pos h1, if_pos h1]
  · rw [if_neg h1] at hn ⊢
    rw [if_neg h1]
    cases e : restA (getL l (bT (c.take (runL c)))) (c.take (runL c)) no (c.drop (runL c)) with
    | none => rw [e] at hn; cases hn
    | some x =>
      rw [e] at hn
      have h2 := restA_name _ _ _ _ x e
      have hn2 : x.1 = n := by injection hn
      rw [hn2] at h2
      rw [← h2] at e ⊢
      rw [← h, e]
theorem ask_same (l l' : List At) (c n : List UInt8) (hn : (askL l c).map (·.1) = some n) (h : getL l (bT n) = getL l' (bT n)) : askL l c = askL l' c := by
  cases c with
  | nil => rfl
  | cons x c =>
    rw [ask_cons] at hn ⊢
    rw [ask_cons]
    by_cases h1 : x = 33
    · rw [if_pos h1] at hn ⊢; rw [if_pos h1]; exact askN_same _ _ _ _ n hn h
    · rw [if_neg h1] at hn ⊢; rw [if_neg h1]; exact askN_same _ _ _ _ n hn h
theorem askN_nameB {l : List At} {no : Bool} {c n : List UInt8} {b : Bool} (h : askN l no c = some (n, b)) : nameB n = true := by
  unfold askN at h
  by_cases h1 : nameB (c.take (runL c)) = false
  · rw [if_pos h1] at h; cases h
  · rw [if_neg h1] at h
    have h2 := restA_name _ _ _ _ _ h
    simp only at h2
    rw [h2]; simpa using h1
theorem ask_nameB {l : List At} {c n : List UInt8} {b : Bool} (h : askL l c = some (n, b)) : nameB n = true := by
  cases c with
  | nil => cases h
  | cons x c =>
    rw [ask_cons] at h
    by_cases h1 : x = 33
    · rw [if_pos h1] at h; exact askN_nameB h
    · rw [if_neg h1] at h; exact askN_nameB h
end Go.Proofs.YtbhlnemahhndoaaGreatDoor
namespace Go.Proofs.YtbhlnemahhndoaaGreatDoor
open Go.RowKit

/-! sources without words, braces and backslashes -/
def plainC (c : UInt8) : Prop := ¬ c = 64 ∧ ¬ c = 123 ∧ ¬ c = 92
def PlainL (s : List UInt8) : Prop := ∀ c ∈ s, plainC c
def numL (file : List UInt8) : Nat → List (List UInt8) → List Ln
  | _, [] => []
  | no, x :: t => (file, no, x) :: numL file (no + 1) t
theorem numL_length (file : List UInt8) : ∀ (no : Nat) (l : List (List UInt8)), (numL file no l).length = l.length
  | _, [] => rfl
  | no, _ :: t => by simp [numL, numL_length file (no + 1) t]
theorem numL_at (file : List UInt8) : ∀ (no : Nat) (l : List (List UInt8)) (i : Nat) (h : i < l.length), (numL file no l)[i]? = some (file, no + i, l[i])
  | no, x :: t, 0, _ => rfl
  | no, x :: t, i + 1, h => by
    have ih := numL_at file (no + 1) t i (by simpa using h)
    simp only [numL, List.getElem?_cons_succ, ih, List.getElem_cons_succ]
    rw [show no + 1 + i = no + (i + 1) by omega]

theorem lines_of : ∀ (cur s : List UInt8), ∀ x ∈ linesF cur s, ∀ c ∈ x, c ∈ cur ∨ c ∈ s
  | cur, [], x, hx, c, hc => by
    unfold linesF at hx
    split at hx
    · cases hx
    · simp only [List.mem_singleton] at hx; subst hx; exact .inl hc
  | cur, d :: t, x, hx, c, hc => by
    unfold linesF at hx
    split at hx
    · rcases List.mem_cons.1 hx with rfl | hx
      · exact .inl hc
      · rcases lines_of [] t x hx c hc with h | h
        · cases h
        · exact .inr (List.mem_cons_of_mem _ h)
    · rcases lines_of _ t x hx c hc with h | h
      · rcases List.mem_append.1 h with h | h
        · exact .inl h
        · simp only [List.mem_singleton] at h; subst h; exact .inr (List.mem_cons_self ..)
      · exact .inr (List.mem_cons_of_mem _ h)
theorem lines_plain {s : List UInt8} (h : PlainL s) : ∀ x ∈ linesL s, PlainL x := fun x hx c hc => by
  rcases lines_of [] s x hx c hc with h1 | h1
  · cases h1
  · exact h c h1

theorem cutW_sub (s : List UInt8) : ∀ c ∈ (cutW s).1, c ∈ s := fun _ hc => (List.takeWhile_sublist _).subset hc
theorem plain_word {s w : List UInt8} (h : PlainL s) (hw : 64 ∈ w) : ¬ (cutW s).1 = w := fun e => by
  have := cutW_sub s 64 (by rw [e]; exact hw)
  exact (h 64 this).1 rfl
theorem plain_head {s : List UInt8} (h : PlainL s) : s.head? ≠ some 64 := by
  cases s with
  | nil => simp
  | cons c t => intro e; injection e with e; exact (h c (List.mem_cons_self ..)).1 e
theorem plain_bare {s : List UInt8} (h : PlainL s) : bareL s = s := by
  unfold bareL
  split
  · exact absurd rfl (h 92 (List.mem_cons_self ..)).2.2
  · rfl
theorem fill_plain_text (l : List At) {s : List UInt8} (h : PlainL s) : fillL l s = (s, []) := by
  show goL l s [] [] = _
  have := go_text l s [] [] [] (fun c hc => (h c hc).2.1)
  rw [List.append_nil, List.nil_append, go_nil] at this
  exact this

/-- what a plain line does -/
theorem line_plain (rec : List UInt8 → List UInt8 → Rd → Rd) (srcs : List At) (opn : List (List UInt8)) (file : List UInt8) (no : Nat) {x : List UInt8} (r : Rd) (h : PlainL x) (cs : List CondP) (hf : forceL cs = true) :
    lineL rec srcs opn file no x cs r = (cs, { r with lines := r.lines ++ [(file, no, x)] }) := by
  unfold lineL
  simp only [if_neg (plain_word h (show (64 : UInt8) ∈ wIf by decide)), if_neg (plain_word h (show (64 : UInt8) ∈ wElse by decide)), if_neg (plain_word h (show (64 : UInt8) ∈ wEnd by decide)), if_pos hf]
  unfold doesL
  rw [if_pos (plain_head h), plain_bare h]
  simp only [Rd.fill, fill_plain_text _ h, List.foldl_nil]
theorem lines_read (rec : List UInt8 → List UInt8 → Rd → Rd) (srcs : List At) (opn : List (List UInt8)) (file : List UInt8) (cs : List CondP) (hf : forceL cs = true) : ∀ (l : List (List UInt8)) (no : Nat) (r : Rd), (∀ x ∈ l, PlainL x) → r.long = false → r.count + l.length ≤ 16384 →
    linesR rec srcs opn file l no cs r = (cs, { r with lines := r.lines ++ numL file no l, count := r.count + l.length })
  | [], no, r, _, _, _ => by simp [linesR, numL]
  | x :: t, no, r, h, hl, hc => by
    simp only [List.length_cons] at hc
    unfold linesR
    rw [if_neg (by rw [hl]; decide), if_neg (by omega), line_plain rec srcs opn file no _ (h x (List.mem_cons_self ..)) cs hf]
    simp only
    rw [lines_read rec srcs opn file cs hf t (no + 1)]
    · simp only [numL, List.length_cons, List.append_assoc, List.singleton_append]
      rw [show r.count + 1 + t.length = r.count + (t.length + 1) by omega]
    · exact fun y hy => h y (List.mem_cons_of_mem _ hy)
    · exact hl
    · simp only; omega

/-- a source without words, braces and backslashes tells its lines -/
theorem read_plain (srcs : List At) (d : Nat) (opn : List (List UInt8)) (file text : List UInt8) (r : Rd) (h : PlainL text) (hl : r.long = false) (hc : r.count + (linesL text).length ≤ 16384) :
    readR srcs (d + 1) opn file text r = { r with files := if file ∈ r.files then r.files else r.files ++ [file], lines := r.lines ++ numL file 1 (linesL text), count := r.count + (linesL text).length } := by
  unfold readR
  by_cases hm : file ∈ r.files
  · simp only [if_pos hm]
    rw [lines_read _ _ _ _ [] rfl]
    · simp [hl]
    · exact lines_plain h
    · exact hl
    · exact hc
  · simp only [if_neg hm]
    rw [lines_read _ _ _ _ [] rfl]
    · simp [hl]
    · exact lines_plain h
    · exact hl
    · exact hc
theorem find_one (name text : List UInt8) : findL [(bT name, bT text)] name = some text := by
  unfold findL getL
  simp [bT_list]
/-- AheadPlain's answer -/
theorem readL_plain (attrs : List At) (name text : List UInt8) (h : PlainL text) (hc : (linesL text).length ≤ 16384) :
    readL [(bT name, bT text)] attrs name = (numL name 1 (linesL text), [], [name], []) := by
  unfold readL
  rw [find_one]
  simp only
  rw [read_plain _ 16 [] name text]
  · simp
  · exact h
  · rfl
  · simpa using hc
end Go.Proofs.YtbhlnemahhndoaaGreatDoor
namespace Go.Proofs.YtbhlnemahhndoaaGreatDoor
open Go.RowKit

/-! words and names; a part that does not hold -/
theorem drop_none {p : UInt8 → Bool} {l : List UInt8} (h : ∀ c ∈ l, p c = false) : l.dropWhile p = l := by
  cases l with
  | nil => rfl
  | cons c t => rw [List.dropWhile_cons, h c (List.mem_cons_self ..)]; rfl
theorem trim_name {nm : List UInt8} (h : ∀ c ∈ nm, blankB c = false) : trimL nm = nm := by
  unfold trimL
  rw [drop_none h, drop_none (fun c hc => h c (List.mem_reverse.1 hc)), List.reverse_reverse]
theorem trim_blank (nm : List UInt8) : trimL (32 :: nm) = trimL nm := by
  unfold trimL
  rw [List.dropWhile_cons, show blankB 32 = true from by decide]; rfl
theorem cut_name {w nm : List UInt8} (hw : ∀ c ∈ w, blankB c = false) (hn : ∀ c ∈ nm, blankB c = false) : cutW (w ++ 32 :: nm) = (w, nm) := by
  unfold cutW
  have h1 : ∀ c ∈ w, (fun c => !blankB c) c = true := fun c hc => by simp [hw c hc]
  rw [List.takeWhile_append_of_pos h1, List.dropWhile_append_of_pos h1, List.takeWhile_cons, List.dropWhile_cons]
  simp only [show blankB 32 = true from by decide, Bool.not_true, Bool.false_eq_true, if_false, List.append_nil]
  rw [trim_blank, trim_name hn]
theorem cut_word {w : List UInt8} (hw : ∀ c ∈ w, blankB c = false) : cutW w = (w, []) := by
  unfold cutW
  have h1 : ∀ c ∈ w, (fun c => !blankB c) c = true := fun c hc => by simp [hw c hc]
  have e1 := List.takeWhile_append_of_pos (l₂ := []) h1
  have e2 := List.dropWhile_append_of_pos (l₂ := []) h1
  simp only [List.append_nil] at e1 e2
  rw [e1, e2]; simp [trimL]
theorem name_solid {n : List UInt8} (h : nameB n = true) : ∀ c ∈ n, blankB c = false := fun c hc => by
  have h1 := List.all_eq_true.1 (name_all h) c hc
  cases hb : blankB c with
  | false => rfl
  | true =>
    unfold blankB at hb
    simp only [Bool.or_eq_true, decide_eq_true_eq] at hb
    rcases hb with rfl | rfl <;> exact absurd h1 (by decide)

/-- no line of a condition's -/
def offB (x : List UInt8) : Prop := ¬ (cutW x).1 = wIf ∧ ¬ (cutW x).1 = wElse ∧ ¬ (cutW x).1 = wEnd
theorem cutW_prefix (x : List UInt8) : (cutW x).1 <+: x := List.takeWhile_prefix _
theorem off_three {x : List UInt8} (h : ¬ (3 ≤ x.length ∧ (x.take 3 = [64, 105, 102] ∨ x.take 3 = [64, 101, 108] ∨ x.take 3 = [64, 101, 110]))) : offB x := by
  refine ⟨fun e => h ?_, fun e => h ?_, fun e => h ?_⟩
  all_goals
    obtain ⟨r, hr⟩ := cutW_prefix x
    rw [e] at hr
    subst hr
  · exact ⟨by simp [wIf], .inl rfl⟩
  · exact ⟨by simp [wElse], .inr (.inl rfl)⟩
  · exact ⟨by simp [wEnd], .inr (.inr rfl)⟩
theorem line_off (rec : List UInt8 → List UInt8 → Rd → Rd) (srcs : List At) (opn : List (List UInt8)) (file : List UInt8) (no : Nat) {x : List UInt8} (r : Rd) (h : offB x) (cs : List CondP) (hf : forceL cs = false) :
    lineL rec srcs opn file no x cs r = (cs, r) := by
  unfold lineL
  simp only [if_neg h.1, if_neg h.2.1, if_neg h.2.2, hf]
  rfl
theorem lines_off (rec : List UInt8 → List UInt8 → Rd → Rd) (srcs : List At) (opn : List (List UInt8)) (file : List UInt8) (cs : List CondP) (hf : forceL cs = false) : ∀ (l : List (List UInt8)) (t : List (List UInt8)) (no : Nat) (r : Rd), (∀ x ∈ l, offB x) → r.long = false → r.count + l.length ≤ 16384 →
    linesR rec srcs opn file (l ++ t) no cs r = linesR rec srcs opn file t (no + l.length) cs { r with count := r.count + l.length }
  | [], t, no, r, _, _, _ => rfl
  | x :: l, t, no, r, h, hl, hc => by
    simp only [List.length_cons] at hc
    rw [List.cons_append]
    conv => lhs; unfold linesR
    rw [if_neg (by rw [hl]; decide), if_neg (by omega), line_off rec srcs opn file no _ (h x (List.mem_cons_self ..)) cs hf]
    simp only
    rw [lines_off rec srcs opn file cs hf l t (no + 1)]
    · simp only [List.length_cons]
      rw [show r.count + 1 + l.length = r.count + (l.length + 1) by omega, show no + 1 + l.length = no + (l.length + 1) by omega]
    · exact fun y hy => h y (List.mem_cons_of_mem _ hy)
    · exact hl
    · simp only; omega
theorem ask_none_set {n : List UInt8} (h : nameB n = true) : askL [] n = some (n, false) := by
  have hr : runL n = n.length := run_end _ (name_all h)
  cases n with
  | nil => exact absurd h (by decide)
  | cons c t =>
    have hc : ¬ c = 33 := by
      intro e; subst e
      have := List.all_eq_true.1 (name_all h) 33 (List.mem_cons_self ..)
      exact absurd this (by decide)
    unfold askL
    simp only [if_neg hc]
    unfold askN
    rw [hr, List.take_length, List.drop_length, if_neg (by rw [h]; decide)]
    rfl
theorem lines_step (rec : List UInt8 → List UInt8 → Rd → Rd) (srcs : List At) (opn : List (List UInt8)) (file x : List UInt8) (t : List (List UInt8)) (no : Nat) (cs cs' : List CondP) (r r' : Rd) (hl : r.long = false) (hc : r.count < 16384)
    (h : lineL rec srcs opn file no x cs { r with count := r.count + 1 } = (cs', r')) : linesR rec srcs opn file (x :: t) no cs r = linesR rec srcs opn file t (no + 1) cs' r' := by
  conv => lhs; unfold linesR
  rw [if_neg (by rw [hl]; decide), if_neg (by omega), h]
theorem line_if (rec : List UInt8 → List UInt8 → Rd → Rd) (srcs : List At) (opn : List (List UInt8)) (file : List UInt8) (no : Nat) {name : List UInt8} (r : Rd) (hn : nameB name = true) (ha : r.attrs = []) :
    lineL rec srcs opn file no (wIf ++ 32 :: name) [] r = ([⟨no, false, true, false⟩], r.ask name) := by
  unfold lineL
  rw [cut_name (by decide) (name_solid hn)]
  simp only [if_true]
  unfold beginsL
  rw [if_pos (show forceL [] = true from rfl), ha, ask_none_set hn]
  simp
theorem line_end (rec : List UInt8 → List UInt8 → Rd → Rd) (srcs : List At) (opn : List (List UInt8)) (file : List UInt8) (no : Nat) (c : CondP) (cs : List CondP) (r : Rd) :
    lineL rec srcs opn file no wEnd (c :: cs) r = (cs, r) := by
  unfold lineL
  rw [cut_word (by decide)]
  rfl
/-- AheadOff's answer -/
theorem readL_off (s name : List UInt8) (hn : nameB name = true) (hs : s.length ≤ 3000) (h : ∀ x ∈ linesL s, offB x) :
    ∃ no, readL [(bT [109], bT (wIf ++ 32 :: name ++ 10 :: (s ++ 10 :: (wEnd ++ 10 :: [120]))))] [] [109] = ([([109], no, [120])], [], [[109]], [name]) := by
  have hsol := name_solid hn
  have hl : linesL (wIf ++ 32 :: name ++ 10 :: (s ++ 10 :: (wEnd ++ 10 :: [120]))) = (wIf ++ 32 :: name) :: (linesL (s ++ [10]) ++ [wEnd, [120]]) := by
    unfold linesL
    rw [lines_app, lines_app s, lines_app wEnd]
    have e1 : linesF [] (wIf ++ 32 :: name ++ [10]) = [wIf ++ 32 :: name] := by
      have h10 : ∀ c ∈ wIf ++ 32 :: name, ¬ c = 10 := by
        intro c hc
        rcases List.mem_append.1 hc with h1 | h1
        · exact (show ∀ c ∈ wIf, ¬ c = 10 by decide) c h1
        · rcases List.mem_cons.1 h1 with rfl | h1
          · decide
          · intro e; subst e
            exact absurd (List.all_eq_true.1 (name_all hn) 10 h1) (by decide)
      have gen : ∀ (a cur : List UInt8), (∀ c ∈ a, ¬ c = 10) → linesF cur (a ++ [10]) = [cur ++ a] := by
        intro a
        induction a with
        | nil => intro cur _; simp [linesF]
        | cons c a ih => intro cur ha; rw [List.cons_append, lines_more _ _ (ha c (List.mem_cons_self ..)), ih _ (fun x hx => ha x (List.mem_cons_of_mem _ hx))]; simp
      simpa using gen _ [] h10
    rw [e1]
    have e2 : linesF [] (wEnd ++ [10]) = [wEnd] := by decide
    have e3 : linesF [] [120] = [[120]] := by decide
    rw [e2, e3]; simp
  have hoff : ∀ x ∈ linesL (s ++ [10]), offB x := by
    by_cases h0 : s = []
    · subst h0; intro x hx
      have : x = [] := by simpa [linesL, linesF] using hx
      subst this; exact ⟨by decide, by decide, by decide⟩
    · by_cases h1 : s.getLast? = some 10
      · rw [lines_both h1]
        intro x hx
        rcases List.mem_append.1 hx with hx | hx
        · exact h x hx
        · have : x = [] := by simpa [linesL, linesF] using hx
          subst this; exact ⟨by decide, by decide, by decide⟩
      · intro x hx
        have e := lines_apart (t := []) h0 h1
        rw [e] at hx
        simp only [linesL, linesF, if_true, List.append_nil] at hx
        exact h x hx
  have hlen : (linesL (s ++ [10])).length ≤ 3002 := by
    have := lines_len [] (s ++ [10]); simp at this; unfold linesL; omega
  refine ⟨1 + 1 + (linesL (s ++ [10])).length + 1, ?_⟩
  unfold readL
  rw [find_one]
  simp only
  unfold readR
  simp only [List.not_mem_nil, if_false, hl, List.nil_append, show (if checkL [] = true then ([] : List At) else []) = [] from by split <;> rfl]
  rw [lines_step _ _ _ _ _ _ _ _ _ _ _ rfl (by simp only; omega) (line_if _ _ _ _ _ _ hn rfl)]
  have hask : ∀ (c : Nat), Rd.ask ⟨[], [], [], [[109]], [], [], c, false⟩ name = ⟨[], [], [name], [[109]], [], [], c, false⟩ := fun c => by simp [Rd.ask, insL]
  simp only [hask]
  rw [lines_off _ _ _ _ _ rfl _ _ _ _ hoff rfl (by simp only; omega)]
  rw [lines_step _ _ _ _ _ _ _ _ _ _ _ rfl (by simp only; omega) (line_end _ _ _ _ _ _ _ _)]
  rw [lines_step _ _ _ _ _ _ _ _ _ _ _ rfl (by simp only; omega) (line_plain _ _ _ _ _ _ (by intro c hc; simp only [List.mem_singleton] at hc; subst hc; exact ⟨by decide, by decide, by decide⟩) [] rfl)]
  simp [linesR]
end Go.Proofs.YtbhlnemahhndoaaGreatDoor
namespace Go.Proofs.YtbhlnemahhndoaaGreatDoor
open Go.RowKit

/-! a source that is taken in -/
theorem lines_cons (a t : List UInt8) (h : ∀ c ∈ a, ¬ c = 10) : linesF [] (a ++ 10 :: t) = a :: linesF [] t := by
  have gen : ∀ (a cur : List UInt8), (∀ c ∈ a, ¬ c = 10) → linesF cur (a ++ 10 :: t) = (cur ++ a) :: linesF [] t := by
    intro a
    induction a with
    | nil => intro cur _; simp [linesF]
    | cons c a ih => intro cur ha; rw [List.cons_append, lines_more _ _ (ha c (List.mem_cons_self ..)), ih _ (fun x hx => ha x (List.mem_cons_of_mem _ hx))]; simp
  simpa using gen a [] h
theorem lines_rep (a t : List UInt8) (h : ∀ c ∈ a, ¬ c = 10) : ∀ n : Nat, linesF [] ((List.replicate n (a ++ [10])).flatten ++ t) = List.replicate n a ++ linesF [] t
  | 0 => rfl
  | n + 1 => by
    rw [List.replicate_succ, List.flatten_cons, List.append_assoc, List.append_assoc, List.singleton_append, lines_cons a _ h, lines_rep a t h n, List.replicate_succ]; rfl
theorem line_inc (rec : List UInt8 → List UInt8 → Rd → Rd) (srcs : List At) (opn : List (List UInt8)) (file : List UInt8) (no : Nat) {part text : List UInt8} (r : Rd) (hp : ∀ c ∈ part, blankB c = false) (hk : checkB part = true) (ho : part ∉ opn) (hl : opn.length < 16) (hf : findL srcs part = some text)
    (cs : List CondP) (hc : forceL cs = true) : lineL rec srcs opn file no (wInclude ++ 32 :: part) cs r = (cs, rec part text r) := by
  unfold lineL
  rw [cut_name (by decide) hp]
  simp only [show ¬ wInclude = wIf from by decide, show ¬ wInclude = wElse from by decide, show ¬ wInclude = wEnd from by decide, if_false, if_pos hc]
  unfold doesL
  rw [cut_name (by decide) hp, if_neg (by simp [wInclude])]
  simp only [if_true, hk, hf, if_neg ho, if_neg (show ¬ 16 ≤ opn.length by omega), Bool.true_eq_false, if_false]
theorem incs_read (d : Nat) (srcs : List At) (opn : List (List UInt8)) (file : List UInt8) {part text : List UInt8} (hp : ∀ c ∈ part, blankB c = false) (hk : checkB part = true) (ho : part ∉ opn) (hl : opn.length < 16) (hf : findL srcs part = some text)
    (ht : PlainL text) (t : List (List UInt8)) : ∀ (k no : Nat) (r : Rd), part ∈ r.files → r.long = false → r.count + k * (1 + (linesL text).length) < 16384 →
    linesR (readR srcs (d + 1) opn) srcs opn file (List.replicate k (wInclude ++ 32 :: part) ++ t) no [] r = linesR (readR srcs (d + 1) opn) srcs opn file t (no + k) [] { r with lines := r.lines ++ (List.replicate k (numL part 1 (linesL text))).flatten, count := r.count + k * (1 + (linesL text).length) }
  | 0, no, r, _, _, _ => by simp
  | k + 1, no, r, hm, hlo, hc => by
    rw [Nat.succ_mul] at hc
    rw [List.replicate_succ, List.cons_append, lines_step _ _ _ _ _ _ _ _ _ _ _ hlo (by omega) (line_inc _ _ _ _ _ _ hp hk ho hl hf [] rfl), read_plain srcs d opn part text]
    · simp only [if_pos hm]
      rw [incs_read d srcs opn file hp hk ho hl hf ht t k (no + 1)]
      · simp only [List.replicate_succ, List.flatten_cons, List.append_assoc]
        rw [show no + 1 + k = no + (k + 1) by omega, show r.count + 1 + (linesL text).length + k * (1 + (linesL text).length) = r.count + (k + 1) * (1 + (linesL text).length) by rw [Nat.succ_mul]; omega]
      · exact hm
      · exact hlo
      · simp only; omega
    · exact ht
    · exact hlo
    · simp only; omega
def txFirst : List UInt8 := [102, 105, 114, 115, 116]
def txLast : List UInt8 := [108, 97, 115, 116]
def txPart : List UInt8 := [112, 97, 114, 116]
def incText (n : Nat) : List UInt8 := txFirst ++ 10 :: ((List.replicate n (wInclude ++ 32 :: txPart ++ [10])).flatten ++ txLast)
/-- AheadIncludes' answer -/
theorem readL_inc (s : List UInt8) (n : Nat) (hn : n + 1 ≤ 5) (hs : s.length ≤ 300) (h : PlainL s) :
    readL [(bT [109], bT (incText (n + 1))), (bT txPart, bT s)] [] [109] = (([109], 1, txFirst) :: ((List.replicate (n + 1) (numL txPart 1 (linesL s))).flatten ++ [([109], n + 3, txLast)]), [], [[109], txPart], []) := by
  have hlen : (linesL s).length ≤ 301 := by have := lines_len [] s; unfold linesL; omega
  have hl : linesL (incText (n + 1)) = txFirst :: (wInclude ++ 32 :: txPart) :: (List.replicate n (wInclude ++ 32 :: txPart) ++ [txLast]) := by
    unfold linesL incText
    rw [lines_cons _ _ (by decide), lines_rep _ _ (by decide), List.replicate_succ]
    have e3 : linesF [] txLast = [txLast] := by decide
    rw [e3]; rfl
  have hf1 : findL [(bT [109], bT (incText (n + 1))), (bT txPart, bT s)] [109] = some (incText (n + 1)) := by
    unfold findL getL; simp [bT_list]
  have hf2 : findL [(bT [109], bT (incText (n + 1))), (bT txPart, bT s)] txPart = some s := by
    unfold findL getL
    have e : ((bT [109]).toList == (bT txPart).toList) = false := by rw [Lib.toList_data, Lib.toList_data, bT_list, bT_list]; decide
    simp [e, bT_list]
  have hsol : ∀ c ∈ txPart, blankB c = false := by decide
  have hck : checkB txPart = true := by decide
  have hmul : n * (1 + (linesL s).length) ≤ 4 * 302 := Nat.mul_le_mul (by omega) (by omega)
  unfold readL
  rw [hf1]
  simp only
  conv => lhs; unfold readR
  simp only [List.not_mem_nil, if_false, hl, List.nil_append, show (if checkL [] = true then ([] : List At) else []) = [] from by split <;> rfl]
  rw [lines_step _ _ _ _ _ _ _ _ _ _ _ rfl (by simp only; omega) (line_plain _ _ _ _ _ _ (by unfold PlainL plainC; decide) [] rfl)]
  rw [lines_step _ _ _ _ _ _ _ _ _ _ _ rfl (by simp only; omega) (line_inc _ _ _ _ _ _ hsol hck (by decide) (by decide) hf2 [] rfl)]
  rw [read_plain _ 15 _ txPart s]
  · rw [incs_read 15 _ _ _ hsol hck (by decide) (by decide) hf2 h]
    · rw [lines_step _ _ _ _ _ _ _ _ _ _ _ rfl (by simp only; omega) (line_plain _ _ _ _ _ _ (by unfold PlainL plainC; decide) [] rfl)]
      simp [linesR, List.replicate_succ, txPart]
      omega
    · simp [txPart]
    · rfl
    · simp only; omega
  · exact h
  · rfl
  · simp only; omega
end Go.Proofs.YtbhlnemahhndoaaGreatDoor
namespace Go.Proofs.YtbhlnemahhndoaaGreatDoor
open Go.RowKit

/-! what a source sets -/
theorem trim_ends {s : List UInt8} (h1 : ∀ c, s.head? = some c → blankB c = false) (h2 : ∀ c, s.getLast? = some c → blankB c = false) : trimL s = s := by
  have d : ∀ {l : List UInt8}, (∀ c, l.head? = some c → blankB c = false) → l.dropWhile blankB = l := by
    intro l h
    cases l with
    | nil => rfl
    | cons c t => rw [List.dropWhile_cons, h c rfl]; rfl
  unfold trimL
  rw [d h1, d (fun c hc => h2 c (by rwa [List.head?_reverse] at hc)), List.reverse_reverse]
theorem cut_text {w t : List UInt8} (hw : ∀ c ∈ w, blankB c = false) (h1 : ∀ c, t.head? = some c → blankB c = false) (h2 : ∀ c, t.getLast? = some c → blankB c = false) : cutW (w ++ 32 :: t) = (w, t) := by
  unfold cutW
  have h1' : ∀ c ∈ w, (fun c => !blankB c) c = true := fun c hc => by simp [hw c hc]
  rw [List.takeWhile_append_of_pos h1', List.dropWhile_append_of_pos h1', List.takeWhile_cons, List.dropWhile_cons]
  simp only [show blankB 32 = true from by decide, Bool.not_true, Bool.false_eq_true, if_false, List.append_nil]
  rw [trim_blank, trim_ends h1 h2]
/-- a value that AheadSets takes -/
structure ValS (v : List UInt8) : Prop where
  ne : v ≠ []
  len : v.length ≤ 1024
  ok : ∀ c ∈ v, okB c = true
  brace : ∀ c ∈ v, ¬ c = 123
  head : ∀ c, v.head? = some c → blankB c = false
  last : ∀ c, v.getLast? = some c → blankB c = false
theorem ValS.may {v : List UInt8} (h : ValS v) : mayL v = true := by
  unfold mayL
  rw [Bool.and_eq_true, decide_eq_true_eq]
  exact ⟨List.all_eq_true.2 h.ok, h.len⟩
theorem ValS.end10 {v : List UInt8} (h : ValS v) : ∀ c ∈ v, ¬ c = 10 := fun c hc e => by
  subst e; exact absurd (h.ok 10 hc) (by decide)
theorem name_end10 {n : List UInt8} (h : nameB n = true) : ∀ c ∈ n, ¬ c = 10 := fun c hc e => by
  subst e; exact absurd (List.all_eq_true.1 (name_all h) 10 hc) (by decide)
theorem name_ne {n : List UInt8} (h : nameB n = true) : n ≠ [] := fun e => by subst e; exact absurd h (by decide)

theorem fill_brace (l : List At) {n : List UInt8} (h : nameB n = true) : fillL l (123 :: (n ++ [125])) = (valueL l n, [n]) := by
  show goL l _ [] [] = _
  rw [go_asked l n [] [] [] h, go_nil]; simp
theorem fill_value (l : List At) {v : List UInt8} (h : ∀ c ∈ v, ¬ c = 123) : fillL l v = (v, []) := by
  show goL l v [] [] = _
  have := go_text l v [] [] [] h
  rw [List.append_nil, List.nil_append, go_nil] at this
  exact this
theorem brace_word {t w : List UInt8} (hw : w.head? = some 64) : ¬ (cutW (123 :: t)).1 = w := fun e => by
  have : (cutW (123 :: t)).1.head? = some 123 := by
    unfold cutW
    simp only [List.takeWhile_cons, show blankB 123 = false from by decide, Bool.not_false, if_true]; rfl
  rw [e, hw] at this
  cases this
theorem line_brace (rec : List UInt8 → List UInt8 → Rd → Rd) (srcs : List At) (opn : List (List UInt8)) (file : List UInt8) (no : Nat) {n : List UInt8} (r : Rd) (hn : nameB n = true) (cs : List CondP) (hf : forceL cs = true) :
    lineL rec srcs opn file no (123 :: (n ++ [125])) cs r = (cs, { r.ask n with lines := (r.ask n).lines ++ [(file, no, valueL r.attrs n)] }) := by
  unfold lineL
  simp only [if_neg (brace_word (show wIf.head? = some 64 from rfl)), if_neg (brace_word (show wElse.head? = some 64 from rfl)), if_neg (brace_word (show wEnd.head? = some 64 from rfl)), if_pos hf]
  unfold doesL
  rw [if_pos (by simp)]
  have e : bareL (123 :: (n ++ [125])) = 123 :: (n ++ [125]) := by
    unfold bareL
    split
    · rename_i h; injection h with h _; exact absurd h (by decide)
    · rfl
  rw [e]
  simp only [Rd.fill, fill_brace _ hn, List.foldl_cons, List.foldl_nil]
theorem set_ok {n v : List UInt8} (hn : nameB n = true) (hv : mayL v = true) : setE [] (bT n) (bT v) = 0 ∧ setL [] (bT n) (bT v) = [(bT n, bT v)] := by
  have e : setE [] (bT n) (bT v) = 0 := by
    unfold setE
    rw [bT_list, bT_list, hn, hv]
    rw [if_pos (by decide), if_pos (by simp [putL])]
  refine ⟨e, ?_⟩
  unfold setL
  rw [if_pos e]; simp [putL]
theorem line_set (rec : List UInt8 → List UInt8 → Rd → Rd) (srcs : List At) (opn : List (List UInt8)) (file : List UInt8) (no : Nat) {n v : List UInt8} (r : Rd) (hn : nameB n = true) (hv : ValS v) (cs : List CondP) (hf : forceL cs = true) :
    lineL rec srcs opn file no (wSet ++ 32 :: (n ++ 32 :: v)) cs r = (cs, r.turn n [(bT n, bT v)]) := by
  have hsol := name_solid hn
  have hc1 : cutW (wSet ++ 32 :: (n ++ 32 :: v)) = (wSet, n ++ 32 :: v) := by
    refine cut_text (by decide) ?_ ?_
    · intro c hc
      cases n with
      | nil => exact absurd rfl (name_ne hn)
      | cons a t => injection hc with hc; subst hc; exact hsol _ (List.mem_cons_self ..)
    · intro c hc
      rw [List.getLast?_append] at hc
      have h2 : (32 :: v).getLast? = v.getLast? := by
        cases v with
        | nil => exact absurd rfl hv.ne
        | cons a t => exact List.getLast?_cons_cons ..
      rw [h2] at hc
      cases hl : v.getLast? with
      | none => exact absurd (List.getLast?_eq_none_iff.1 hl) hv.ne
      | some d => rw [hl] at hc; injection hc with hc; subst hc; exact hv.last _ hl
  have hc2 : cutW (n ++ 32 :: v) = (n, v) := cut_text hsol hv.head hv.last
  unfold lineL
  rw [hc1]
  simp only [show ¬ wSet = wIf from by decide, show ¬ wSet = wElse from by decide, show ¬ wSet = wEnd from by decide, if_false, if_pos hf]
  unfold doesL
  rw [hc1, if_neg (by simp [wSet])]
  simp only [show ¬ wSet = wInclude from by decide, if_false, if_true, hc2, Rd.fill, fill_value _ hv.brace, List.foldl_nil, (set_ok hn hv.may).1, (set_ok hn hv.may).2]
theorem line_unset (rec : List UInt8 → List UInt8 → Rd → Rd) (srcs : List At) (opn : List (List UInt8)) (file : List UInt8) (no : Nat) {n : List UInt8} (r : Rd) (hn : nameB n = true) (cs : List CondP) (hf : forceL cs = true) :
    lineL rec srcs opn file no (wUnset ++ 32 :: n) cs r = (cs, r.turn n []) := by
  have hc1 := cut_name (w := wUnset) (by decide) (name_solid hn)
  unfold lineL
  rw [hc1]
  simp only [show ¬ wUnset = wIf from by decide, show ¬ wUnset = wElse from by decide, show ¬ wUnset = wEnd from by decide, if_false, if_pos hf]
  unfold doesL
  rw [hc1, if_neg (by simp [wUnset])]
  have e : cutE [] (bT n) = 0 := by unfold cutE; rw [bT_list, hn]; rfl
  simp only [show ¬ wUnset = wInclude from by decide, show ¬ wUnset = wSet from by decide, if_false, if_true, e]
theorem value_is (n v : List UInt8) (l : List At) : valueL ((bT n, bT v) :: l) n = v := by
  unfold valueL getL
  simp [bT_list]
theorem value_none (n : List UInt8) : valueL [] n = 123 :: (n ++ [125]) := rfl
theorem turn_gone (n v : List UInt8) : [(bT n, bT v)].filter (neP (bT n)) = [] := by
  simp [neP]
def txWas : List UInt8 := [119, 97, 115]
def setText (n v : List UInt8) : List UInt8 := 123 :: (n ++ [125]) ++ 10 :: (wSet ++ 32 :: (n ++ 32 :: v) ++ 10 :: (123 :: (n ++ [125]) ++ 10 :: (wUnset ++ 32 :: n ++ 10 :: (123 :: (n ++ [125])))))
def ownText (n v : List UInt8) : List UInt8 := wSet ++ 32 :: (n ++ 32 :: v) ++ 10 :: (123 :: (n ++ [125]))
theorem lines_last (a : List UInt8) (h0 : a ≠ []) (h : ∀ c ∈ a, ¬ c = 10) : linesF [] a = [a] := by
  have gen : ∀ (a cur : List UInt8), (∀ c ∈ a, ¬ c = 10) → cur ++ a ≠ [] → linesF cur a = [cur ++ a] := by
    intro a
    induction a with
    | nil => intro cur _ h; simp only [List.append_nil] at h ⊢; simp [linesF, h]
    | cons c a ih => intro cur ha _; rw [lines_more _ _ (ha c (List.mem_cons_self ..)), ih _ (fun x hx => ha x (List.mem_cons_of_mem _ hx)) (by simp)]; simp
  simpa using gen a [] h (by simpa using h0)
theorem brace10 {n : List UInt8} (hn : nameB n = true) : ∀ c ∈ (123 :: (n ++ [125]) : List UInt8), ¬ c = 10 := by
  intro c hc
  simp only [List.mem_cons, List.mem_append, List.not_mem_nil, or_false] at hc
  rcases hc with rfl | hc | rfl
  · decide
  · exact name_end10 hn c hc
  · decide
theorem set10 {n v : List UInt8} (hn : nameB n = true) (hv : ValS v) : ∀ c ∈ (wSet ++ 32 :: (n ++ 32 :: v) : List UInt8), ¬ c = 10 := by
  intro c hc
  simp only [List.mem_cons, List.mem_append] at hc
  rcases hc with hc | rfl | hc | rfl | hc
  · exact (show ∀ c ∈ wSet, ¬ c = 10 by decide) c hc
  · decide
  · exact name_end10 hn c hc
  · decide
  · exact hv.end10 c hc
theorem unset10 {n : List UInt8} (hn : nameB n = true) : ∀ c ∈ (wUnset ++ 32 :: n : List UInt8), ¬ c = 10 := by
  intro c hc
  simp only [List.mem_cons, List.mem_append] at hc
  rcases hc with hc | rfl | hc
  · exact (show ∀ c ∈ wUnset, ¬ c = 10 by decide) c hc
  · decide
  · exact name_end10 hn c hc
theorem check_one {n v : List UInt8} (hn : nameB n = true) (hv : mayL v = true) : checkL [(bT n, bT v)] = true := by
  unfold checkL
  simp [attB, riseB, bT_list, hn, hv]
/-- AheadSets' first answer -/
theorem readL_set (n v : List UInt8) (hn : nameB n = true) (hv : ValS v) :
    readL [(bT [109], bT (setText n v))] [(bT n, bT txWas)] [109] = ([([109], 1, txWas), ([109], 3, v), ([109], 5, 123 :: (n ++ [125]))], [], [[109]], [n]) := by
  have hl : linesL (setText n v) = [123 :: (n ++ [125]), wSet ++ 32 :: (n ++ 32 :: v), 123 :: (n ++ [125]), wUnset ++ 32 :: n, 123 :: (n ++ [125])] := by
    unfold linesL setText
    rw [lines_cons _ _ (brace10 hn), lines_cons _ _ (set10 hn hv), lines_cons _ _ (brace10 hn), lines_cons _ _ (unset10 hn), lines_last _ (by simp) (brace10 hn)]
  unfold readL
  rw [find_one]
  simp only
  unfold readR
  simp only [List.not_mem_nil, if_false, hl, List.nil_append, if_pos (check_one hn (show mayL txWas = true by decide))]
  rw [lines_step _ _ _ _ _ _ _ _ _ _ _ rfl (by simp only; omega) (line_brace _ _ _ _ _ _ hn [] rfl)]
  have hask : ∀ (l : List At) (c : Nat), Rd.ask ⟨l, [], [], [[109]], [], [], c, false⟩ n = ⟨l, [], [n], [[109]], [], [], c, false⟩ := fun l c => by simp [Rd.ask, insL]
  simp only [hask, value_is, List.nil_append]
  rw [lines_step _ _ _ _ _ _ _ _ _ _ _ rfl (by simp only; omega) (line_set _ _ _ _ _ _ hn hv [] rfl)]
  simp only [Rd.turn, turn_gone, List.append_nil, List.nil_append]
  rw [lines_step _ _ _ _ _ _ _ _ _ _ _ rfl (by simp only; omega) (line_brace _ _ _ _ _ _ hn [] rfl)]
  have hask2 : ∀ (l : List At) (a o : List (List UInt8)) (x : List Ln) (c : Nat), Rd.ask ⟨l, n :: o, a, [[109]], x, [], c, false⟩ n = ⟨l, n :: o, a, [[109]], x, [], c, false⟩ := fun l a o x c => by simp [Rd.ask]
  simp only [hask2, value_is]
  rw [lines_step _ _ _ _ _ _ _ _ _ _ _ rfl (by simp only; omega) (line_unset _ _ _ _ _ _ hn [] rfl)]
  simp only [Rd.turn, turn_gone, List.append_nil, List.nil_append, List.cons_append]
  rw [lines_step _ _ _ _ _ _ _ _ _ _ _ rfl (by simp only; omega) (line_brace _ _ _ _ _ _ hn [] rfl)]
  simp only [hask2, value_none]
  simp [linesR]
/-- AheadSets' second answer -/
theorem readL_own (n v : List UInt8) (hn : nameB n = true) (hv : ValS v) :
    readL [(bT [109], bT (ownText n v))] [] [109] = ([([109], 2, v)], [], [[109]], []) := by
  have hl : linesL (ownText n v) = [wSet ++ 32 :: (n ++ 32 :: v), 123 :: (n ++ [125])] := by
    unfold linesL ownText
    rw [lines_cons _ _ (set10 hn hv), lines_last _ (by simp) (brace10 hn)]
  unfold readL
  rw [find_one]
  simp only
  unfold readR
  simp only [List.not_mem_nil, if_false, hl, List.nil_append, show (if checkL [] = true then ([] : List At) else []) = [] from by split <;> rfl]
  rw [lines_step _ _ _ _ _ _ _ _ _ _ _ rfl (by simp only; omega) (line_set _ _ _ _ _ _ hn hv [] rfl)]
  simp only [Rd.turn, List.filter_nil, List.append_nil, List.nil_append]
  rw [lines_step _ _ _ _ _ _ _ _ _ _ _ rfl (by simp only; omega) (line_brace _ _ _ _ _ _ hn [] rfl)]
  have hask2 : ∀ (l : List At) (a o : List (List UInt8)) (x : List Ln) (c : Nat), Rd.ask ⟨l, n :: o, a, [[109]], x, [], c, false⟩ n = ⟨l, n :: o, a, [[109]], x, [], c, false⟩ := fun l a o x c => by simp [Rd.ask]
  simp only [hask2, value_is]
  simp [linesR]
end Go.Proofs.YtbhlnemahhndoaaGreatDoor
