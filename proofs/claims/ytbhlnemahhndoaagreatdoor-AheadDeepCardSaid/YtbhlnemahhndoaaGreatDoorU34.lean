/- Merged: AliveL, ReadD, DeepL. -/
import Derived.Test.YtbhlnemahhndoaaGreatDoorU8
namespace Go.Proofs.YtbhlnemahhndoaaGreatDoor
open Go.RowKit
set_option maxRecDepth 100000

/-! ### the three books that are read ahead of each law -/
def tM : List UInt8 := [97] ++ 10 :: ((wInclude ++ [32, 110]) ++ 10 :: ((wIf ++ [32, 120]) ++ 10 :: ([98] ++ 10 :: (wElse ++ 10 :: ([99] ++ 10 :: (wEnd ++ [10]))))))
def tN : List UInt8 := [123, 120, 125]
def srcs1 : List At := [(bT [109], bT tM), (bT [110], bT tN)]
def lM : List (List UInt8) := [[97], wInclude ++ [32, 110], wIf ++ [32, 120], [98], wElse, [99], wEnd]
theorem lM_is : linesL tM = lM := by decide
theorem lN_is : linesL tN = [[123, 120, 125]] := by decide
theorem find_cons (a t n : List UInt8) (l : List At) : findL ((bT a, bT t) :: l) n = if a = n then some t else findL l n := by
  unfold findL getL
  rw [List.find?_cons]
  by_cases h : a = n
  · subst h; simp [bT_list]
  · rw [if_neg h]
    have : ((bT a).toList == (bT n).toList) = false := by rw [beq_eq_false_iff_ne, Go.ByteArray.toList_eq, Go.ByteArray.toList_eq]; exact h
    simp only [this]
theorem find_m : findL srcs1 [109] = some tM := by unfold srcs1; rw [find_cons, if_pos rfl]
theorem find_n : findL srcs1 [110] = some tN := by unfold srcs1; rw [find_cons, if_neg (by decide), find_cons, if_pos rfl]
theorem ask_one {n v : List UInt8} (h : nameB n = true) : askL [(bT n, bT v)] n = some (n, true) := by
  have hr : runL n = n.length := run_end _ (name_all h)
  cases n with
  | nil => exact absurd h (by decide)
  | cons c t =>
    have hc : ¬ c = 33 := by
      intro e; subst e
      have := List.all_eq_true.1 (name_all h) 33 (List.mem_cons_self ..)
      exact absurd this (by decide)
    unfold askL
    simp only [if_neg hc]
    unfold askN
    rw [hr, List.take_length, List.drop_length, if_neg (by rw [h]; decide)]
    simp [getL]
    rfl
theorem line_if1 (rec : List UInt8 → List UInt8 → Rd → Rd) (srcs : List At) (opn : List (List UInt8)) (file : List UInt8) (no : Nat) {name v : List UInt8} (r : Rd) (hn : nameB name = true) (ha : r.attrs = [(bT name, bT v)]) :
    lineL rec srcs opn file no (wIf ++ 32 :: name) [] r = ([⟨no, true, false, false⟩], r.ask name) := by
  unfold lineL
  rw [cut_name (by decide) (name_solid hn)]
  simp only [if_true]
  unfold beginsL
  rw [if_pos (show forceL [] = true from rfl), ha, ask_one hn]
  simp
theorem line_else (rec : List UInt8 → List UInt8 → Rd → Rd) (srcs : List At) (opn : List (List UInt8)) (file : List UInt8) (no : Nat) (c : CondP) (hc : c.else1 = false) (cs : List CondP) (r : Rd) :
    lineL rec srcs opn file no wElse (c :: cs) r = ({ c with else1 := true } :: cs, r) := by
  unfold lineL
  rw [cut_word (by decide)]
  simp only [show ¬ wElse = wIf from by decide, if_false, if_true, hc, Bool.false_eq_true]
/-- the source that is taken in -/
theorem read_n (d : Nat) (opn : List (List UInt8)) (r : Rd) (hl : r.long = false) (hc : r.count < 16384) (hf : [110] ∉ r.files) :
    readR srcs1 (d + 1) opn [110] tN r = { ({ r with files := r.files ++ [[110]], count := r.count + 1 } : Rd).ask [120] with lines := (({ r with files := r.files ++ [[110]], count := r.count + 1 } : Rd).ask [120]).lines ++ [([110], 1, valueL r.attrs [120])] } := by
  have h1 := lines_step (readR srcs1 d (opn ++ [[110]])) srcs1 (opn ++ [[110]]) [110] [123, 120, 125] [] 1 [] [] ({ r with files := r.files ++ [[110]] }) _ hl hc (line_brace _ _ _ _ _ (n := [120]) _ (by decide) [] rfl)
  unfold readR
  simp only [lN_is, if_neg hf]
  rw [h1]
  unfold linesR
  have hlg : (({ r with files := r.files ++ [[110]], count := r.count + 1 } : Rd).ask [120]).long = false := by unfold Rd.ask; split <;> exact hl
  simp only [hlg, Bool.false_eq_true, if_false, List.reverse_nil, List.foldl_nil]

theorem plain_one (c : UInt8) (h : plainC c) : PlainL [c] := fun x hx => by simp only [List.mem_singleton] at hx; subst hx; exact h
/-- the Read, as it goes -/
def stR (at' : List At) (asked files : List (List UInt8)) (lines : List Ln) (n : Nat) : Rd := ⟨at', [], asked, files, lines, [], n, false⟩
theorem read_n1 (at' : List At) : readR srcs1 16 [[109]] [110] tN (stR at' [] [[109]] [([109], 1, [97])] 2) = stR at' [[120]] [[109], [110]] [([109], 1, [97]), ([110], 1, valueL at' [120])] 3 := by
  rw [read_n 15 [[109]] _ rfl (by show (2 : Nat) < 16384; decide) (by show [110] ∉ [[109]]; decide)]; rfl
theorem head_one (at' : List At) : linesR (readR srcs1 16 [[109]]) srcs1 [[109]] [109] lM 1 [] (stR at' [] [[109]] [] 0) = linesR (readR srcs1 16 [[109]]) srcs1 [[109]] [109] [wIf ++ 32 :: [120], [98], wElse, [99], wEnd] 3 [] (stR at' [[120]] [[109], [110]] [([109], 1, [97]), ([110], 1, valueL at' [120])] 3) := by
  unfold lM
  rw [lines_step _ _ _ _ _ _ _ [] [] _ (stR at' [] [[109]] [([109], 1, [97])] 1) rfl (by show (0 : Nat) < 16384; decide) (line_plain _ _ _ _ _ _ (plain_one 97 (by unfold plainC; decide)) [] rfl)]
  rw [lines_step _ _ _ _ _ _ _ [] [] _ (stR at' [[120]] [[109], [110]] [([109], 1, [97]), ([110], 1, valueL at' [120])] 3) rfl (by show (1 : Nat) < 16384; decide) ((line_inc _ _ _ _ _ (part := [110]) (text := tN) _ (by decide) (by decide) (by decide) (by decide) find_n [] rfl).trans (congrArg (Prod.mk []) (read_n1 at')))]
theorem read_m1 (at' : List At) (fin : Rd) (h : linesR (readR srcs1 16 [[109]]) srcs1 [[109]] [109] [wIf ++ 32 :: [120], [98], wElse, [99], wEnd] 3 [] (stR at' [[120]] [[109], [110]] [([109], 1, [97]), ([110], 1, valueL at' [120])] 3) = ([], fin)) (hl : fin.long = false) :
    readR srcs1 17 [] [109] tM (stR at' [] [] [] 0) = fin := by
  have e : readR srcs1 17 [] [109] tM (stR at' [] [] [] 0) = if (linesR (readR srcs1 16 [[109]]) srcs1 [[109]] [109] (linesL tM) 1 [] (stR at' [] [[109]] [] 0)).2.long = true then (linesR (readR srcs1 16 [[109]]) srcs1 [[109]] [109] (linesL tM) 1 [] (stR at' [] [[109]] [] 0)).2 else (linesR (readR srcs1 16 [[109]]) srcs1 [[109]] [109] (linesL tM) 1 [] (stR at' [] [[109]] [] 0)).1.reverse.foldl (fun r c => r.tell [109] c.line 4 []) (linesR (readR srcs1 16 [[109]]) srcs1 [[109]] [109] (linesL tM) 1 [] (stR at' [] [[109]] [] 0)).2 := rfl
  rw [e, lM_is, head_one, h]
  simp only [hl, Bool.false_eq_true, if_false, List.reverse_nil, List.foldl_nil]
theorem alive_one : readR srcs1 17 [] [109] tM (stR [(bT [120], bT [49])] [] [] [] 0) = stR [(bT [120], bT [49])] [[120]] [[109], [110]] [([109], 1, [97]), ([110], 1, [49]), ([109], 4, [98])] 8 := by
  refine read_m1 _ _ ?_ rfl
  have hv : valueL [(bT [120], bT [49])] [120] = [49] := value_is _ _ _
  rw [hv]
  rw [lines_step _ _ _ _ _ _ _ [] [⟨3, true, false, false⟩] _ (stR [(bT [120], bT [49])] [[120]] [[109], [110]] [([109], 1, [97]), ([110], 1, [49])] 4) rfl (by show (3 : Nat) < 16384; decide) (line_if1 _ _ _ _ _ (name := [120]) (v := [49]) _ (by decide) rfl)]
  rw [lines_step _ _ _ _ _ _ _ [⟨3, true, false, false⟩] [⟨3, true, false, false⟩] _ (stR [(bT [120], bT [49])] [[120]] [[109], [110]] [([109], 1, [97]), ([110], 1, [49]), ([109], 4, [98])] 5) rfl (by show (4 : Nat) < 16384; decide) (line_plain _ _ _ _ _ _ (plain_one 98 (by unfold plainC; decide)) _ rfl)]
  rw [lines_step _ _ _ _ _ _ _ [⟨3, true, false, false⟩] [⟨3, true, false, true⟩] _ (stR [(bT [120], bT [49])] [[120]] [[109], [110]] [([109], 1, [97]), ([110], 1, [49]), ([109], 4, [98])] 6) rfl (by show (5 : Nat) < 16384; decide) (line_else _ _ _ _ _ _ rfl _ _)]
  rw [lines_step _ _ _ _ _ _ _ [⟨3, true, false, true⟩] [⟨3, true, false, true⟩] _ (stR [(bT [120], bT [49])] [[120]] [[109], [110]] [([109], 1, [97]), ([110], 1, [49]), ([109], 4, [98])] 7) rfl (by show (6 : Nat) < 16384; decide) (line_off _ _ _ _ _ _ ⟨by decide, by decide, by decide⟩ _ rfl)]
  rw [lines_step _ _ _ _ _ _ _ [⟨3, true, false, true⟩] [] _ (stR [(bT [120], bT [49])] [[120]] [[109], [110]] [([109], 1, [97]), ([110], 1, [49]), ([109], 4, [98])] 8) rfl (by show (7 : Nat) < 16384; decide) (line_end _ _ _ _ _ _ _ _)]
  rfl
theorem alive_two : readR srcs1 17 [] [109] tM (stR [] [] [] [] 0) = stR [] [[120]] [[109], [110]] [([109], 1, [97]), ([110], 1, [123, 120, 125]), ([109], 6, [99])] 8 := by
  refine read_m1 _ _ ?_ rfl
  have hv : valueL [] [120] = [123, 120, 125] := rfl
  rw [hv]
  rw [lines_step _ _ _ _ _ _ _ [] [⟨3, false, true, false⟩] _ (stR [] [[120]] [[109], [110]] [([109], 1, [97]), ([110], 1, [123, 120, 125])] 4) rfl (by show (3 : Nat) < 16384; decide) (line_if _ _ _ _ _ (name := [120]) _ (by decide) rfl)]
  rw [lines_step _ _ _ _ _ _ _ [⟨3, false, true, false⟩] [⟨3, false, true, false⟩] _ (stR [] [[120]] [[109], [110]] [([109], 1, [97]), ([110], 1, [123, 120, 125])] 5) rfl (by show (4 : Nat) < 16384; decide) (line_off _ _ _ _ _ _ ⟨by decide, by decide, by decide⟩ _ rfl)]
  rw [lines_step _ _ _ _ _ _ _ [⟨3, false, true, false⟩] [⟨3, false, true, true⟩] _ (stR [] [[120]] [[109], [110]] [([109], 1, [97]), ([110], 1, [123, 120, 125])] 6) rfl (by show (5 : Nat) < 16384; decide) (line_else _ _ _ _ _ _ rfl _ _)]
  rw [lines_step _ _ _ _ _ _ _ [⟨3, false, true, true⟩] [⟨3, false, true, true⟩] _ (stR [] [[120]] [[109], [110]] [([109], 1, [97]), ([110], 1, [123, 120, 125]), ([109], 6, [99])] 7) rfl (by show (6 : Nat) < 16384; decide) (line_plain _ _ _ _ _ _ (plain_one 99 (by unfold plainC; decide)) _ rfl)]
  rw [lines_step _ _ _ _ _ _ _ [⟨3, false, true, true⟩] [] _ (stR [] [[120]] [[109], [110]] [([109], 1, [97]), ([110], 1, [123, 120, 125]), ([109], 6, [99])] 8) rfl (by show (7 : Nat) < 16384; decide) (line_end _ _ _ _ _ _ _ _)]
  rfl
def tF : List UInt8 := (wInclude ++ [32, 109]) ++ 10 :: ([64, 102, 111, 111] ++ 10 :: (wEnd ++ 10 :: (wIf ++ [32, 120])))
def srcs2 : List At := [(bT [109], bT tF)]
theorem lF_is : linesL tF = [wInclude ++ [32, 109], [64, 102, 111, 111], wEnd, wIf ++ 32 :: [120]] := by decide
def stF (asked : List (List UInt8)) (diags : List Dg) (n : Nat) : Rd := ⟨[], [], asked, [[109]], [], diags, n, false⟩
theorem alive_three : readR srcs2 17 [] [109] tF (stR [] [] [] [] 0) = stF [[120]] [([109], 1, 2, [109]), ([109], 2, 3, [64, 102, 111, 111]), ([109], 3, 4, wEnd), ([109], 4, 4, [])] 4 := by
  have e : readR srcs2 17 [] [109] tF (stR [] [] [] [] 0) = if (linesR (readR srcs2 16 [[109]]) srcs2 [[109]] [109] (linesL tF) 1 [] (stF [] [] 0)).2.long = true then (linesR (readR srcs2 16 [[109]]) srcs2 [[109]] [109] (linesL tF) 1 [] (stF [] [] 0)).2 else (linesR (readR srcs2 16 [[109]]) srcs2 [[109]] [109] (linesL tF) 1 [] (stF [] [] 0)).1.reverse.foldl (fun r c => r.tell [109] c.line 4 []) (linesR (readR srcs2 16 [[109]]) srcs2 [[109]] [109] (linesL tF) 1 [] (stF [] [] 0)).2 := rfl
  have h : linesR (readR srcs2 16 [[109]]) srcs2 [[109]] [109] (linesL tF) 1 [] (stF [] [] 0) = ([⟨4, false, true, false⟩], stF [[120]] [([109], 1, 2, [109]), ([109], 2, 3, [64, 102, 111, 111]), ([109], 3, 4, wEnd)] 4) := by
    rw [lF_is]
    rw [lines_step _ _ _ _ _ _ _ [] [] _ (stF [] [([109], 1, 2, [109])] 1) rfl (by show (0 : Nat) < 16384; decide) (by rfl)]
    rw [lines_step _ _ _ _ _ _ _ [] [] _ (stF [] [([109], 1, 2, [109]), ([109], 2, 3, [64, 102, 111, 111])] 2) rfl (by show (1 : Nat) < 16384; decide) (by rfl)]
    rw [lines_step _ _ _ _ _ _ _ [] [] _ (stF [] [([109], 1, 2, [109]), ([109], 2, 3, [64, 102, 111, 111]), ([109], 3, 4, wEnd)] 3) rfl (by show (2 : Nat) < 16384; decide) (by rfl)]
    rw [lines_step _ _ _ _ _ _ _ [] [⟨4, false, true, false⟩] _ (stF [[120]] [([109], 1, 2, [109]), ([109], 2, 3, [64, 102, 111, 111]), ([109], 3, 4, wEnd)] 4) rfl (by show (3 : Nat) < 16384; decide) (line_if _ _ _ _ _ (name := [120]) _ (by decide) rfl)]
    rfl
  rw [e, h]
  rfl
end Go.Proofs.YtbhlnemahhndoaaGreatDoor
namespace Go.Proofs.YtbhlnemahhndoaaGreatDoor
open Go.RowKit

/-! sources, each of which takes in the next one -/
def nm (i : Nat) : List UInt8 := [115, UInt8.ofNat (97 + i)]
def txI (i : Nat) : List UInt8 := 120 :: 10 :: (wInclude ++ 32 :: nm (i + 1))
def nmsF (i m : Nat) : List (List UInt8) := (List.range' i m).map nm
theorem nm_check : ∀ i < 22, checkB (nm i) = true := by decide
theorem nm_solid : ∀ i < 22, ∀ c ∈ nm i, blankB c = false := by decide
theorem nm_end10 : ∀ i < 22, ∀ c ∈ nm i, ¬ c = 10 := by decide
theorem nm_inj : ∀ i < 22, ∀ j < 22, nm i = nm j → i = j := by decide
theorem nms_snoc (i : Nat) : nmsF 0 i ++ [nm i] = nmsF 0 (i + 1) := by
  unfold nmsF
  rw [List.range'_1_concat, List.map_append]; simp
theorem nms_len (i m : Nat) : (nmsF i m).length = m := by simp [nmsF]
theorem nms_not {i j : Nat} (h : i ≤ j) (hj : j < 22) : nm j ∉ nmsF 0 i := by
  intro e
  unfold nmsF at e
  obtain ⟨x, hx, e⟩ := List.mem_map.1 e
  rw [List.mem_range'_1] at hx
  have := nm_inj x (by omega) j hj e
  omega
theorem txI_lines (i : Nat) (h : i < 21) : linesL (txI i) = [[120], wInclude ++ 32 :: nm (i + 1)] := by
  unfold linesL txI
  have h1 := lines_cons [120] (wInclude ++ 32 :: nm (i + 1)) (by decide)
  have h2 := lines_last (wInclude ++ 32 :: nm (i + 1)) (by simp [wInclude]) (by
    intro c hc
    rcases List.mem_append.1 hc with hc | hc
    · exact (show ∀ c ∈ wInclude, ¬ c = 10 by decide) c hc
    · rcases List.mem_cons.1 hc with rfl | hc
      · decide
      · exact nm_end10 (i + 1) (by omega) c hc)
  rw [h2] at h1
  exact h1
def lnsF (i m : Nat) : List Ln := (List.range' i m).map fun j => (nm j, 1, [120])

theorem long_same (x : Rd) : (if x.long = true then x else x) = x := by
  cases h : x.long <;> simp
theorem chain {srcs : List At} {L : Nat} (hL : L ≤ 15) (hf : ∀ i, i ≤ L → findL srcs (nm i) = some (txI i)) (F : Rd → Rd)
    (hF : ∀ r', lineL (readR srcs (16 - L) (nmsF 0 (L + 1))) srcs (nmsF 0 (L + 1)) (nm L) 2 (wInclude ++ 32 :: nm (L + 1)) [] r' = ([], F r')) :
    ∀ (m i : Nat) (r : Rd), i + m = L → r.long = false → r.count + 2 * (m + 1) ≤ 16384 → (∀ j, i ≤ j → j ≤ L → nm j ∉ r.files) →
      readR srcs (17 - i) (nmsF 0 i) (nm i) (txI i) r = F { r with files := r.files ++ nmsF i (m + 1), lines := r.lines ++ lnsF i (m + 1), count := r.count + 2 * (m + 1) }
  | 0, i, r, hi, hl, hc, hn => by
    obtain rfl : i = L := by omega
    obtain ⟨ra, ro, rk, rf, rl, rd, rc, rg⟩ := r
    simp only at hl hc hn
    subst hl
    rw [show 17 - i = (16 - i) + 1 by omega]
    unfold readR
    simp only [if_neg (hn i (Nat.le_refl _) (Nat.le_refl _)), txI_lines i (by omega), nms_snoc]
    rw [lines_step _ _ _ _ _ _ _ _ _ _ _ rfl (by simp only; omega) (line_plain _ _ _ _ _ _ (by unfold PlainL plainC; decide) [] rfl)]
    rw [lines_step _ _ _ _ _ _ _ _ _ _ _ rfl (by simp only; omega) (hF _)]
    simp only [linesR, List.reverse_nil, List.foldl_nil]
    exact (long_same (F _)).trans rfl
  | m + 1, i, r, hi, hl, hc, hn => by
    obtain ⟨ra, ro, rk, rf, rl, rd, rc, rg⟩ := r
    simp only at hl hc hn
    subst hl
    rw [show 17 - i = (16 - i) + 1 by omega]
    conv => lhs; unfold readR
    simp only [if_neg (hn i (Nat.le_refl _) (by omega)), txI_lines i (by omega), nms_snoc]
    rw [lines_step _ _ _ _ _ _ _ _ _ _ _ rfl (by simp only; omega) (line_plain _ _ _ _ _ _ (by unfold PlainL plainC; decide) [] rfl)]
    rw [lines_step _ _ _ _ _ _ _ _ _ _ _ rfl (by simp only; omega) (line_inc _ _ _ _ _ _ (nm_solid (i + 1) (by omega)) (nm_check (i + 1) (by omega)) (nms_not (Nat.le_refl _) (by omega)) (by rw [nms_len]; omega) (hf (i + 1) (by omega)) [] rfl)]
    have ih := fun r => chain hL hf F hF m (i + 1) r (by omega)
    rw [show 17 - (i + 1) = 16 - i by omega] at ih
    rw [ih]
    · simp only [linesR, List.reverse_nil, List.foldl_nil, ite_self, List.append_assoc]
      have e1 : [nm i] ++ nmsF (i + 1) (m + 1) = nmsF i (m + 1 + 1) := by simp [nmsF, List.range'_succ]
      have e2 : [(nm i, 1, [120])] ++ lnsF (i + 1) (m + 1) = lnsF i (m + 1 + 1) := by simp [lnsF, List.range'_succ]
      rw [e1, e2, show rc + 1 + 1 + 2 * (m + 1) = rc + 2 * (m + 1 + 1) by omega]
    · rfl
    · simp only; omega
    · intro j h1 h2 e
      simp only [List.mem_append, List.mem_singleton] at e
      rcases e with e | e
      · exact hn j (by omega) h2 e
      · have := nm_inj j (by omega) i (by omega) e; omega
/-- too deep -/
theorem chain_deep {srcs : List At} (hf : ∀ i, i ≤ 15 → findL srcs (nm i) = some (txI i)) :
    readL srcs [] (nm 0) = (lnsF 0 16, [(nm 15, 2, 5, nm 16)], nmsF 0 16, []) := by
  unfold readL
  rw [hf 0 (by omega)]
  simp only
  have := chain (Nat.le_refl 15) hf (fun r => r.tell (nm 15) 2 5 (nm 16)) (fun r' => by
    unfold lineL
    rw [cut_name (by decide) (nm_solid 16 (by omega))]
    simp only [show ¬ wInclude = wIf from by decide, show ¬ wInclude = wElse from by decide, show ¬ wInclude = wEnd from by decide, if_false, if_pos (show forceL [] = true from rfl)]
    unfold doesL
    rw [cut_name (by decide) (nm_solid 16 (by omega)), if_neg (by simp [wInclude])]
    simp only [if_true, nm_check 16 (by omega), if_neg (nms_not (Nat.le_refl 16) (by omega)), if_pos (show 16 ≤ (nmsF 0 16).length by rw [nms_len]; omega), Bool.true_eq_false, if_false])
    15 0 ⟨if checkL [] = true then [] else [], [], [], [], [], [], 0, false⟩ (by omega) rfl (by simp only; omega) (fun j _ _ e => by cases e)
  rw [show nmsF 0 0 = [] from rfl] at this
  rw [this]
  simp [Rd.tell]
/-- the next one is not there -/
theorem chain_none {srcs : List At} {L : Nat} (hL : L ≤ 14) (hf : ∀ i, i ≤ L → findL srcs (nm i) = some (txI i)) (hg : findL srcs (nm (L + 1)) = none) :
    readL srcs [] (nm 0) = (lnsF 0 (L + 1), [(nm L, 2, 1, nm (L + 1))], nmsF 0 (L + 1), []) := by
  unfold readL
  rw [hf 0 (by omega)]
  simp only
  have := chain (by omega) hf (fun r => r.tell (nm L) 2 1 (nm (L + 1))) (fun r' => by
    unfold lineL
    rw [cut_name (by decide) (nm_solid (L + 1) (by omega))]
    simp only [show ¬ wInclude = wIf from by decide, show ¬ wInclude = wElse from by decide, show ¬ wInclude = wEnd from by decide, if_false, if_pos (show forceL [] = true from rfl)]
    unfold doesL
    rw [cut_name (by decide) (nm_solid (L + 1) (by omega)), if_neg (by simp [wInclude])]
    simp only [if_true, nm_check (L + 1) (by omega), if_neg (nms_not (Nat.le_refl (L + 1)) (by omega)), if_neg (show ¬ 16 ≤ (nmsF 0 (L + 1)).length by rw [nms_len]; omega), hg, Bool.true_eq_false, if_false])
    L 0 ⟨if checkL [] = true then [] else [], [], [], [], [], [], 0, false⟩ (by omega) rfl (by simp only; omega) (fun j _ _ e => by cases e)
  rw [show nmsF 0 0 = [] from rfl] at this
  rw [this]
  simp [Rd.tell]
/-- the next one is there, and plain -/
theorem chain_plain {srcs : List At} {L : Nat} (hL : L ≤ 14) (hf : ∀ i, i ≤ L → findL srcs (nm i) = some (txI i)) {s : List UInt8} (hs : s.length ≤ 500) (hp : PlainL s) (hg : findL srcs (nm (L + 1)) = some s) :
    readL srcs [] (nm 0) = (lnsF 0 (L + 1) ++ numL (nm (L + 1)) 1 (linesL s), [], nmsF 0 (L + 2), []) := by
  have hlen : (linesL s).length ≤ 501 := by have := lines_len [] s; unfold linesL; omega
  unfold readL
  rw [hf 0 (by omega)]
  simp only
  have := chain (by omega) hf (fun r => readR srcs (16 - L) (nmsF 0 (L + 1)) (nm (L + 1)) s r)
    (fun r' => line_inc _ _ _ _ _ _ (nm_solid (L + 1) (by omega)) (nm_check (L + 1) (by omega)) (nms_not (Nat.le_refl _) (by omega)) (by rw [nms_len]; omega) hg [] rfl)
    L 0 ⟨if checkL [] = true then [] else [], [], [], [], [], [], 0, false⟩ (by omega) rfl (by simp only; omega) (fun j _ _ e => by cases e)
  rw [show nmsF 0 0 = [] from rfl] at this
  rw [this, show 16 - L = (15 - L) + 1 by omega, read_plain srcs (15 - L) _ _ s _ hp rfl (by simp only; omega)]
  have hno : nm (L + 1) ∉ nmsF 0 (L + 1) := nms_not (Nat.le_refl _) (by omega)
  simp only [List.nil_append, if_neg hno, nms_snoc]
end Go.Proofs.YtbhlnemahhndoaaGreatDoor
namespace Go.Proofs.YtbhlnemahhndoaaGreatDoor
open Go.RowKit
set_option maxRecDepth 100000

/-! ### AheadDeep: the whole of its Reads -/
theorem readR_deep {srcs : List At} (hf : ∀ i, i ≤ 15 → findL srcs (nm i) = some (txI i)) :
    ∃ l o cnt, readR srcs 17 [] (nm 0) (txI 0) ⟨if checkL [] = true then [] else [], [], [], [], [], [], 0, false⟩ = ⟨l, o, [], nmsF 0 16, lnsF 0 16, [(nm 15, 2, 5, nm 16)], cnt, false⟩ := by
  have := chain (Nat.le_refl 15) hf (fun r => r.tell (nm 15) 2 5 (nm 16)) (fun r' => by
    unfold lineL
    rw [cut_name (by decide) (nm_solid 16 (by omega))]
    simp only [show ¬ wInclude = wIf from by decide, show ¬ wInclude = wElse from by decide, show ¬ wInclude = wEnd from by decide, if_false, if_pos (show forceL [] = true from rfl)]
    unfold doesL
    rw [cut_name (by decide) (nm_solid 16 (by omega)), if_neg (by simp [wInclude])]
    simp only [if_true, nm_check 16 (by omega), if_neg (nms_not (Nat.le_refl 16) (by omega)), if_pos (show 16 ≤ (nmsF 0 16).length by rw [nms_len]; omega), Bool.true_eq_false, if_false])
    15 0 ⟨if checkL [] = true then [] else [], [], [], [], [], [], 0, false⟩ (by omega) rfl (by simp only; omega) (fun j _ _ e => by cases e)
  rw [show nmsF 0 0 = [] from rfl] at this
  rw [this]
  simp [Rd.tell]
theorem readR_none {srcs : List At} {L : Nat} (hL : L ≤ 14) (hf : ∀ i, i ≤ L → findL srcs (nm i) = some (txI i)) (hg : findL srcs (nm (L + 1)) = none) :
    ∃ l o cnt, readR srcs 17 [] (nm 0) (txI 0) ⟨if checkL [] = true then [] else [], [], [], [], [], [], 0, false⟩ = ⟨l, o, [], nmsF 0 (L + 1), lnsF 0 (L + 1), [(nm L, 2, 1, nm (L + 1))], cnt, false⟩ := by
  have := chain (by omega) hf (fun r => r.tell (nm L) 2 1 (nm (L + 1))) (fun r' => by
    unfold lineL
    rw [cut_name (by decide) (nm_solid (L + 1) (by omega))]
    simp only [show ¬ wInclude = wIf from by decide, show ¬ wInclude = wElse from by decide, show ¬ wInclude = wEnd from by decide, if_false, if_pos (show forceL [] = true from rfl)]
    unfold doesL
    rw [cut_name (by decide) (nm_solid (L + 1) (by omega)), if_neg (by simp [wInclude])]
    simp only [if_true, nm_check (L + 1) (by omega), if_neg (nms_not (Nat.le_refl (L + 1)) (by omega)), if_neg (show ¬ 16 ≤ (nmsF 0 (L + 1)).length by rw [nms_len]; omega), hg, Bool.true_eq_false, if_false])
    L 0 ⟨if checkL [] = true then [] else [], [], [], [], [], [], 0, false⟩ (by omega) rfl (by simp only; omega) (fun j _ _ e => by cases e)
  rw [show nmsF 0 0 = [] from rfl] at this
  rw [this]
  simp [Rd.tell]
theorem readR_more {srcs : List At} {L : Nat} (hL : L ≤ 14) (hf : ∀ i, i ≤ L → findL srcs (nm i) = some (txI i)) {s : List UInt8} (hs : s.length ≤ 500) (hp : PlainL s) (hg : findL srcs (nm (L + 1)) = some s) :
    ∃ l o cnt, readR srcs 17 [] (nm 0) (txI 0) ⟨if checkL [] = true then [] else [], [], [], [], [], [], 0, false⟩ = ⟨l, o, [], nmsF 0 (L + 2), lnsF 0 (L + 1) ++ numL (nm (L + 1)) 1 (linesL s), [], cnt, false⟩ := by
  have hlen : (linesL s).length ≤ 501 := by have := lines_len [] s; unfold linesL; omega
  have := chain (by omega) hf (fun r => readR srcs (16 - L) (nmsF 0 (L + 1)) (nm (L + 1)) s r)
    (fun r' => line_inc _ _ _ _ _ _ (nm_solid (L + 1) (by omega)) (nm_check (L + 1) (by omega)) (nms_not (Nat.le_refl _) (by omega)) (by rw [nms_len]; omega) hg [] rfl)
    L 0 ⟨if checkL [] = true then [] else [], [], [], [], [], [], 0, false⟩ (by omega) rfl (by simp only; omega) (fun j _ _ e => by cases e)
  rw [show nmsF 0 0 = [] from rfl] at this
  rw [this, show 16 - L = (15 - L) + 1 by omega, read_plain srcs (15 - L) _ _ s _ hp rfl (by simp only; omega)]
  have hno : nm (L + 1) ∉ nmsF 0 (L + 1) := nms_not (Nat.le_refl _) (by omega)
  simp only [List.nil_append, if_neg hno, nms_snoc]
  exact ⟨_, _, _, rfl⟩
/-- the sources -/
def dpF (i m : Nat) : List At := (List.range' i m).map (fun i => (bT (nm i), bT (txI i)))
theorem dp_cons (i m : Nat) : dpF i (m + 1) = (bT (nm i), bT (txI i)) :: dpF (i + 1) m := by simp [dpF, List.range'_succ]
theorem dp_snoc (i m : Nat) : dpF i (m + 1) = dpF i m ++ [(bT (nm (i + m)), bT (txI (i + m)))] := by simp [dpF, List.range'_concat]
theorem find_here (n t : List UInt8) (l : List At) : findL ((bT n, bT t) :: l) n = some t := by unfold findL getL; simp [bT_list]
theorem find_past {n m t : List UInt8} (h : ¬ m = n) (l : List At) : findL ((bT m, bT t) :: l) n = findL l n := by rw [find_cons, if_neg h]
theorem find_dp (more : List At) : ∀ (m a i : Nat), a + m ≤ 22 → i < 22 → (a ≤ i → i < a + m → findL (dpF a m ++ more) (nm i) = some (txI i)) ∧ (i < a ∨ a + m ≤ i → findL (dpF a m ++ more) (nm i) = findL more (nm i))
  | 0, a, i, _, _ => ⟨fun h1 h2 => by omega, fun _ => rfl⟩
  | m + 1, a, i, ha, hi => by
    have ih := find_dp more m (a + 1) i (by omega) hi
    rw [dp_cons, List.cons_append]
    by_cases e : a = i
    · subst e
      exact ⟨fun _ _ => find_here _ _ _, fun h => by omega⟩
    · rw [find_past (fun h => e (nm_inj a (by omega) i hi h))]
      exact ⟨fun h1 h2 => ih.1 (by omega) (by omega), fun h => ih.2 (by omega)⟩
end Go.Proofs.YtbhlnemahhndoaaGreatDoor
