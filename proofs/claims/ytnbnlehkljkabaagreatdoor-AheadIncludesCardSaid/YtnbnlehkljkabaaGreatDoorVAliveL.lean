/- Merged: AliveL. -/
import Derived.Test.YtnbnlehkljkabaaGreatDoorU8
namespace Go.Proofs.YtnbnlehkljkabaaGreatDoor
open Go.RowKit
set_option maxRecDepth 100000

/-! ### the three books that are read ahead of each law -/
def tM : List UInt8 := [97] ++ 10 :: ((wInclude ++ [32, 110]) ++ 10 :: ((wIf ++ [32, 120]) ++ 10 :: ([98] ++ 10 :: (wElse ++ 10 :: ([99] ++ 10 :: (wEnd ++ [10]))))))
def tN : List UInt8 := [123, 120, 125]
def srcs1 : List At := [(bT [109], bT tM), (bT [110], bT tN)]
def lM : List (List UInt8) := [[97], wInclude ++ [32, 110], wIf ++ [32, 120], [98], wElse, [99], wEnd]
theorem lM_is : linesL tM = lM := by decide
theorem lN_is : linesL tN = [[123, 120, 125]] := by decide
theorem find_cons (a t n : List UInt8) (l : List At) : findL ((bT a, bT t) :: l) n = if a = n then some t else findL l n := by
  unfold findL getL
  rw [List.find?_cons]
  by_cases h : a = n
  · subst h; simp [bT_list]
  · rw [if_neg h]
    have : ((bT a).toList == (bT n).toList) = false := by rw [beq_eq_false_iff_ne, Go.ByteArray.toList_eq, Go.ByteArray.toList_eq]; exact h
    simp only [this]
theorem find_m : findL srcs1 [109] = some tM := by unfold srcs1; rw [find_cons, if_pos rfl]
theorem find_n : findL srcs1 [110] = some tN := by unfold srcs1; rw [find_cons, if_neg (by decide), find_cons, if_pos rfl]
theorem ask_one {n v : List UInt8} (h : nameB n = true) : askL [(bT n, bT v)] n = some (n, true) := by
  have hr : runL n = n.length := run_end _ (name_all h)
  cases n with
  | nil => exact absurd h (by decide)
  | cons c t =>
    have hc : ¬ c = 33 := by
      intro e; subst e
      have := List.all_eq_true.1 (name_all h) 33 (List.mem_cons_self ..)
      exact absurd this (by decide)
    unfold askL
    simp only [if_neg hc]
    unfold askN
    rw [hr, List.take_length, List.drop_length, if_neg (by rw [h]; decide)]
    simp [getL]
    rfl
theorem line_if1 (rec : List UInt8 → List UInt8 → Rd → Rd) (srcs : List At) (opn : List (List UInt8)) (file : List UInt8) (no : Nat) {name v : List UInt8} (r : Rd) (hn : nameB name = true) (ha : r.attrs = [(bT name, bT v)]) :
    lineL rec srcs opn file no (wIf ++ 32 :: name) [] r = ([⟨no, true, false, false⟩], r.ask name) := by
  unfold lineL
  rw [cut_name (by decide) (name_solid hn)]
  simp only [if_true]
  unfold beginsL
  rw [if_pos (show forceL [] = true from rfl), ha, ask_one hn]
  simp
theorem line_else (rec : List UInt8 → List UInt8 → Rd → Rd) (srcs : List At) (opn : List (List UInt8)) (file : List UInt8) (no : Nat) (c : CondP) (hc : c.else1 = false) (cs : List CondP) (r : Rd) :
    lineL rec srcs opn file no wElse (c :: cs) r = ({ c with else1 := true } :: cs, r) := by
  unfold lineL
  rw [cut_word (by decide)]
  simp only [show ¬ wElse = wIf from by decide, if_false, if_true, hc, Bool.false_eq_true]
/-- the source that is taken in -/
theorem read_n (d : Nat) (opn : List (List UInt8)) (r : Rd) (hl : r.long = false) (hc : r.count < 16384) (hf : [110] ∉ r.files) :
    readR srcs1 (d + 1) opn [110] tN r = { ({ r with files := r.files ++ [[110]], count := r.count + 1 } : Rd).ask [120] with lines := (({ r with files := r.files ++ [[110]], count := r.count + 1 } : Rd).ask [120]).lines ++ [([110], 1, valueL r.attrs [120])] } := by
  have h1 := lines_step (readR srcs1 d (opn ++ [[110]])) srcs1 (opn ++ [[110]]) [110] [123, 120, 125] [] 1 [] [] ({ r with files := r.files ++ [[110]] }) _ hl hc (line_brace _ _ _ _ _ (n := [120]) _ (by decide) [] rfl)
  unfold readR
  simp only [lN_is, if_neg hf]
  rw [h1]
  unfold linesR
  have hlg : (({ r with files := r.files ++ [[110]], count := r.count + 1 } : Rd).ask [120]).long = false := by unfold Rd.ask; split <;> exact hl
  simp only [hlg, Bool.false_eq_true, if_false, List.reverse_nil, List.foldl_nil]

theorem plain_one (c : UInt8) (h : plainC c) : PlainL [c] := fun x hx => by simp only [List.mem_singleton] at hx; subst hx; exact h
/-- the Read, as it goes -/
def stR (at' : List At) (asked files : List (List UInt8)) (lines : List Ln) (n : Nat) : Rd := ⟨at', [], asked, files, lines, [], n, false⟩
theorem read_n1 (at' : List At) : readR srcs1 16 [[109]] [110] tN (stR at' [] [[109]] [([109], 1, [97])] 2) = stR at' [[120]] [[109], [110]] [([109], 1, [97]), ([110], 1, valueL at' [120])] 3 := by
  rw [read_n 15 [[109]] _ rfl (by show (2 : Nat) < 16384; decide) (by show [110] ∉ [[109]]; decide)]; rfl
theorem head_one (at' : List At) : linesR (readR srcs1 16 [[109]]) srcs1 [[109]] [109] lM 1 [] (stR at' [] [[109]] [] 0) = linesR (readR srcs1 16 [[109]]) srcs1 [[109]] [109] [wIf ++ 32 :: [120], [98], wElse, [99], wEnd] 3 [] (stR at' [[120]] [[109], [110]] [([109], 1, [97]), ([110], 1, valueL at' [120])] 3) := by
  unfold lM
  rw [lines_step _ _ _ _ _ _ _ [] [] _ (stR at' [] [[109]] [([109], 1, [97])] 1) rfl (by show (0 : Nat) < 16384; decide) (line_plain _ _ _ _ _ _ (plain_one 97 (by unfold plainC; decide)) [] rfl)]
  rw [lines_step _ _ _ _ _ _ _ [] [] _ (stR at' [[120]] [[109], [110]] [([109], 1, [97]), ([110], 1, valueL at' [120])] 3) rfl (by show (1 : Nat) < 16384; decide) ((line_inc _ _ _ _ _ (part := [110]) (text := tN) _ (by decide) (by decide) (by decide) (by decide) find_n [] rfl).trans (congrArg (Prod.mk []) (read_n1 at')))]
theorem read_m1 (at' : List At) (fin : Rd) (h : linesR (readR srcs1 16 [[109]]) srcs1 [[109]] [109] [wIf ++ 32 :: [120], [98], wElse, [99], wEnd] 3 [] (stR at' [[120]] [[109], [110]] [([109], 1, [97]), ([110], 1, valueL at' [120])] 3) = ([], fin)) (hl : fin.long = false) :
    readR srcs1 17 [] [109] tM (stR at' [] [] [] 0) = fin := by
  have e : readR srcs1 17 [] [109] tM (stR at' [] [] [] 0) = if (linesR (readR srcs1 16 [[109]]) srcs1 [[109]] [109] (linesL tM) 1 [] (stR at' [] [[109]] [] 0)).2.long = true then (linesR (readR srcs1 16 [[109]]) srcs1 [[109]] [109] (linesL tM) 1 [] (stR at' [] [[109]] [] 0)).2 else (linesR (readR srcs1 16 [[109]]) srcs1 [[109]] [109] (linesL tM) 1 [] (stR at' [] [[109]] [] 0)).1.reverse.foldl (fun r c => r.tell [109] c.line 4 []) (linesR (readR srcs1 16 [[109]]) srcs1 [[109]] [109] (linesL tM) 1 [] (stR at' [] [[109]] [] 0)).2 := rfl
  rw [e, lM_is, head_one, h]
  simp only [hl, Bool.false_eq_true, if_false, List.reverse_nil, List.foldl_nil]
theorem alive_one : readR srcs1 17 [] [109] tM (stR [(bT [120], bT [49])] [] [] [] 0) = stR [(bT [120], bT [49])] [[120]] [[109], [110]] [([109], 1, [97]), ([110], 1, [49]), ([109], 4, [98])] 8 := by
  refine read_m1 _ _ ?_ rfl
  have hv : valueL [(bT [120], bT [49])] [120] = [49] := value_is _ _ _
  rw [hv]
  rw [lines_step _ _ _ _ _ _ _ [] [⟨3, true, false, false⟩] _ (stR [(bT [120], bT [49])] [[120]] [[109], [110]] [([109], 1, [97]), ([110], 1, [49])] 4) rfl (by show (3 : Nat) < 16384; decide) (line_if1 _ _ _ _ _ (name := [120]) (v := [49]) _ (by decide) rfl)]
  rw [lines_step _ _ _ _ _ _ _ [⟨3, true, false, false⟩] [⟨3, true, false, false⟩] _ (stR [(bT [120], bT [49])] [[120]] [[109], [110]] [([109], 1, [97]), ([110], 1, [49]), ([109], 4, [98])] 5) rfl (by show (4 : Nat) < 16384; decide) (line_plain _ _ _ _ _ _ (plain_one 98 (by unfold plainC; decide)) _ rfl)]
  rw [lines_step _ _ _ _ _ _ _ [⟨3, true, false, false⟩] [⟨3, true, false, true⟩] _ (stR [(bT [120], bT [49])] [[120]] [[109], [110]] [([109], 1, [97]), ([110], 1, [49]), ([109], 4, [98])] 6) rfl (by show (5 : Nat) < 16384; decide) (line_else _ _ _ _ _ _ rfl _ _)]
  rw [lines_step _ _ _ _ _ _ _ [⟨3, true, false, true⟩] [⟨3, true, false, true⟩] _ (stR [(bT [120], bT [49])] [[120]] [[109], [110]] [([109], 1, [97]), ([110], 1, [49]), ([109], 4, [98])] 7) rfl (by show (6 : Nat) < 16384; decide) (line_off _ _ _ _ _ _ ⟨by decide, by decide, by decide⟩ _ rfl)]
  rw [lines_step _ _ _ _ _ _ _ [⟨3, true, false, true⟩] [] _ (stR [(bT [120], bT [49])] [[120]] [[109], [110]] [([109], 1, [97]), ([110], 1, [49]), ([109], 4, [98])] 8) rfl (by show (7 : Nat) < 16384; decide) (line_end _ _ _ _ _ _ _ _)]
  rfl
theorem alive_two : readR srcs1 17 [] [109] tM (stR [] [] [] [] 0) = stR [] [[120]] [[109], [110]] [([109], 1, [97]), ([110], 1, [123, 120, 125]), ([109], 6, [99])] 8 := by
  refine read_m1 _ _ ?_ rfl
  have hv : valueL [] [120] = [123, 120, 125] := rfl
  rw [hv]
  rw [lines_step _ _ _ _ _ _ _ [] [⟨3, false, true, false⟩] _ (stR [] [[120]] [[109], [110]] [([109], 1, [97]), ([110], 1, [123, 120, 125])] 4) rfl (by show (3 : Nat) < 16384; decide) (line_if _ _ _ _ _ (name := [120]) _ (by decide) rfl)]
  rw [lines_step _ _ _ _ _ _ _ [⟨3, false, true, false⟩] [⟨3, false, true, false⟩] _ (stR [] [[120]] [[109], [110]] [([109], 1, [97]), ([110], 1, [123, 120, 125])] 5) rfl (by show (4 : Nat) < 16384; decide) (line_off _ _ _ _ _ _ ⟨by decide, by decide, by decide⟩ _ rfl)]
  rw [lines_step _ _ _ _ _ _ _ [⟨3, false, true, false⟩] [⟨3, false, true, true⟩] _ (stR [] [[120]] [[109], [110]] [([109], 1, [97]), ([110], 1, [123, 120, 125])] 6) rfl (by show (5 : Nat) < 16384; decide) (line_else _ _ _ _ _ _ rfl _ _)]
  rw [lines_step _ _ _ _ _ _ _ [⟨3, false, true, true⟩] [⟨3, false, true, true⟩] _ (stR [] [[120]] [[109], [110]] [([109], 1, [97]), ([110], 1, [123, 120, 125]), ([109], 6, [99])] 7) rfl (by show (6 : Nat) < 16384; decide) (line_plain _ _ _ _ _ _ (plain_one 99 (by unfold plainC; decide)) _ rfl)]
  rw [lines_step _ _ _ _ _ _ _ [⟨3, false, true, true⟩] [] _ (stR [] [[120]] [[109], [110]] [([109], 1, [97]), ([110], 1, [123, 120, 125]), ([109], 6, [99])] 8) rfl (by show (7 : Nat) < 16384; decide) (line_end _ _ _ _ _ _ _ _)]
  rfl
def tF : List UInt8 := (wInclude ++ [32, 109]) ++ 10 :: ([64, 102, 111, 111] ++ 10 :: (wEnd ++ 10 :: (wIf ++ [32, 120])))
def srcs2 : List At := [(bT [109], bT tF)]
theorem lF_is : linesL tF = [wInclude ++ [32, 109], [64, 102, 111, 111], wEnd, wIf ++ 32 :: [120]] := by decide
def stF (asked : List (List UInt8)) (diags : List Dg) (n : Nat) : Rd := ⟨[], [], asked, [[109]], [], diags, n, false⟩
theorem alive_three : readR srcs2 17 [] [109] tF (stR [] [] [] [] 0) = stF [[120]] [([109], 1, 2, [109]), ([109], 2, 3, [64, 102, 111, 111]), ([109], 3, 4, wEnd), ([109], 4, 4, [])] 4 := by
  have e : readR srcs2 17 [] [109] tF (stR [] [] [] [] 0) = if (linesR (readR srcs2 16 [[109]]) srcs2 [[109]] [109] (linesL tF) 1 [] (stF [] [] 0)).2.long = true then (linesR (readR srcs2 16 [[109]]) srcs2 [[109]] [109] (linesL tF) 1 [] (stF [] [] 0)).2 else (linesR (readR srcs2 16 [[109]]) srcs2 [[109]] [109] (linesL tF) 1 [] (stF [] [] 0)).1.reverse.foldl (fun r c => r.tell [109] c.line 4 []) (linesR (readR srcs2 16 [[109]]) srcs2 [[109]] [109] (linesL tF) 1 [] (stF [] [] 0)).2 := rfl
  have h : linesR (readR srcs2 16 [[109]]) srcs2 [[109]] [109] (linesL tF) 1 [] (stF [] [] 0) = ([⟨4, false, true, false⟩], stF [[120]] [([109], 1, 2, [109]), ([109], 2, 3, [64, 102, 111, 111]), ([109], 3, 4, wEnd)] 4) := by
    rw [lF_is]
    rw [lines_step _ _ _ _ _ _ _ [] [] _ (stF [] [([109], 1, 2, [109])] 1) rfl (by show (0 : Nat) < 16384; decide) (by rfl)]
    rw [lines_step _ _ _ _ _ _ _ [] [] _ (stF [] [([109], 1, 2, [109]), ([109], 2, 3, [64, 102, 111, 111])] 2) rfl (by show (1 : Nat) < 16384; decide) (by rfl)]
    rw [lines_step _ _ _ _ _ _ _ [] [] _ (stF [] [([109], 1, 2, [109]), ([109], 2, 3, [64, 102, 111, 111]), ([109], 3, 4, wEnd)] 3) rfl (by show (2 : Nat) < 16384; decide) (by rfl)]
    rw [lines_step _ _ _ _ _ _ _ [] [⟨4, false, true, false⟩] _ (stF [[120]] [([109], 1, 2, [109]), ([109], 2, 3, [64, 102, 111, 111]), ([109], 3, 4, wEnd)] 4) rfl (by show (3 : Nat) < 16384; decide) (line_if _ _ _ _ _ (name := [120]) _ (by decide) rfl)]
    rfl
  rw [e, h]
  rfl
end Go.Proofs.YtnbnlehkljkabaaGreatDoor
