/- Merged: AliveL, OffL, SetsL. -/
import Derived.Test.YtnbnlehkljkabaaGreatDoorU8
namespace Go.Proofs.YtnbnlehkljkabaaGreatDoor
open Go.RowKit
set_option maxRecDepth 100000

/-! ### the three books that are read ahead of each law -/
def tM : List UInt8 := [97] ++ 10 :: ((wInclude ++ [32, 110]) ++ 10 :: ((wIf ++ [32, 120]) ++ 10 :: ([98] ++ 10 :: (wElse ++ 10 :: ([99] ++ 10 :: (wEnd ++ [10]))))))
def tN : List UInt8 := [123, 120, 125]
def srcs1 : List At := [(bT [109], bT tM), (bT [110], bT tN)]
def lM : List (List UInt8) := [[97], wInclude ++ [32, 110], wIf ++ [32, 120], [98], wElse, [99], wEnd]
theorem lM_is : linesL tM = lM := by decide
theorem lN_is : linesL tN = [[123, 120, 125]] := by decide
theorem find_cons (a t n : List UInt8) (l : List At) : findL ((bT a, bT t) :: l) n = if a = n then some t else findL l n := by
  unfold findL getL
  rw [List.find?_cons]
  by_cases h : a = n
  · subst h; simp [bT_list]
  · rw [if_neg h]
    have : ((bT a).toList == (bT n).toList) = false := by rw [beq_eq_false_iff_ne, Go.ByteArray.toList_eq, Go.ByteArray.toList_eq]; exact h
    simp only [this]
theorem find_m : findL srcs1 [109] = some tM := by unfold srcs1; rw [find_cons, if_pos rfl]
theorem find_n : findL srcs1 [110] = some tN := by unfold srcs1; rw [find_cons, if_neg (by decide), find_cons, if_pos rfl]
theorem ask_one {n v : List UInt8} (h : nameB n = true) : askL [(bT n, bT v)] n = some (n, true) := by
  have hr : runL n = n.length := run_end _ (name_all h)
  cases n with
  | nil => exact absurd h (by decide)
  | cons c t =>
    have hc : ¬ c = 33 := by
      intro e; subst e
      have := List.all_eq_true.1 (name_all h) 33 (List.mem_cons_self ..)
      exact absurd this (by decide)
    unfold askL
    simp only [if_neg hc]
    unfold askN
    rw [hr, List.take_length, List.drop_length, if_neg (by rw [h]; decide)]
    simp [getL]
    rfl
theorem line_if1 (rec : List UInt8 → List UInt8 → Rd → Rd) (srcs : List At) (opn : List (List UInt8)) (file : List UInt8) (no : Nat) {name v : List UInt8} (r : Rd) (hn : nameB name = true) (ha : r.attrs = [(bT name, bT v)]) :
    lineL rec srcs opn file no (wIf ++ 32 :: name) [] r = ([⟨no, true, false, false⟩], r.ask name) := by
  unfold lineL
  rw [cut_name (by decide) (name_solid hn)]
  simp only [if_true]
  unfold beginsL
  rw [if_pos (show forceL [] = true from rfl), ha, ask_one hn]
  simp
theorem line_else (rec : List UInt8 → List UInt8 → Rd → Rd) (srcs : List At) (opn : List (List UInt8)) (file : List UInt8) (no : Nat) (c : CondP) (hc : c.else1 = false) (cs : List CondP) (r : Rd) :
    lineL rec srcs opn file no wElse (c :: cs) r = ({ c with else1 := true } :: cs, r) := by
  unfold lineL
  rw [cut_word (by decide)]
  simp only [show ¬ wElse = wIf from by decide, if_false, if_true, hc, Bool.false_eq_true]
/-- the source that is taken in -/
theorem read_n (d : Nat) (opn : List (List UInt8)) (r : Rd) (hl : r.long = false) (hc : r.count < 16384) (hf : [110] ∉ r.files) :
    readR srcs1 (d + 1) opn [110] tN r = { ({ r with files := r.files ++ [[110]], count := r.count + 1 } : Rd).ask [120] with lines := (({ r with files := r.files ++ [[110]], count := r.count + 1 } : Rd).ask [120]).lines ++ [([110], 1, valueL r.attrs [120])] } := by
  have h1 := lines_step (readR srcs1 d (opn ++ [[110]])) srcs1 (opn ++ [[110]]) [110] [123, 120, 125] [] 1 [] [] ({ r with files := r.files ++ [[110]] }) _ hl hc (line_brace _ _ _ _ _ (n := [120]) _ (by decide) [] rfl)
  unfold readR
  simp only [lN_is, if_neg hf]
  rw [h1]
  unfold linesR
  have hlg : (({ r with files := r.files ++ [[110]], count := r.count + 1 } : Rd).ask [120]).long = false := by unfold Rd.ask; split <;> exact hl
  simp only [hlg, Bool.false_eq_true, if_false, List.reverse_nil, List.foldl_nil]

theorem plain_one (c : UInt8) (h : plainC c) : PlainL [c] := fun x hx => by simp only [List.mem_singleton] at hx; subst hx; exact h
/-- the Read, as it goes -/
def stR (at' : List At) (asked files : List (List UInt8)) (lines : List Ln) (n : Nat) : Rd := ⟨at', [], asked, files, lines, [], n, false⟩
theorem read_n1 (at' : List At) : readR srcs1 16 [[109]] [110] tN (stR at' [] [[109]] [([109], 1, [97])] 2) = stR at' [[120]] [[109], [110]] [([109], 1, [97]), ([110], 1, valueL at' [120])] 3 := by
  rw [read_n 15 [[109]] _ rfl (by show (2 : Nat) < 16384; decide) (by show [110] ∉ [[109]]; decide)]; rfl
theorem head_one (at' : List At) : linesR (readR srcs1 16 [[109]]) srcs1 [[109]] [109] lM 1 [] (stR at' [] [[109]] [] 0) = linesR (readR srcs1 16 [[109]]) srcs1 [[109]] [109] [wIf ++ 32 :: [120], [98], wElse, [99], wEnd] 3 [] (stR at' [[120]] [[109], [110]] [([109], 1, [97]), ([110], 1, valueL at' [120])] 3) := by
  unfold lM
  rw [lines_step _ _ _ _ _ _ _ [] [] _ (stR at' [] [[109]] [([109], 1, [97])] 1) rfl (by show (0 : Nat) < 16384; decide) (line_plain _ _ _ _ _ _ (plain_one 97 (by unfold plainC; decide)) [] rfl)]
  rw [lines_step _ _ _ _ _ _ _ [] [] _ (stR at' [[120]] [[109], [110]] [([109], 1, [97]), ([110], 1, valueL at' [120])] 3) rfl (by show (1 : Nat) < 16384; decide) ((line_inc _ _ _ _ _ (part := [110]) (text := tN) _ (by decide) (by decide) (by decide) (by decide) find_n [] rfl).trans (congrArg (Prod.mk []) (read_n1 at')))]
theorem read_m1 (at' : List At) (fin : Rd) (h : linesR (readR srcs1 16 [[109]]) srcs1 [[109]] [109] [wIf ++ 32 :: [120], [98], wElse, [99], wEnd] 3 [] (stR at' [[120]] [[109], [110]] [([109], 1, [97]), ([110], 1, valueL at' [120])] 3) = ([], fin)) (hl : fin.long = false) :
    readR srcs1 17 [] [109] tM (stR at' [] [] [] 0) = fin := by
  have e : readR srcs1 17 [] [109] tM (stR at' [] [] [] 0) = if (linesR (readR srcs1 16 [[109]]) srcs1 [[109]] [109] (linesL tM) 1 [] (stR at' [] [[109]] [] 0)).2.long = true then (linesR (readR srcs1 16 [[109]]) srcs1 [[109]] [109] (linesL tM) 1 [] (stR at' [] [[109]] [] 0)).2 else (linesR (readR srcs1 16 [[109]]) srcs1 [[109]] [109] (linesL tM) 1 [] (stR at' [] [[109]] [] 0)).1.reverse.foldl (fun r c => r.tell [109] c.line 4 []) (linesR (readR srcs1 16 [[109]]) srcs1 [[109]] [109] (linesL tM) 1 [] (stR at' [] [[109]] [] 0)).2 := rfl
  rw [e, lM_is, head_one, h]
  simp only [hl, Bool.false_eq_true, if_false, List.reverse_nil, List.foldl_nil]
theorem alive_one : readR srcs1 17 [] [109] tM (stR [(bT [120], bT [49])] [] [] [] 0) = stR [(bT [120], bT [49])] [[120]] [[109], [110]] [([109], 1, [97]), ([110], 1, [49]), ([109], 4, [98])] 8 := by
  refine read_m1 _ _ ?_ rfl
  have hv : valueL [(bT [120], bT [49])] [120] = [49] := value_is _ _ _
  rw [hv]
  rw [lines_step _ _ _ _ _ _ _ [] [⟨3, true, false, false⟩] _ (stR [(bT [120], bT [49])] [[120]] [[109], [110]] [([109], 1, [97]), ([110], 1, [49])] 4) rfl (by show (3 : Nat) < 16384; decide) (line_if1 _ _ _ _ _ (name := [120]) (v := [49]) _ (by decide) rfl)]
  rw [lines_step _ _ _ _ _ _ _ [⟨3, true, false, false⟩] [⟨3, true, false, false⟩] _ (stR [(bT [120], bT [49])] [[120]] [[109], [110]] [([109], 1, [97]), ([110], 1, [49]), ([109], 4, [98])] 5) rfl (by show (4 : Nat) < 16384; decide) (line_plain _ _ _ _ _ _ (plain_one 98 (by unfold plainC; decide)) _ rfl)]
  rw [lines_step _ _ _ _ _ _ _ [⟨3, true, false, false⟩] [⟨3, true, false, true⟩] _ (stR [(bT [120], bT [49])] [[120]] [[109], [110]] [([109], 1, [97]), ([110], 1, [49]), ([109], 4, [98])] 6) rfl (by show (5 : Nat) < 16384; decide) (line_else _ _ _ _ _ _ rfl _ _)]
  rw [lines_step _ _ _ _ _ _ _ [⟨3, true, false, true⟩] [⟨3, true, false, true⟩] _ (stR [(bT [120], bT [49])] [[120]] [[109], [110]] [([109], 1, [97]), ([110], 1, [49]), ([109], 4, [98])] 7) rfl (by show (6 : Nat) < 16384; decide) (line_off _ _ _ _ _ _ ⟨by decide, by decide, by decide⟩ _ rfl)]
  rw [lines_step _ _ _ _ _ _ _ [⟨3, true, false, true⟩] [] _ (stR [(bT [120], bT [49])] [[120]] [[109], [110]] [([109], 1, [97]), ([110], 1, [49]), ([109], 4, [98])] 8) rfl (by show (7 : Nat) < 16384; decide) (line_end _ _ _ _ _ _ _ _)]
  rfl
theorem alive_two : readR srcs1 17 [] [109] tM (stR [] [] [] [] 0) = stR [] [[120]] [[109], [110]] [([109], 1, [97]), ([110], 1, [123, 120, 125]), ([109], 6, [99])] 8 := by
  refine read_m1 _ _ ?_ rfl
  have hv : valueL [] [120] = [123, 120, 125] := rfl
  rw [hv]
  rw [lines_step _ _ _ _ _ _ _ [] [⟨3, false, true, false⟩] _ (stR [] [[120]] [[109], [110]] [([109], 1, [97]), ([110], 1, [123, 120, 125])] 4) rfl (by show (3 : Nat) < 16384; decide) (line_if _ _ _ _ _ (name := [120]) _ (by decide) rfl)]
  rw [lines_step _ _ _ _ _ _ _ [⟨3, false, true, false⟩] [⟨3, false, true, false⟩] _ (stR [] [[120]] [[109], [110]] [([109], 1, [97]), ([110], 1, [123, 120, 125])] 5) rfl (by show (4 : Nat) < 16384; decide) (line_off _ _ _ _ _ _ ⟨by decide, by decide, by decide⟩ _ rfl)]
  rw [lines_step _ _ _ _ _ _ _ [⟨3, false, true, false⟩] [⟨3, false, true, true⟩] _ (stR [] [[120]] [[109], [110]] [([109], 1, [97]), ([110], 1, [123, 120, 125])] 6) rfl (by show (5 : Nat) < 16384; decide) (line_else _ _ _ _ _ _ rfl _ _)]
  rw [lines_step _ _ _ _ _ _ _ [⟨3, false, true, true⟩] [⟨3, false, true, true⟩] _ (stR [] [[120]] [[109], [110]] [([109], 1, [97]), ([110], 1, [123, 120, 125]), ([109], 6, [99])] 7) rfl (by show (6 : Nat) < 16384; decide) (line_plain _ _ _ _ _ _ (plain_one 99 (by unfold plainC; decide)) _ rfl)]
  rw [lines_step _ _ _ _ _ _ _ [⟨3, false, true, true⟩] [] _ (stR [] [[120]] [[109], [110]] [([109], 1, [97]), ([110], 1, [123, 120, 125]), ([109], 6, [99])] 8) rfl (by show (7 : Nat) < 16384; decide) (line_end _ _ _ _ _ _ _ _)]
  rfl
def tF : List UInt8 := (wInclude ++ [32, 109]) ++ 10 :: ([64, 102, 111, 111] ++ 10 :: (wEnd ++ 10 :: (wIf ++ [32, 120])))
def srcs2 : List At := [(bT [109], bT tF)]
theorem lF_is : linesL tF = [wInclude ++ [32, 109], [64, 102, 111, 111], wEnd, wIf ++ 32 :: [120]] := by decide
def stF (asked : List (List UInt8)) (diags : List Dg) (n : Nat) : Rd := ⟨[], [], asked, [[109]], [], diags, n, false⟩
theorem alive_three : readR srcs2 17 [] [109] tF (stR [] [] [] [] 0) = stF [[120]] [([109], 1, 2, [109]), ([109], 2, 3, [64, 102, 111, 111]), ([109], 3, 4, wEnd), ([109], 4, 4, [])] 4 := by
  have e : readR srcs2 17 [] [109] tF (stR [] [] [] [] 0) = if (linesR (readR srcs2 16 [[109]]) srcs2 [[109]] [109] (linesL tF) 1 [] (stF [] [] 0)).2.long = true then (linesR (readR srcs2 16 [[109]]) srcs2 [[109]] [109] (linesL tF) 1 [] (stF [] [] 0)).2 else (linesR (readR srcs2 16 [[109]]) srcs2 [[109]] [109] (linesL tF) 1 [] (stF [] [] 0)).1.reverse.foldl (fun r c => r.tell [109] c.line 4 []) (linesR (readR srcs2 16 [[109]]) srcs2 [[109]] [109] (linesL tF) 1 [] (stF [] [] 0)).2 := rfl
  have h : linesR (readR srcs2 16 [[109]]) srcs2 [[109]] [109] (linesL tF) 1 [] (stF [] [] 0) = ([⟨4, false, true, false⟩], stF [[120]] [([109], 1, 2, [109]), ([109], 2, 3, [64, 102, 111, 111]), ([109], 3, 4, wEnd)] 4) := by
    rw [lF_is]
    rw [lines_step _ _ _ _ _ _ _ [] [] _ (stF [] [([109], 1, 2, [109])] 1) rfl (by show (0 : Nat) < 16384; decide) (by rfl)]
    rw [lines_step _ _ _ _ _ _ _ [] [] _ (stF [] [([109], 1, 2, [109]), ([109], 2, 3, [64, 102, 111, 111])] 2) rfl (by show (1 : Nat) < 16384; decide) (by rfl)]
    rw [lines_step _ _ _ _ _ _ _ [] [] _ (stF [] [([109], 1, 2, [109]), ([109], 2, 3, [64, 102, 111, 111]), ([109], 3, 4, wEnd)] 3) rfl (by show (2 : Nat) < 16384; decide) (by rfl)]
    rw [lines_step _ _ _ _ _ _ _ [] [⟨4, false, true, false⟩] _ (stF [[120]] [([109], 1, 2, [109]), ([109], 2, 3, [64, 102, 111, 111]), ([109], 3, 4, wEnd)] 4) rfl (by show (3 : Nat) < 16384; decide) (line_if _ _ _ _ _ (name := [120]) _ (by decide) rfl)]
    rfl
  rw [e, h]
  rfl
end Go.Proofs.YtnbnlehkljkabaaGreatDoor
namespace Go.Proofs.YtnbnlehkljkabaaGreatDoor
open Go.RowKit
set_option maxRecDepth 100000

/-! ### AheadOff: the whole of its Read -/
def offText (s name : List UInt8) : List UInt8 := wIf ++ 32 :: name ++ 10 :: (s ++ 10 :: (wEnd ++ 10 :: [120]))
theorem readR_off (s name : List UInt8) (hn : nameB name = true) (hs : s.length ≤ 3000) (h : ∀ x ∈ linesL s, offB x) :
    ∃ no l o cnt, readR [(bT [109], bT (offText s name))] 17 [] [109] (offText s name) ⟨if checkL [] = true then [] else [], [], [], [], [], [], 0, false⟩ = ⟨l, o, [name], [[109]], [([109], no, [120])], [], cnt, false⟩ := by
  have hsol := name_solid hn
  have hl : linesL (wIf ++ 32 :: name ++ 10 :: (s ++ 10 :: (wEnd ++ 10 :: [120]))) = (wIf ++ 32 :: name) :: (linesL (s ++ [10]) ++ [wEnd, [120]]) := by
    unfold linesL
    rw [lines_app, lines_app s, lines_app wEnd]
    have e1 : linesF [] (wIf ++ 32 :: name ++ [10]) = [wIf ++ 32 :: name] := by
      have h10 : ∀ c ∈ wIf ++ 32 :: name, ¬ c = 10 := by
        intro c hc
        rcases List.mem_append.1 hc with h1 | h1
        · exact (show ∀ c ∈ wIf, ¬ c = 10 by decide) c h1
        · rcases List.mem_cons.1 h1 with rfl | h1
          · decide
          · intro e; subst e
            exact absurd (List.all_eq_true.1 (name_all hn) 10 h1) (by decide)
      have gen : ∀ (a cur : List UInt8), (∀ c ∈ a, ¬ c = 10) → linesF cur (a ++ [10]) = [cur ++ a] := by
        intro a
        induction a with
        | nil => intro cur _; simp [linesF]
        | cons c a ih => intro cur ha; rw [List.cons_append, lines_more _ _ (ha c (List.mem_cons_self ..)), ih _ (fun x hx => ha x (List.mem_cons_of_mem _ hx))]; simp
      simpa using gen _ [] h10
    rw [e1]
    have e2 : linesF [] (wEnd ++ [10]) = [wEnd] := by decide
    have e3 : linesF [] [120] = [[120]] := by decide
    rw [e2, e3]; simp
  have hoff : ∀ x ∈ linesL (s ++ [10]), offB x := by
    by_cases h0 : s = []
    · subst h0; intro x hx
      have : x = [] := by simpa [linesL, linesF] using hx
      subst this; exact ⟨by decide, by decide, by decide⟩
    · by_cases h1 : s.getLast? = some 10
      · rw [lines_both h1]
        intro x hx
        rcases List.mem_append.1 hx with hx | hx
        · exact h x hx
        · have : x = [] := by simpa [linesL, linesF] using hx
          subst this; exact ⟨by decide, by decide, by decide⟩
      · intro x hx
        have e := lines_apart (t := []) h0 h1
        rw [e] at hx
        simp only [linesL, linesF, if_true, List.append_nil] at hx
        exact h x hx
  have hlen : (linesL (s ++ [10])).length ≤ 3002 := by
    have := lines_len [] (s ++ [10]); simp at this; unfold linesL; omega
  refine ⟨1 + 1 + (linesL (s ++ [10])).length + 1, ?_⟩
  unfold offText readR
  simp only [List.not_mem_nil, if_false, hl, List.nil_append, show (if checkL [] = true then ([] : List At) else []) = [] from by split <;> rfl]
  rw [lines_step _ _ _ _ _ _ _ _ _ _ _ rfl (by simp only; omega) (line_if _ _ _ _ _ _ hn rfl)]
  have hask : ∀ (c : Nat), Rd.ask ⟨[], [], [], [[109]], [], [], c, false⟩ name = ⟨[], [], [name], [[109]], [], [], c, false⟩ := fun c => by simp [Rd.ask, insL]
  simp only [hask]
  rw [lines_off _ _ _ _ _ rfl _ _ _ _ hoff rfl (by simp only; omega)]
  rw [lines_step _ _ _ _ _ _ _ _ _ _ _ rfl (by simp only; omega) (line_end _ _ _ _ _ _ _ _)]
  rw [lines_step _ _ _ _ _ _ _ _ _ _ _ rfl (by simp only; omega) (line_plain _ _ _ _ _ _ (by intro c hc; simp only [List.mem_singleton] at hc; subst hc; exact ⟨by decide, by decide, by decide⟩) [] rfl)]
  simp [linesR]
end Go.Proofs.YtnbnlehkljkabaaGreatDoor
namespace Go.Proofs.YtnbnlehkljkabaaGreatDoor
open Go.RowKit
set_option maxRecDepth 100000

/-! ### AheadSets: the whole of its two Reads -/
theorem readR_set (n v : List UInt8) (hn : nameB n = true) (hv : ValS v) :
    ∃ l o cnt, readR [(bT [109], bT (setText n v))] 17 [] [109] (setText n v) ⟨if checkL [(bT n, bT txWas)] = true then [(bT n, bT txWas)] else [], [], [], [], [], [], 0, false⟩ = ⟨l, o, [n], [[109]], [([109], 1, txWas), ([109], 3, v), ([109], 5, 123 :: (n ++ [125]))], [], cnt, false⟩ := by
  have hl : linesL (setText n v) = [123 :: (n ++ [125]), wSet ++ 32 :: (n ++ 32 :: v), 123 :: (n ++ [125]), wUnset ++ 32 :: n, 123 :: (n ++ [125])] := by
    unfold linesL setText
    rw [lines_cons _ _ (brace10 hn), lines_cons _ _ (set10 hn hv), lines_cons _ _ (brace10 hn), lines_cons _ _ (unset10 hn), lines_last _ (by simp) (brace10 hn)]
  unfold readR
  simp only [List.not_mem_nil, if_false, hl, List.nil_append, if_pos (check_one hn (show mayL txWas = true by decide))]
  rw [lines_step _ _ _ _ _ _ _ _ _ _ _ rfl (by simp only; omega) (line_brace _ _ _ _ _ _ hn [] rfl)]
  have hask : ∀ (l : List At) (c : Nat), Rd.ask ⟨l, [], [], [[109]], [], [], c, false⟩ n = ⟨l, [], [n], [[109]], [], [], c, false⟩ := fun l c => by simp [Rd.ask, insL]
  simp only [hask, value_is, List.nil_append]
  rw [lines_step _ _ _ _ _ _ _ _ _ _ _ rfl (by simp only; omega) (line_set _ _ _ _ _ _ hn hv [] rfl)]
  simp only [Rd.turn, turn_gone, List.append_nil, List.nil_append]
  rw [lines_step _ _ _ _ _ _ _ _ _ _ _ rfl (by simp only; omega) (line_brace _ _ _ _ _ _ hn [] rfl)]
  have hask2 : ∀ (l : List At) (a o : List (List UInt8)) (x : List Ln) (c : Nat), Rd.ask ⟨l, n :: o, a, [[109]], x, [], c, false⟩ n = ⟨l, n :: o, a, [[109]], x, [], c, false⟩ := fun l a o x c => by simp [Rd.ask]
  simp only [hask2, value_is]
  rw [lines_step _ _ _ _ _ _ _ _ _ _ _ rfl (by simp only; omega) (line_unset _ _ _ _ _ _ hn [] rfl)]
  simp only [Rd.turn, turn_gone, List.append_nil, List.nil_append, List.cons_append]
  rw [lines_step _ _ _ _ _ _ _ _ _ _ _ rfl (by simp only; omega) (line_brace _ _ _ _ _ _ hn [] rfl)]
  simp only [hask2, value_none]
  simp [linesR]
theorem readR_own (n v : List UInt8) (hn : nameB n = true) (hv : ValS v) :
    ∃ l o cnt, readR [(bT [109], bT (ownText n v))] 17 [] [109] (ownText n v) ⟨if checkL [] = true then [] else [], [], [], [], [], [], 0, false⟩ = ⟨l, o, [], [[109]], [([109], 2, v)], [], cnt, false⟩ := by
  have hl : linesL (ownText n v) = [wSet ++ 32 :: (n ++ 32 :: v), 123 :: (n ++ [125])] := by
    unfold linesL ownText
    rw [lines_cons _ _ (set10 hn hv), lines_last _ (by simp) (brace10 hn)]
  unfold readR
  simp only [List.not_mem_nil, if_false, hl, List.nil_append, show (if checkL [] = true then ([] : List At) else []) = [] from by split <;> rfl]
  rw [lines_step _ _ _ _ _ _ _ _ _ _ _ rfl (by simp only; omega) (line_set _ _ _ _ _ _ hn hv [] rfl)]
  simp only [Rd.turn, List.filter_nil, List.append_nil, List.nil_append]
  rw [lines_step _ _ _ _ _ _ _ _ _ _ _ rfl (by simp only; omega) (line_brace _ _ _ _ _ _ hn [] rfl)]
  have hask2 : ∀ (l : List At) (a o : List (List UInt8)) (x : List Ln) (c : Nat), Rd.ask ⟨l, n :: o, a, [[109]], x, [], c, false⟩ n = ⟨l, n :: o, a, [[109]], x, [], c, false⟩ := fun l a o x c => by simp [Rd.ask]
  simp only [hask2, value_is]
  simp [linesR]
/-- the byte at j may stand in a value of z bytes that AheadSets takes -/
def SetOk (z j : Nat) (c : UInt8) : Prop := 32 ≤ c.toNat ∧ c.toNat ≠ 127 ∧ c.toNat ≠ 123 ∧ (j = 0 → c.toNat ≠ 32) ∧ (j + 1 = z → c.toNat ≠ 32)
theorem no_blank {c : UInt8} (h : 32 ≤ c.toNat) (h2 : c.toNat ≠ 32) : blankB c = false := by
  unfold blankB
  have e1 : ¬ c = 32 := fun e => h2 (by rw [e]; rfl)
  have e2 : ¬ c = 9 := fun e => by rw [e] at h; exact absurd h (by decide)
  simp [e1, e2]
theorem vals_of {v : ByteArray} (h0 : 0 < v.size) (h1 : v.size ≤ 1024) (h : ∀ j (hj : j < v.size), SetOk v.size j v[j]) : ValS v.data.toList := by
  have hz : v.data.toList.length = v.size := by simp
  have hat : ∀ c ∈ v.data.toList, 32 ≤ c.toNat ∧ c.toNat ≠ 127 ∧ c.toNat ≠ 123 := fun c hc => by
    obtain ⟨j, hj, rfl⟩ := List.getElem_of_mem hc
    obtain ⟨a, b, d, -, -⟩ := h j (by omega)
    exact ⟨a, b, d⟩
  refine ⟨fun e => by rw [e] at hz; simp at hz; omega, by omega, fun c hc => ?_, fun c hc e => ?_, fun c hc => ?_, fun c hc => ?_⟩
  · obtain ⟨a, b, -⟩ := hat c hc
    unfold okB
    simp [a, b]
  · subst e; exact (hat 123 hc).2.2 rfl
  · rw [List.head?_eq_getElem?] at hc
    obtain ⟨hj, rfl⟩ := List.getElem?_eq_some_iff.1 hc
    obtain ⟨a, -, -, d, -⟩ := h 0 (by omega)
    exact no_blank a (d rfl)
  · rw [List.getLast?_eq_getElem?] at hc
    obtain ⟨hj, rfl⟩ := List.getElem?_eq_some_iff.1 hc
    obtain ⟨a, -, -, -, d⟩ := h (v.data.toList.length - 1) (by omega)
    exact no_blank a (d (by omega))
/-- the two texts, while they are put together -/
theorem set_made (n v : ByteArray) : ⟨#[123]⟩ ++ n ++ ⟨#[125, 10, 64, 115, 101, 116, 32]⟩ ++ n ++ ⟨#[32]⟩ ++ v ++ ⟨#[10, 123]⟩ ++ n ++ ⟨#[125, 10, 64, 117, 110, 115, 101, 116, 32]⟩ ++ n ++ ⟨#[10, 123]⟩ ++ n ++ ⟨#[125]⟩ = bT (setText n.data.toList v.data.toList) := by
  have same : ∀ {a b : ByteArray}, a.data.toList = b.data.toList → a = b := fun {a b} e => by rw [← bT_data a, ← bT_data b, e]
  apply same
  unfold setText
  simp [ByteArray.data_append, bT, wSet, wUnset]
theorem own_made (n v : ByteArray) : ⟨#[64, 115, 101, 116, 32]⟩ ++ n ++ ⟨#[32]⟩ ++ v ++ ⟨#[10, 123]⟩ ++ n ++ ⟨#[125]⟩ = bT (ownText n.data.toList v.data.toList) := by
  have same : ∀ {a b : ByteArray}, a.data.toList = b.data.toList → a = b := fun {a b} e => by rw [← bT_data a, ← bT_data b, e]
  apply same
  unfold ownText
  simp [ByteArray.data_append, bT, wSet]
theorem set_len (n v : List UInt8) : (setText n v).length = 5 * n.length + v.length + 23 := by
  unfold setText; simp [wSet, wUnset]; omega
theorem own_len (n v : List UInt8) : (ownText n v).length = 2 * n.length + v.length + 9 := by
  unfold ownText; simp [wSet]; omega
end Go.Proofs.YtnbnlehkljkabaaGreatDoor
