/- InclL. -/
import Derived.Test.YtnbnlehkljkabaaGreatDoorU8
import Derived.Test.YtnbnlehkljkabaaGreatDoorVAliveL
namespace Go.Proofs.YtnbnlehkljkabaaGreatDoor
open Go.RowKit
set_option maxRecDepth 100000

/-! ### AheadIncludes: the whole of the Read -/
def incSrcs (s : List UInt8) (n : Nat) : List At := [(bT [109], bT (incText (n + 1))), (bT txPart, bT s)]
def incLines (s : List UInt8) (n : Nat) : List Ln := ([109], 1, txFirst) :: ((List.replicate (n + 1) (numL txPart 1 (linesL s))).flatten ++ [([109], n + 3, txLast)])
theorem inc_find1 (s : List UInt8) (n : Nat) : findL (incSrcs s n) [109] = some (incText (n + 1)) := by unfold findL getL incSrcs; simp [bT_list]
theorem readR_inc (s : List UInt8) (n : Nat) (hn : n + 1 ≤ 5) (hs : s.length ≤ 300) (h : PlainL s) :
    ∃ cnt, readR (incSrcs s n) 17 [] [109] (incText (n + 1)) (stR [] [] [] [] 0) = ⟨[], [], [], [[109], txPart], incLines s n, [], cnt, false⟩ := by
  have hlen : (linesL s).length ≤ 301 := by have := lines_len [] s; unfold linesL; omega
  have hl : linesL (incText (n + 1)) = txFirst :: (wInclude ++ 32 :: txPart) :: (List.replicate n (wInclude ++ 32 :: txPart) ++ [txLast]) := by
    unfold linesL incText
    rw [lines_cons _ _ (by decide), lines_rep _ _ (by decide), List.replicate_succ]
    have e3 : linesF [] txLast = [txLast] := by decide
    rw [e3]; rfl
  have hf2 : findL (incSrcs s n) txPart = some s := by
    unfold findL getL incSrcs
    have e : ((bT [109]).toList == (bT txPart).toList) = false := by rw [Lib.toList_data, Lib.toList_data, bT_list, bT_list]; decide
    simp [e, bT_list]
  have hsol : ∀ c ∈ txPart, blankB c = false := by decide
  have hck : checkB txPart = true := by decide
  have hmul : n * (1 + (linesL s).length) ≤ 4 * 302 := Nat.mul_le_mul (by omega) (by omega)
  unfold stR incLines
  refine ⟨1 + 1 + (linesL s).length + n * (1 + (linesL s).length) + 1, ?_⟩
  conv => lhs; unfold readR
  simp only [List.not_mem_nil, if_false, hl, List.nil_append]
  rw [lines_step _ _ _ _ _ _ _ _ _ _ _ rfl (by simp only; omega) (line_plain _ _ _ _ _ _ (by unfold PlainL plainC; decide) [] rfl)]
  rw [lines_step _ _ _ _ _ _ _ _ _ _ _ rfl (by simp only; omega) (line_inc _ _ _ _ _ _ hsol hck (by decide) (by decide) hf2 [] rfl)]
  rw [read_plain _ 15 _ txPart s]
  · rw [incs_read 15 _ _ _ hsol hck (by decide) (by decide) hf2 h]
    · rw [lines_step _ _ _ _ _ _ _ _ _ _ _ rfl (by simp only; omega) (line_plain _ _ _ _ _ _ (by unfold PlainL plainC; decide) [] rfl)]
      simp [linesR, List.replicate_succ, txPart]
      omega
    · simp [txPart]
    · rfl
    · simp only; omega
  · exact h
  · rfl
  · simp only; omega
end Go.Proofs.YtnbnlehkljkabaaGreatDoor
