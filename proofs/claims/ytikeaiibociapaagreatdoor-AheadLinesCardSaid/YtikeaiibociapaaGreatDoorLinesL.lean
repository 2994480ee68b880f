import Derived.Test.YtikeaiibociapaaGreatDoorBt
namespace Go.Proofs.YtikeaiibociapaaGreatDoor

/-- what stands between the bytes 10, but the last one, if that is empty -/
def linesF : List UInt8 → List UInt8 → List (List UInt8)
  | cur, [] => if cur = [] then [] else [cur]
  | cur, c :: t => if c = 10 then cur :: linesF [] t else linesF (cur ++ [c]) t
def linesL (s : List UInt8) : List (List UInt8) := linesF [] s
theorem lines_end (cur : List UInt8) (t : List UInt8) : linesF cur (10 :: t) = cur :: linesF [] t := by simp [linesF]
theorem lines_more (cur : List UInt8) {c : UInt8} (t : List UInt8) (h : ¬ c = 10) : linesF cur (c :: t) = linesF (cur ++ [c]) t := by simp [linesF, h]
theorem lines_len : ∀ (cur s : List UInt8), (linesF cur s).length ≤ s.length + 1
  | cur, [] => by unfold linesF; split <;> simp
  | cur, c :: t => by
    unfold linesF
    split
    · have := lines_len [] t; simp; omega
    · have := lines_len (cur ++ [c]) t; simp; omega

end Go.Proofs.YtikeaiibociapaaGreatDoor
