/-
  DERIVED. GIVEN WITH THE SEED: THE CARDS: each row of YtljkcdmcjbhgaaaGreatDoorRows.lean that lists a variable, with what it lists TIED to the program's text (the seventh form; the later family's looks); each row that meets fmt, with fmt's text TOLD by the authors' own Lean function (tested against real Go, not proved from fmt's source: count such statements apart). THE CARD IS WHAT COUNTS. Prove the row's statement (the work); the ties are given (YtljkcdmcjbhgaaaGreatDoorTie.lean); close each card by the builder's one call (the guide's Derived/Test/ToyasCard.lean, 'card_holds'). Laid BY PROGRAM, IN A SANDBOX (cutbox-door.mjs). By AI agents, Wed Nov 11 2026. No macro, syntax, notation, axiom, sorry.
-/
import Derived.Test.YtljkcdmcjbhgaaaGreatDoorRows
import GoSem.ClaimSeven
namespace Go.Proofs.YtljkcdmcjbhgaaaGreatDoor
namespace Rows

/-- THE TIED CARD OF 'binderylaw01.LettersWords'. -/
def lettersWordsCard : Claim7 := { stood := { row := lettersWordsRow, standIns := [], harness := (true, "d6dc9aac215d4c98bd8730d8056235e9170db37b847036ef7c630645883fdcc3"), looks := false }, kinds := [], alts := [], laidByText := true, laidKinds := [.data, .data, .data], laidTests := true, laidLooks := .later }
def LettersWordsCardSaid : Prop := Claim7.holds Tryz.pinned (.plain (OpenSpec.ofChange lettersWordsSpec)) lettersWordsCard

/-- THE SECOND FORM's CARD OF 'binderylaw01.LettersWords'. -/
def lettersWordsUptoCard : Claim7 := { stood := { row := lettersWordsUptoRow, standIns := [], harness := (true, "d6dc9aac215d4c98bd8730d8056235e9170db37b847036ef7c630645883fdcc3"), looks := false }, kinds := [], alts := [], laidByText := true, laidKinds := [.data, .data, .data], laidTests := true, laidLooks := .later }
def LettersWordsUptoCardSaid : Prop := Claim7.holds Tryz.pinned (.plain (OpenSpec.upto lettersWordsSpec)) lettersWordsUptoCard
end Rows
end Go.Proofs.YtljkcdmcjbhgaaaGreatDoor
