/-
  DERIVED. GIVEN WITH THE SEED: THE CARDS: each row of YtjmfelnajfdldaaDoorRows.lean that lists a variable, with what it lists TIED to the program's text (the seventh form; the later family's looks); each row that meets fmt, with fmt's text TOLD by the authors' own Lean function (tested against real Go, not proved from fmt's source: count such statements apart). THE CARD IS WHAT COUNTS. Prove the row's statement (the work); the ties are given (YtjmfelnajfdldaaDoorTie.lean); close each card by the builder's one call (the guide's Derived/Test/ToyasCard.lean, 'card_holds'). Laid BY PROGRAM, IN A SANDBOX (cutbox-door.mjs). By AI agents, Wed Nov 11 2026. No macro, syntax, notation, axiom, sorry.
-/
import Derived.Test.YtjmfelnajfdldaaDoorRows
import GoSem.ClaimSeven
namespace Go.Proofs.YtjmfelnajfdldaaDoor
namespace Rows

/-- THE TIED CARD OF 'binderylaw02.PathsChecks'. -/
def pathsChecksCard : Claim7 := { stood := { row := pathsChecksRow, standIns := [], harness := (true, "a6367957aeac32073b133583b029c19f786c9cda172b94d4ea67045a52c823d1"), looks := false }, kinds := [], alts := [], laidByText := true, laidKinds := [.data, .pinned], laidTests := true, laidLooks := .later }
def PathsChecksCardSaid : Prop := Claim7.holds Tryd.pinned (.plain (OpenSpec.ofChange pathsChecksSpec)) pathsChecksCard

/-- THE TIED CARD OF 'binderylaw02.PathsJoins'. -/
def pathsJoinsCard : Claim7 := { stood := { row := pathsJoinsRow, standIns := [], harness := (true, "a6367957aeac32073b133583b029c19f786c9cda172b94d4ea67045a52c823d1"), looks := false }, kinds := [], alts := [], laidByText := true, laidKinds := [.data, .pinned], laidTests := true, laidLooks := .later }
def PathsJoinsCardSaid : Prop := Claim7.holds Tryd.pinned (.plain (OpenSpec.ofChange pathsJoinsSpec)) pathsJoinsCard

/-- THE TIED CARD OF 'binderylaw02.PathsBytes'. -/
def pathsBytesCard : Claim7 := { stood := { row := pathsBytesRow, standIns := [], harness := (true, "a6367957aeac32073b133583b029c19f786c9cda172b94d4ea67045a52c823d1"), looks := false }, kinds := [], alts := [], laidByText := true, laidKinds := [.data, .pinned], laidTests := true, laidLooks := .later }
def PathsBytesCardSaid : Prop := Claim7.holds Tryd.pinned (.plain (OpenSpec.ofChange pathsBytesSpec)) pathsBytesCard

/-- THE TIED CARD OF 'binderylaw02.PathsUnlike'. -/
def pathsUnlikeCard : Claim7 := { stood := { row := pathsUnlikeRow, standIns := [], harness := (true, "a6367957aeac32073b133583b029c19f786c9cda172b94d4ea67045a52c823d1"), looks := false }, kinds := [], alts := [], laidByText := true, laidKinds := [.data, .pinned], laidTests := true, laidLooks := .later }
def PathsUnlikeCardSaid : Prop := Claim7.holds Tryd.pinned (.plain (OpenSpec.ofChange pathsUnlikeSpec)) pathsUnlikeCard

/-- THE SECOND FORM's CARD OF 'binderylaw02.PathsChecks'. -/
def pathsChecksUptoCard : Claim7 := { stood := { row := pathsChecksUptoRow, standIns := [], harness := (true, "a6367957aeac32073b133583b029c19f786c9cda172b94d4ea67045a52c823d1"), looks := false }, kinds := [], alts := [], laidByText := true, laidKinds := [.data, .pinned], laidTests := true, laidLooks := .later }
def PathsChecksUptoCardSaid : Prop := Claim7.holds Tryd.pinned (.plain (OpenSpec.upto pathsChecksSpec)) pathsChecksUptoCard

/-- THE SECOND FORM's CARD OF 'binderylaw02.PathsJoins'. -/
def pathsJoinsUptoCard : Claim7 := { stood := { row := pathsJoinsUptoRow, standIns := [], harness := (true, "a6367957aeac32073b133583b029c19f786c9cda172b94d4ea67045a52c823d1"), looks := false }, kinds := [], alts := [], laidByText := true, laidKinds := [.data, .pinned], laidTests := true, laidLooks := .later }
def PathsJoinsUptoCardSaid : Prop := Claim7.holds Tryd.pinned (.plain (OpenSpec.upto pathsJoinsSpec)) pathsJoinsUptoCard

/-- THE SECOND FORM's CARD OF 'binderylaw02.PathsBytes'. -/
def pathsBytesUptoCard : Claim7 := { stood := { row := pathsBytesUptoRow, standIns := [], harness := (true, "a6367957aeac32073b133583b029c19f786c9cda172b94d4ea67045a52c823d1"), looks := false }, kinds := [], alts := [], laidByText := true, laidKinds := [.data, .pinned], laidTests := true, laidLooks := .later }
def PathsBytesUptoCardSaid : Prop := Claim7.holds Tryd.pinned (.plain (OpenSpec.upto pathsBytesSpec)) pathsBytesUptoCard

/-- THE SECOND FORM's CARD OF 'binderylaw02.PathsUnlike'. -/
def pathsUnlikeUptoCard : Claim7 := { stood := { row := pathsUnlikeUptoRow, standIns := [], harness := (true, "a6367957aeac32073b133583b029c19f786c9cda172b94d4ea67045a52c823d1"), looks := false }, kinds := [], alts := [], laidByText := true, laidKinds := [.data, .pinned], laidTests := true, laidLooks := .later }
def PathsUnlikeUptoCardSaid : Prop := Claim7.holds Tryd.pinned (.plain (OpenSpec.upto pathsUnlikeSpec)) pathsUnlikeUptoCard
end Rows
end Go.Proofs.YtjmfelnajfdldaaDoor
