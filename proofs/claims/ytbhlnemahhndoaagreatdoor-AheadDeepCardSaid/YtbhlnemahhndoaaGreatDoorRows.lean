/-
  NARROWER THAN 'FOR EVERY INPUT', by the rows' own cells (each row's printed sentence says how): CondsFills: laid · AheadLines: laid · AheadPlain: laid · AheadParts: laid · AheadDeep: laid · AheadOff: laid · AheadIncludes: laid · AheadSets: laid.
  DERIVED. THE GIVEN ROWS OF THIS SEAT. 8 by the template 'for every input the law returns true; each argument reads behind the call as it read before'; 0 by the template 'total and deterministic' (their statements: YtbhlnemahhndoaaGreatDoorTotals.lean).
  GIVEN WITH THE SEED: the statements are not yours to turn. If you find one false, say at which input.
  Laid BY PROGRAM, IN A SANDBOX (cutbox-rows.mjs): the forced cells as the released guide's own fill.sh prints them over the translation e4ac2c9a421c41a5… (all of the seat's roots in one cut). By AI agents, Wed Nov 11 2026. No macro, syntax, notation, axiom, sorry.
-/
import Derived.Test.YtbhlnemahhndoaaGreatDoorChecked
import GoSem.PinnedTables
import GoSem.Claim
import GoSem.ClaimJoined
import GoSem.ClaimMapViews
import Derived.JoinedTies
import Derived.KernelRfl
namespace Go.Proofs.YtbhlnemahhndoaaGreatDoor
/- THE CELL 'sum', in the pinned program and in every row, IS THE sha256 OF THE DUMP (.gsa) THAT YtbhlnemahhndoaaGreatDoorProg.lean LOADS. Nothing in Lean hashes anything: it is a label: what it is worth is what the hold of that sum in a sandbox is worth. -/
noncomputable def Tryz.pinned : Pinned := { name := "ytbhlnemahhndoaagreatdoor", sum := "e4ac2c9a421c41a5fe9ae761a7a96ae75c00cdf7e3a516f7cc950dae210dceaa", checked := Tryz.checked }
namespace Rows
def none {H : Type} : Left H := { results := [], args := [] }

/- WHAT THE LISTED PACKAGE-LEVEL VARIABLES READ AS WHEN THE CALL BEGINS. Each datum BY PROGRAM (the guide's laid-datum.mjs) off the statement by which the dump's own 'gosem.cut.vars' lays the variable. In a bare row this is a premise. The card (YtbhlnemahhndoaaGreatDoorCards.lean) ties it to the program's text. -/
def laid_math_bits_deBruijn32tab {H : Type} : DataW H := .agg [.lit (.int .u8 0), .lit (.int .u8 1), .lit (.int .u8 28), .lit (.int .u8 2), .lit (.int .u8 29), .lit (.int .u8 14), .lit (.int .u8 24), .lit (.int .u8 3), .lit (.int .u8 30), .lit (.int .u8 22), .lit (.int .u8 20), .lit (.int .u8 15), .lit (.int .u8 25), .lit (.int .u8 17), .lit (.int .u8 4), .lit (.int .u8 8), .lit (.int .u8 31), .lit (.int .u8 27), .lit (.int .u8 13), .lit (.int .u8 23), .lit (.int .u8 21), .lit (.int .u8 19), .lit (.int .u8 16), .lit (.int .u8 7), .lit (.int .u8 26), .lit (.int .u8 12), .lit (.int .u8 18), .lit (.int .u8 6), .lit (.int .u8 11), .lit (.int .u8 5), .lit (.int .u8 10), .lit (.int .u8 9)]
def laid_math_bits_deBruijn64tab {H : Type} : DataW H := .agg [.lit (.int .u8 0), .lit (.int .u8 1), .lit (.int .u8 56), .lit (.int .u8 2), .lit (.int .u8 57), .lit (.int .u8 49), .lit (.int .u8 28), .lit (.int .u8 3), .lit (.int .u8 61), .lit (.int .u8 58), .lit (.int .u8 42), .lit (.int .u8 50), .lit (.int .u8 38), .lit (.int .u8 29), .lit (.int .u8 17), .lit (.int .u8 4), .lit (.int .u8 62), .lit (.int .u8 47), .lit (.int .u8 59), .lit (.int .u8 36), .lit (.int .u8 45), .lit (.int .u8 43), .lit (.int .u8 51), .lit (.int .u8 22), .lit (.int .u8 53), .lit (.int .u8 39), .lit (.int .u8 33), .lit (.int .u8 30), .lit (.int .u8 24), .lit (.int .u8 18), .lit (.int .u8 12), .lit (.int .u8 5), .lit (.int .u8 63), .lit (.int .u8 55), .lit (.int .u8 48), .lit (.int .u8 27), .lit (.int .u8 60), .lit (.int .u8 41), .lit (.int .u8 37), .lit (.int .u8 16), .lit (.int .u8 46), .lit (.int .u8 35), .lit (.int .u8 44), .lit (.int .u8 21), .lit (.int .u8 52), .lit (.int .u8 32), .lit (.int .u8 23), .lit (.int .u8 11), .lit (.int .u8 54), .lit (.int .u8 26), .lit (.int .u8 40), .lit (.int .u8 15), .lit (.int .u8 34), .lit (.int .u8 20), .lit (.int .u8 31), .lit (.int .u8 10), .lit (.int .u8 25), .lit (.int .u8 14), .lit (.int .u8 19), .lit (.int .u8 9), .lit (.int .u8 13), .lit (.int .u8 8), .lit (.int .u8 7), .lit (.int .u8 6)]
def laid_internal_strconv_uint64pow10 {H : Type} : DataW H := .agg [.lit (.int .u64 1), .lit (.int .u64 10), .lit (.int .u64 100), .lit (.int .u64 1000), .lit (.int .u64 10000), .lit (.int .u64 100000), .lit (.int .u64 1000000), .lit (.int .u64 10000000), .lit (.int .u64 100000000), .lit (.int .u64 1000000000), .lit (.int .u64 10000000000), .lit (.int .u64 100000000000), .lit (.int .u64 1000000000000), .lit (.int .u64 10000000000000), .lit (.int .u64 100000000000000), .lit (.int .u64 1000000000000000), .lit (.int .u64 10000000000000000), .lit (.int .u64 100000000000000000), .lit (.int .u64 1000000000000000000), .lit (.int .u64 10000000000000000000)]
def laid_unicode_utf8_acceptRanges {H : Type} : DataW H := .agg [.agg [.lit (.int .u8 128), .lit (.int .u8 191)], .agg [.lit (.int .u8 160), .lit (.int .u8 191)], .agg [.lit (.int .u8 128), .lit (.int .u8 159)], .agg [.lit (.int .u8 144), .lit (.int .u8 191)], .agg [.lit (.int .u8 128), .lit (.int .u8 143)], .agg [.lit (.int .u8 0), .lit (.int .u8 0)], .agg [.lit (.int .u8 0), .lit (.int .u8 0)], .agg [.lit (.int .u8 0), .lit (.int .u8 0)], .agg [.lit (.int .u8 0), .lit (.int .u8 0)], .agg [.lit (.int .u8 0), .lit (.int .u8 0)], .agg [.lit (.int .u8 0), .lit (.int .u8 0)], .agg [.lit (.int .u8 0), .lit (.int .u8 0)], .agg [.lit (.int .u8 0), .lit (.int .u8 0)], .agg [.lit (.int .u8 0), .lit (.int .u8 0)], .agg [.lit (.int .u8 0), .lit (.int .u8 0)], .agg [.lit (.int .u8 0), .lit (.int .u8 0)]]
/-- One of Go's own tables, pinned by name: the form's constant. -/
def laid_unicode_utf8_first : DataW Unit := Go.Pinned.utf8First

/-- 'binderylaw04.CondsFills': WHATEVER THE INPUT: true; the input reads as it did. -/
def condsFillsSpec : ChangeSpec := { name := "condsFills", fn := fun _ => fun
  | [d1, d2] => { results := [.lit (.bool true)], args := [d1, d2] }
  | _ => none }
def condsFillsRow : OpenClaim := { program := "ytbhlnemahhndoaagreatdoor", sum := "e4ac2c9a421c41a5fe9ae761a7a96ae75c00cdf7e3a516f7cc950dae210dceaa", func := "bindery/binderylaw04.CondsFills", spec := "condsFills", inPlace := ["internal/bytealg.IndexByteString", "internal/bytealg.IndexString", "internal/abi.NoEscape"], named := ["internal/bytealg.MaxLen", "internal/strconv.uint64pow10", "math/bits.deBruijn32tab", "math/bits.deBruijn64tab"], apart := false, laid := [("math/bits.deBruijn32tab", laid_math_bits_deBruijn32tab), ("math/bits.deBruijn64tab", laid_math_bits_deBruijn64tab), ("internal/strconv.uint64pow10", laid_internal_strconv_uint64pow10)] }
def CondsFillsSaid : Prop := condsFillsRow.holds Tryz.pinned (OpenSpec.ofChange condsFillsSpec)

/-- ITS FALSE NEIGHBOUR: 'it returns false'. Refute it at one input. -/
def condsFillsWrong : ChangeSpec := { name := "condsFills", fn := fun _ => fun
  | [d1, d2] => { results := [.lit (.bool false)], args := [d1, d2] }
  | _ => none }
def CondsFillsWrongFalsely : Prop := condsFillsRow.holds Tryz.pinned (OpenSpec.ofChange condsFillsWrong)

/-- 'binderylaw05.AheadLines': WHATEVER THE INPUT: true; the input reads as it did. -/
def aheadLinesSpec : ChangeSpec := { name := "aheadLines", fn := fun _ => fun
  | [d1, d2, d3] => { results := [.lit (.bool true)], args := [d1, d2, d3] }
  | _ => none }
def aheadLinesRow : OpenClaim := { program := "ytbhlnemahhndoaagreatdoor", sum := "e4ac2c9a421c41a5fe9ae761a7a96ae75c00cdf7e3a516f7cc950dae210dceaa", func := "bindery/binderylaw05.AheadLines", spec := "aheadLines", inPlace := ["internal/bytealg.CountString", "internal/bytealg.IndexByteString", "internal/bytealg.IndexString"], unfollowed := true, recurses := true, named := ["unicode/utf8.first", "unicode/utf8.acceptRanges", "internal/bytealg.MaxLen", "internal/strconv.uint64pow10", "math/bits.deBruijn32tab", "math/bits.deBruijn64tab"], apart := false, laid := [("math/bits.deBruijn32tab", laid_math_bits_deBruijn32tab), ("math/bits.deBruijn64tab", laid_math_bits_deBruijn64tab), ("internal/strconv.uint64pow10", laid_internal_strconv_uint64pow10), ("unicode/utf8.acceptRanges", laid_unicode_utf8_acceptRanges), ("unicode/utf8.first", laid_unicode_utf8_first)] }
def AheadLinesSaid : Prop := aheadLinesRow.holds Tryz.pinned (OpenSpec.ofChange aheadLinesSpec)

/-- ITS FALSE NEIGHBOUR: 'it returns false'. Refute it at one input. -/
def aheadLinesWrong : ChangeSpec := { name := "aheadLines", fn := fun _ => fun
  | [d1, d2, d3] => { results := [.lit (.bool false)], args := [d1, d2, d3] }
  | _ => none }
def AheadLinesWrongFalsely : Prop := aheadLinesRow.holds Tryz.pinned (OpenSpec.ofChange aheadLinesWrong)

/-- 'binderylaw05.AheadPlain': WHATEVER THE INPUT: true; the input reads as it did. -/
def aheadPlainSpec : ChangeSpec := { name := "aheadPlain", fn := fun _ => fun
  | [d1, d2, d3] => { results := [.lit (.bool true)], args := [d1, d2, d3] }
  | _ => none }
def aheadPlainRow : OpenClaim := { program := "ytbhlnemahhndoaagreatdoor", sum := "e4ac2c9a421c41a5fe9ae761a7a96ae75c00cdf7e3a516f7cc950dae210dceaa", func := "bindery/binderylaw05.AheadPlain", spec := "aheadPlain", inPlace := ["internal/bytealg.IndexByteString", "internal/bytealg.IndexString", "internal/bytealg.CountString", "internal/abi.NoEscape"], unfollowed := true, recurses := true, named := ["internal/bytealg.MaxLen", "unicode/utf8.first", "unicode/utf8.acceptRanges"], apart := false, laid := [("unicode/utf8.acceptRanges", laid_unicode_utf8_acceptRanges), ("unicode/utf8.first", laid_unicode_utf8_first)] }
def AheadPlainSaid : Prop := aheadPlainRow.holds Tryz.pinned (OpenSpec.ofChange aheadPlainSpec)

/-- ITS FALSE NEIGHBOUR: 'it returns false'. Refute it at one input. -/
def aheadPlainWrong : ChangeSpec := { name := "aheadPlain", fn := fun _ => fun
  | [d1, d2, d3] => { results := [.lit (.bool false)], args := [d1, d2, d3] }
  | _ => none }
def AheadPlainWrongFalsely : Prop := aheadPlainRow.holds Tryz.pinned (OpenSpec.ofChange aheadPlainWrong)

/-- 'binderylaw05.AheadParts': WHATEVER THE INPUT: true; the input reads as it did. -/
def aheadPartsSpec : ChangeSpec := { name := "aheadParts", fn := fun _ => fun
  | [d1, d2] => { results := [.lit (.bool true)], args := [d1, d2] }
  | _ => none }
def aheadPartsRow : OpenClaim := { program := "ytbhlnemahhndoaagreatdoor", sum := "e4ac2c9a421c41a5fe9ae761a7a96ae75c00cdf7e3a516f7cc950dae210dceaa", func := "bindery/binderylaw05.AheadParts", spec := "aheadParts", inPlace := ["internal/bytealg.IndexByteString", "internal/bytealg.IndexString", "internal/bytealg.CountString", "internal/abi.NoEscape"], unfollowed := true, recurses := true, named := ["internal/bytealg.MaxLen", "unicode/utf8.first", "unicode/utf8.acceptRanges"], apart := false, laid := [("unicode/utf8.acceptRanges", laid_unicode_utf8_acceptRanges), ("unicode/utf8.first", laid_unicode_utf8_first)] }
def AheadPartsSaid : Prop := aheadPartsRow.holds Tryz.pinned (OpenSpec.ofChange aheadPartsSpec)

/-- ITS FALSE NEIGHBOUR: 'it returns false'. Refute it at one input. -/
def aheadPartsWrong : ChangeSpec := { name := "aheadParts", fn := fun _ => fun
  | [d1, d2] => { results := [.lit (.bool false)], args := [d1, d2] }
  | _ => none }
def AheadPartsWrongFalsely : Prop := aheadPartsRow.holds Tryz.pinned (OpenSpec.ofChange aheadPartsWrong)

/-- 'binderylaw05.AheadDeep': WHATEVER THE INPUT: true; the input reads as it did. -/
def aheadDeepSpec : ChangeSpec := { name := "aheadDeep", fn := fun _ => fun
  | [d1, d2] => { results := [.lit (.bool true)], args := [d1, d2] }
  | _ => none }
def aheadDeepRow : OpenClaim := { program := "ytbhlnemahhndoaagreatdoor", sum := "e4ac2c9a421c41a5fe9ae761a7a96ae75c00cdf7e3a516f7cc950dae210dceaa", func := "bindery/binderylaw05.AheadDeep", spec := "aheadDeep", inPlace := ["internal/bytealg.IndexByteString", "internal/bytealg.IndexString", "internal/bytealg.CountString", "internal/abi.NoEscape"], unfollowed := true, recurses := true, named := ["internal/bytealg.MaxLen", "unicode/utf8.first", "unicode/utf8.acceptRanges"], apart := false, laid := [("unicode/utf8.acceptRanges", laid_unicode_utf8_acceptRanges), ("unicode/utf8.first", laid_unicode_utf8_first)] }
def AheadDeepSaid : Prop := aheadDeepRow.holds Tryz.pinned (OpenSpec.ofChange aheadDeepSpec)

/-- ITS FALSE NEIGHBOUR: 'it returns false'. Refute it at one input. -/
def aheadDeepWrong : ChangeSpec := { name := "aheadDeep", fn := fun _ => fun
  | [d1, d2] => { results := [.lit (.bool false)], args := [d1, d2] }
  | _ => none }
def AheadDeepWrongFalsely : Prop := aheadDeepRow.holds Tryz.pinned (OpenSpec.ofChange aheadDeepWrong)

/-- 'binderylaw05.AheadOff': WHATEVER THE INPUT: true; the input reads as it did. -/
def aheadOffSpec : ChangeSpec := { name := "aheadOff", fn := fun _ => fun
  | [d1, d2] => { results := [.lit (.bool true)], args := [d1, d2] }
  | _ => none }
def aheadOffRow : OpenClaim := { program := "ytbhlnemahhndoaagreatdoor", sum := "e4ac2c9a421c41a5fe9ae761a7a96ae75c00cdf7e3a516f7cc950dae210dceaa", func := "bindery/binderylaw05.AheadOff", spec := "aheadOff", inPlace := ["internal/bytealg.IndexByteString", "internal/bytealg.IndexString", "internal/bytealg.CountString", "internal/abi.NoEscape"], unfollowed := true, recurses := true, named := ["internal/bytealg.MaxLen", "unicode/utf8.first", "unicode/utf8.acceptRanges"], apart := false, laid := [("unicode/utf8.acceptRanges", laid_unicode_utf8_acceptRanges), ("unicode/utf8.first", laid_unicode_utf8_first)] }
def AheadOffSaid : Prop := aheadOffRow.holds Tryz.pinned (OpenSpec.ofChange aheadOffSpec)

/-- ITS FALSE NEIGHBOUR: 'it returns false'. Refute it at one input. -/
def aheadOffWrong : ChangeSpec := { name := "aheadOff", fn := fun _ => fun
  | [d1, d2] => { results := [.lit (.bool false)], args := [d1, d2] }
  | _ => none }
def AheadOffWrongFalsely : Prop := aheadOffRow.holds Tryz.pinned (OpenSpec.ofChange aheadOffWrong)

/-- 'binderylaw05.AheadIncludes': WHATEVER THE INPUT: true; the input reads as it did. -/
def aheadIncludesSpec : ChangeSpec := { name := "aheadIncludes", fn := fun _ => fun
  | [d1, d2] => { results := [.lit (.bool true)], args := [d1, d2] }
  | _ => none }
def aheadIncludesRow : OpenClaim := { program := "ytbhlnemahhndoaagreatdoor", sum := "e4ac2c9a421c41a5fe9ae761a7a96ae75c00cdf7e3a516f7cc950dae210dceaa", func := "bindery/binderylaw05.AheadIncludes", spec := "aheadIncludes", inPlace := ["internal/bytealg.IndexByteString", "internal/bytealg.IndexString", "internal/bytealg.CountString", "internal/abi.NoEscape"], unfollowed := true, recurses := true, named := ["internal/bytealg.MaxLen", "unicode/utf8.first", "unicode/utf8.acceptRanges"], apart := false, laid := [("unicode/utf8.acceptRanges", laid_unicode_utf8_acceptRanges), ("unicode/utf8.first", laid_unicode_utf8_first)] }
def AheadIncludesSaid : Prop := aheadIncludesRow.holds Tryz.pinned (OpenSpec.ofChange aheadIncludesSpec)

/-- ITS FALSE NEIGHBOUR: 'it returns false'. Refute it at one input. -/
def aheadIncludesWrong : ChangeSpec := { name := "aheadIncludes", fn := fun _ => fun
  | [d1, d2] => { results := [.lit (.bool false)], args := [d1, d2] }
  | _ => none }
def AheadIncludesWrongFalsely : Prop := aheadIncludesRow.holds Tryz.pinned (OpenSpec.ofChange aheadIncludesWrong)

/-- 'binderylaw05.AheadSets': WHATEVER THE INPUT: true; the input reads as it did. -/
def aheadSetsSpec : ChangeSpec := { name := "aheadSets", fn := fun _ => fun
  | [d1, d2] => { results := [.lit (.bool true)], args := [d1, d2] }
  | _ => none }
def aheadSetsRow : OpenClaim := { program := "ytbhlnemahhndoaagreatdoor", sum := "e4ac2c9a421c41a5fe9ae761a7a96ae75c00cdf7e3a516f7cc950dae210dceaa", func := "bindery/binderylaw05.AheadSets", spec := "aheadSets", inPlace := ["internal/bytealg.IndexByteString", "internal/bytealg.IndexString", "internal/bytealg.CountString", "internal/abi.NoEscape"], unfollowed := true, recurses := true, named := ["internal/bytealg.MaxLen", "unicode/utf8.first", "unicode/utf8.acceptRanges"], apart := false, laid := [("unicode/utf8.acceptRanges", laid_unicode_utf8_acceptRanges), ("unicode/utf8.first", laid_unicode_utf8_first)] }
def AheadSetsSaid : Prop := aheadSetsRow.holds Tryz.pinned (OpenSpec.ofChange aheadSetsSpec)

/-- ITS FALSE NEIGHBOUR: 'it returns false'. Refute it at one input. -/
def aheadSetsWrong : ChangeSpec := { name := "aheadSets", fn := fun _ => fun
  | [d1, d2] => { results := [.lit (.bool false)], args := [d1, d2] }
  | _ => none }
def AheadSetsWrongFalsely : Prop := aheadSetsRow.holds Tryz.pinned (OpenSpec.ofChange aheadSetsWrong)

/- THE SECOND FORM. 'bulk': how many values and letters a reading holds, each counted each time it is reached (what is shared counts as often as it is met; a slice's spare places count too). A statement '..UptoSaid' is the law's where the arguments, and the package variables that the reading takes, are together of bulk at most 1048576: NARROWER than '..Said'. Prove '..Said' where nothing that the law and all that it calls make is longer than what came in: it says more and counts as full. Else prove '..UptoSaid'. A law counts once. -/
mutual
def uptoBulk {H : Type} : DataW H → Nat
  | .lit (.string bytes) => bytes.length + 1
  | .lit _ => 1
  | .nil => 1
  | .ptr d => uptoBulk d + 1
  | .slice elems spare => uptoBulkAll elems + uptoBulkAll spare + 1
  | .agg parts => uptoBulkAll parts + 1
  | .iface _ d => uptoBulk d + 1
  | .map entries => uptoBulkEntries entries + 1
  | .held _ => 1
def uptoBulkAll {H : Type} : List (DataW H) → Nat
  | [] => 0
  | d :: r => uptoBulk d + uptoBulkAll r
def uptoBulkEntries {H : Type} : List (Lit × DataW H) → Nat
  | [] => 0
  | x :: r => uptoBulkEntry x + uptoBulkEntries r
def uptoBulkEntry {H : Type} : Lit × DataW H → Nat
  | (.string bytes, d) => bytes.length + uptoBulk d + 1
  | (_, d) => uptoBulk d + 1
 end
def uptoSmall : (H : Type) → List (DataW H) → Bool := fun _ ds => decide (uptoBulkAll ds ≤ 1048576)
def OpenSpec.upto (s : _root_.Go.ChangeSpec) : _root_.Go.OpenSpec := { _root_.Go.OpenSpec.ofChange s with cond := some uptoSmall }

/-- 'binderylaw04.CondsFills', WHERE WHAT IT READS IS OF BULK AT MOST 1048576: true; the input reads as it did. -/
def condsFillsUptoRow : OpenClaim := { program := "ytbhlnemahhndoaagreatdoor", sum := "e4ac2c9a421c41a5fe9ae761a7a96ae75c00cdf7e3a516f7cc950dae210dceaa", func := "bindery/binderylaw04.CondsFills", spec := "condsFills", inPlace := ["internal/bytealg.IndexByteString", "internal/bytealg.IndexString", "internal/abi.NoEscape"], named := ["internal/bytealg.MaxLen", "internal/strconv.uint64pow10", "math/bits.deBruijn32tab", "math/bits.deBruijn64tab"], apart := false, laid := [("math/bits.deBruijn32tab", laid_math_bits_deBruijn32tab), ("math/bits.deBruijn64tab", laid_math_bits_deBruijn64tab), ("internal/strconv.uint64pow10", laid_internal_strconv_uint64pow10)], narrowed := true }
def CondsFillsUptoSaid : Prop := condsFillsUptoRow.holds Tryz.pinned (OpenSpec.upto condsFillsSpec)

/-- 'binderylaw05.AheadLines', WHERE WHAT IT READS IS OF BULK AT MOST 1048576: true; the input reads as it did. -/
def aheadLinesUptoRow : OpenClaim := { program := "ytbhlnemahhndoaagreatdoor", sum := "e4ac2c9a421c41a5fe9ae761a7a96ae75c00cdf7e3a516f7cc950dae210dceaa", func := "bindery/binderylaw05.AheadLines", spec := "aheadLines", inPlace := ["internal/bytealg.CountString", "internal/bytealg.IndexByteString", "internal/bytealg.IndexString"], unfollowed := true, recurses := true, named := ["unicode/utf8.first", "unicode/utf8.acceptRanges", "internal/bytealg.MaxLen", "internal/strconv.uint64pow10", "math/bits.deBruijn32tab", "math/bits.deBruijn64tab"], apart := false, laid := [("math/bits.deBruijn32tab", laid_math_bits_deBruijn32tab), ("math/bits.deBruijn64tab", laid_math_bits_deBruijn64tab), ("internal/strconv.uint64pow10", laid_internal_strconv_uint64pow10), ("unicode/utf8.acceptRanges", laid_unicode_utf8_acceptRanges), ("unicode/utf8.first", laid_unicode_utf8_first)], narrowed := true }
def AheadLinesUptoSaid : Prop := aheadLinesUptoRow.holds Tryz.pinned (OpenSpec.upto aheadLinesSpec)

/-- 'binderylaw05.AheadPlain', WHERE WHAT IT READS IS OF BULK AT MOST 1048576: true; the input reads as it did. -/
def aheadPlainUptoRow : OpenClaim := { program := "ytbhlnemahhndoaagreatdoor", sum := "e4ac2c9a421c41a5fe9ae761a7a96ae75c00cdf7e3a516f7cc950dae210dceaa", func := "bindery/binderylaw05.AheadPlain", spec := "aheadPlain", inPlace := ["internal/bytealg.IndexByteString", "internal/bytealg.IndexString", "internal/bytealg.CountString", "internal/abi.NoEscape"], unfollowed := true, recurses := true, named := ["internal/bytealg.MaxLen", "unicode/utf8.first", "unicode/utf8.acceptRanges"], apart := false, laid := [("unicode/utf8.acceptRanges", laid_unicode_utf8_acceptRanges), ("unicode/utf8.first", laid_unicode_utf8_first)], narrowed := true }
def AheadPlainUptoSaid : Prop := aheadPlainUptoRow.holds Tryz.pinned (OpenSpec.upto aheadPlainSpec)

/-- 'binderylaw05.AheadParts', WHERE WHAT IT READS IS OF BULK AT MOST 1048576: true; the input reads as it did. -/
def aheadPartsUptoRow : OpenClaim := { program := "ytbhlnemahhndoaagreatdoor", sum := "e4ac2c9a421c41a5fe9ae761a7a96ae75c00cdf7e3a516f7cc950dae210dceaa", func := "bindery/binderylaw05.AheadParts", spec := "aheadParts", inPlace := ["internal/bytealg.IndexByteString", "internal/bytealg.IndexString", "internal/bytealg.CountString", "internal/abi.NoEscape"], unfollowed := true, recurses := true, named := ["internal/bytealg.MaxLen", "unicode/utf8.first", "unicode/utf8.acceptRanges"], apart := false, laid := [("unicode/utf8.acceptRanges", laid_unicode_utf8_acceptRanges), ("unicode/utf8.first", laid_unicode_utf8_first)], narrowed := true }
def AheadPartsUptoSaid : Prop := aheadPartsUptoRow.holds Tryz.pinned (OpenSpec.upto aheadPartsSpec)

/-- 'binderylaw05.AheadDeep', WHERE WHAT IT READS IS OF BULK AT MOST 1048576: true; the input reads as it did. -/
def aheadDeepUptoRow : OpenClaim := { program := "ytbhlnemahhndoaagreatdoor", sum := "e4ac2c9a421c41a5fe9ae761a7a96ae75c00cdf7e3a516f7cc950dae210dceaa", func := "bindery/binderylaw05.AheadDeep", spec := "aheadDeep", inPlace := ["internal/bytealg.IndexByteString", "internal/bytealg.IndexString", "internal/bytealg.CountString", "internal/abi.NoEscape"], unfollowed := true, recurses := true, named := ["internal/bytealg.MaxLen", "unicode/utf8.first", "unicode/utf8.acceptRanges"], apart := false, laid := [("unicode/utf8.acceptRanges", laid_unicode_utf8_acceptRanges), ("unicode/utf8.first", laid_unicode_utf8_first)], narrowed := true }
def AheadDeepUptoSaid : Prop := aheadDeepUptoRow.holds Tryz.pinned (OpenSpec.upto aheadDeepSpec)

/-- 'binderylaw05.AheadOff', WHERE WHAT IT READS IS OF BULK AT MOST 1048576: true; the input reads as it did. -/
def aheadOffUptoRow : OpenClaim := { program := "ytbhlnemahhndoaagreatdoor", sum := "e4ac2c9a421c41a5fe9ae761a7a96ae75c00cdf7e3a516f7cc950dae210dceaa", func := "bindery/binderylaw05.AheadOff", spec := "aheadOff", inPlace := ["internal/bytealg.IndexByteString", "internal/bytealg.IndexString", "internal/bytealg.CountString", "internal/abi.NoEscape"], unfollowed := true, recurses := true, named := ["internal/bytealg.MaxLen", "unicode/utf8.first", "unicode/utf8.acceptRanges"], apart := false, laid := [("unicode/utf8.acceptRanges", laid_unicode_utf8_acceptRanges), ("unicode/utf8.first", laid_unicode_utf8_first)], narrowed := true }
def AheadOffUptoSaid : Prop := aheadOffUptoRow.holds Tryz.pinned (OpenSpec.upto aheadOffSpec)

/-- 'binderylaw05.AheadIncludes', WHERE WHAT IT READS IS OF BULK AT MOST 1048576: true; the input reads as it did. -/
def aheadIncludesUptoRow : OpenClaim := { program := "ytbhlnemahhndoaagreatdoor", sum := "e4ac2c9a421c41a5fe9ae761a7a96ae75c00cdf7e3a516f7cc950dae210dceaa", func := "bindery/binderylaw05.AheadIncludes", spec := "aheadIncludes", inPlace := ["internal/bytealg.IndexByteString", "internal/bytealg.IndexString", "internal/bytealg.CountString", "internal/abi.NoEscape"], unfollowed := true, recurses := true, named := ["internal/bytealg.MaxLen", "unicode/utf8.first", "unicode/utf8.acceptRanges"], apart := false, laid := [("unicode/utf8.acceptRanges", laid_unicode_utf8_acceptRanges), ("unicode/utf8.first", laid_unicode_utf8_first)], narrowed := true }
def AheadIncludesUptoSaid : Prop := aheadIncludesUptoRow.holds Tryz.pinned (OpenSpec.upto aheadIncludesSpec)

/-- 'binderylaw05.AheadSets', WHERE WHAT IT READS IS OF BULK AT MOST 1048576: true; the input reads as it did. -/
def aheadSetsUptoRow : OpenClaim := { program := "ytbhlnemahhndoaagreatdoor", sum := "e4ac2c9a421c41a5fe9ae761a7a96ae75c00cdf7e3a516f7cc950dae210dceaa", func := "bindery/binderylaw05.AheadSets", spec := "aheadSets", inPlace := ["internal/bytealg.IndexByteString", "internal/bytealg.IndexString", "internal/bytealg.CountString", "internal/abi.NoEscape"], unfollowed := true, recurses := true, named := ["internal/bytealg.MaxLen", "unicode/utf8.first", "unicode/utf8.acceptRanges"], apart := false, laid := [("unicode/utf8.acceptRanges", laid_unicode_utf8_acceptRanges), ("unicode/utf8.first", laid_unicode_utf8_first)], narrowed := true }
def AheadSetsUptoSaid : Prop := aheadSetsUptoRow.holds Tryz.pinned (OpenSpec.upto aheadSetsSpec)

end Rows
end Go.Proofs.YtbhlnemahhndoaaGreatDoor
