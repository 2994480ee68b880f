import Derived.Test.YtbhipobedijfbaaEscM
import Derived.Test.YtbhipobedijfbaaLaw
import Derived.Test.YtbhipobedijfbaaIns
import Derived.WideKeyArgs2
import Derived.Maps.Keyed
import Derived.Lib.Hide
namespace Go.Proofs.Ytbhipobedijfbaa
open Go.RowKit Go.Maps
set_option maxRecDepth 100000

theorem wpList_insert_own {H : Type} {P : Program} (w : World) {ops : Array Oper} {rest : List Oper} {o : Oper} {a : Act} {Q : Exit → Act → World → Prop}
    (hg : o.guard = none) (m x v : Operand) (t : TypeId) (hop : o.op = Op.insert t m x v)
    (k e : TypeId) (K : Keyed P k) (ht : P.underlying t = some (.map k e)) (R : Value → Option (DataW H × List MemPlace)) (b n : Nat) (D : DataW H)
    (hm : a.eval m = .map (some b)) (hown : w.ownsMap P k R b n D) (hn : n < maxLen) (key val : Value) (kl : Lit) (hx : a.eval x = key) (hv : a.eval v = val) (hkey : keyOf P k key = some kl)
    (d : DataW H) (ps : List MemPlace) (hval : R val = some (d, ps))
    (hK : ∀ w', w'.ownsMap P k R b (n + 1) (D.put kl d) → w.grownBy w' (some b) → wpList P ops Q rest (a.put o.dst undef) w') :
    wpList P ops Q (o :: rest) a w := by
  obtain ⟨w', hrun, r1, r2⟩ := hown.update K ht hn hkey hval
  exact wpList_insert_run w hg m x v t hop _ _ _ hm hx hv w' hrun (hK w' r1 r2)
/-! ### the map of what stands for signs -/
theorem key_s : Keyed Try.prog 9 := string_keyed Try.underlying9
theorem keyS (s : ByteArray) (h : s.size ≤ maxLen) : keyOf Try.prog 9 (.string s) = some (.string s.data.toList)  := Go.WideMaps.keyOf_string_mk Try.underlying9 h
theorem key_i : Keyed Try.prog 21 := int_keyed Try.underlying21
theorem keyI {a : Int} (h : (Lit.int .i32 a).wf = true) : keyOf Try.prog 21 (.int .i32 a) = some (.int .i32 a) := keyOf_int_mk Try.underlying21 h
def mAmp : Value := .agg #[.string ⟨#[38, 97, 109, 112, 59]⟩]
def mLt : Value := .agg #[.string ⟨#[38, 108, 116, 59]⟩]
def mGt : Value := .agg #[.string ⟨#[38, 103, 116, 59]⟩]
def mQuot : Value := .agg #[.string ⟨#[38, 113, 117, 111, 116, 59]⟩]
def mApos : Value := .agg #[.string ⟨#[38, 35, 51, 57, 59]⟩]
def signD : DataW Value := (((((DataW.map []).put (.int .i32 38) (.held mAmp)).put (.int .i32 60) (.held mLt)).put (.int .i32 62) (.held mGt)).put (.int .i32 34) (.held mQuot)).put (.int .i32 39) (.held mApos)
abbrev SignsAt (w : World) (b : Nat) : Prop := w.ownsMap Try.prog 21 heldR b 5 signD

set_option maxHeartbeats 2000000 in
theorem bySign_c (w : World) : Calls Try.prog 17 #[] w fun e w' => e = .returned (.map (some w.heap.size)) ∧ SignsAt w' w.heap.size ∧ Below w.heap.size w w' := by
  have hmm := @run_makeMap Try.prog
  have O0 := Lib.hid (World.ownsMap_made w Try.prog 21 heldR)
  go_enter Try.func17, Try.ntmps17
  go_wp2_with (first
    | (refine wpList_insert_own (H := Value) _ rfl _ _ _ 35 rfl 21 40 key_i Try.underlying35 heldR w.heap.size 0 _ rfl O0.out (by unfold maxLen; omega) _ _ _ rfl rfl (keyI (a := 38) (by decide)) (.held mAmp) [] rfl ?_; intro w1 o1 g1)
    | (refine wpList_insert_own (H := Value) _ rfl _ _ _ 35 rfl 21 40 key_i Try.underlying35 heldR w.heap.size 1 _ rfl o1 (by unfold maxLen; omega) _ _ _ rfl rfl (keyI (a := 60) (by decide)) (.held mLt) [] rfl ?_; intro w2 o2 g2)
    | (refine wpList_insert_own (H := Value) _ rfl _ _ _ 35 rfl 21 40 key_i Try.underlying35 heldR w.heap.size 2 _ rfl o2 (by unfold maxLen; omega) _ _ _ rfl rfl (keyI (a := 62) (by decide)) (.held mGt) [] rfl ?_; intro w3 o3 g3)
    | (refine wpList_insert_own (H := Value) _ rfl _ _ _ 35 rfl 21 40 key_i Try.underlying35 heldR w.heap.size 3 _ rfl o3 (by unfold maxLen; omega) _ _ _ rfl rfl (keyI (a := 34) (by decide)) (.held mQuot) [] rfl ?_; intro w4 o4 g4)
    | (refine wpList_insert_own (H := Value) _ rfl _ _ _ 35 rfl 21 40 key_i Try.underlying35 heldR w.heap.size 4 _ rfl o4 (by unfold maxLen; omega) _ _ _ rfl rfl (keyI (a := 39) (by decide)) (.held mApos) [] rfl ?_; intro w5 o5 g5))
  go_ret
  have b0 := laidNew w (.map #[] 0)
  have hz := b0.size
  exact ⟨rfl, o5, ((((b0.grown g1 hz (by intro k e; cases e; omega)).grown g2 (Nat.le_trans hz g1.size) (by intro k e; cases e; omega)).grown g3 (Nat.le_trans (Nat.le_trans hz g1.size) g2.size) (by intro k e; cases e; omega)).grown g4 (Nat.le_trans (Nat.le_trans (Nat.le_trans hz g1.size) g2.size) g3.size) (by intro k e; cases e; omega)).grown g5 (Nat.le_trans (Nat.le_trans (Nat.le_trans (Nat.le_trans hz g1.size) g2.size) g3.size) g4.size) (by intro k e; cases e; omega)⟩

/-! ### looks at it -/
def mZero : Value := .agg #[.string ⟨#[]⟩]
theorem zero_mark (w : World) : (zeroValue 40).run Try.prog w = .ok mZero w := by rfl
theorem look_sign {w : World} {b : Nat} (h : SignsAt w b) (a : Int) (ha : (Lit.int .i32 a).wf = true) (f : Value) (g : Bool) (hg : Maps.has signD (.int .i32 a) = g) (hf : signD.atKey (.int .i32 a) (.held mZero) = .held f) :
    (Instr.lookup 35 (.map (some b)) (.int .i32 a) true).run Try.prog w = .ok (.tuple #[f, .bool g]) w := by
  obtain ⟨v, ps, hrun, hv⟩ := h.look_ok key_i Try.underlying35 (zero_mark _) (zd := .held mZero) (zp := []) rfl (keyI ha)
  rw [hrun, hg, heldR_out hv hf]
/-- the mark of a byte, as the map has it -/
def markV (r : Nat) : Value := if r = 38 then mAmp else if r = 60 then mLt else if r = 62 then mGt else if r = 34 then mQuot else if r = 39 then mApos else mZero
def isMark (r : Nat) : Bool := decide (r = 38 ∨ r = 60 ∨ r = 62 ∨ r = 34 ∨ r = 39)
theorem sign_at (r : Nat) : Maps.has signD (.int .i32 (r : Int)) = isMark r ∧ signD.atKey (.int .i32 (r : Int)) (.held mZero) = .held (markV r) := by
  by_cases h1 : r = 38
  · subst h1; exact ⟨by rfl, by rfl⟩
  by_cases h2 : r = 60
  · subst h2; exact ⟨by rfl, by rfl⟩
  by_cases h3 : r = 62
  · subst h3; exact ⟨by rfl, by rfl⟩
  by_cases h4 : r = 34
  · subst h4; exact ⟨by rfl, by rfl⟩
  by_cases h5 : r = 39
  · subst h5; exact ⟨by rfl, by rfl⟩
  have hn : ∀ t : Int, ¬ (r : Int) = t → (Lit.int .i32 (r : Int) : Lit) ≠ .int .i32 t := fun t h e => by injection e with _ e; exact h e
  have hh : Maps.has signD (.int .i32 (r : Int)) = false := by
    unfold signD
    rw [has_put_other (hn 39 (by omega)), has_put_other (hn 34 (by omega)), has_put_other (hn 62 (by omega)), has_put_other (hn 60 (by omega)), has_put_other (hn 38 (by omega))]; rfl
  refine ⟨?_, ?_⟩
  · rw [hh]; unfold isMark; symm; rw [decide_eq_false_iff_not]; omega
  · rw [atKey_of_not_has hh]
    unfold markV
    rw [if_neg h1, if_neg h2, if_neg h3, if_neg h4, if_neg h5]
theorem look_rune {w : World} {b : Nat} (h : SignsAt w b) (r : Nat) (hr : r ≤ 1114111) :
    (Instr.lookup 35 (.map (some b)) (.int .i32 (r : Int)) true).run Try.prog w = .ok (.tuple #[markV r, .bool (isMark r)]) w :=
  look_sign h (r : Int) (WalkArith.wf_i32 (n := (r : Int)) (by omega)) _ _ (sign_at r).1 (sign_at r).2
end Go.Proofs.Ytbhipobedijfbaa
