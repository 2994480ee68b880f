/- Merged: AsksC. -/
import Derived.Test.YtbhlnemahhndoaaGreatDoorIns
import Derived.Test.YtbhlnemahhndoaaGreatDoorUnder
import Derived.Test.YtbhlnemahhndoaaGreatDoorU4
import Derived.StringKeys
import Derived.Laws.EntriesVeiled
namespace Go.Proofs.YtbhlnemahhndoaaGreatDoor
open Go.RowKit Go.Maps
set_option maxRecDepth 100000

theorem wpList_insert_own {H : Type} {P : Program} (w : World) {ops : Array Oper} {rest : List Oper} {o : Oper} {a : Act} {Q : Exit → Act → World → Prop}
    (hg : o.guard = none) (m x v : Operand) (t : TypeId) (hop : o.op = Op.insert t m x v)
    (k e : TypeId) (K : Keyed P k) (ht : P.underlying t = some (.map k e)) (R : Value → Option (DataW H × List MemPlace)) (b n : Nat) (D : DataW H)
    (hm : a.eval m = .map (some b)) (hown : w.ownsMap P k R b n D) (hn : n < maxLen) (key val : Value) (kl : Lit) (hx : a.eval x = key) (hv : a.eval v = val) (hkey : keyOf P k key = some kl)
    (d : DataW H) (ps : List MemPlace) (hval : R val = some (d, ps))
    (hK : ∀ w', w'.ownsMap P k R b (n + 1) (D.put kl d) → w.grownBy w' (some b) → wpList P ops Q rest (a.put o.dst undef) w') :
    wpList P ops Q (o :: rest) a w := by
  obtain ⟨w', hrun, r1, r2⟩ := hown.update K ht hn hkey hval
  exact wpList_insert_run w hg m x v t hop _ _ _ hm hx hv w' hrun (hK w' r1 r2)

theorem asks1_c (p q r : Nat) (u t : ByteArray) (b : Bool) (w : World) (h1 : w.cell? ⟨p, 0, none⟩ = some (.bool b)) (h2 : w.cell? ⟨q, 0, none⟩ = some (.string u)) (h3 : w.cell? ⟨r, 0, none⟩ = some (.string t)) :
    Calls Tryz.prog 244 #[.pointer (some ⟨p, 0, none⟩), .pointer (some ⟨q, 0, none⟩), .pointer (some ⟨r, 0, none⟩)] w fun e w' => e = .returned (.bool (b && (u.toList == t.toList))) ∧ w = w' := by
  cases b with
  | false =>
    go_enter Tryz.func244, Tryz.ntmps244
    go_wp2
    go_ret
    exact ⟨rfl, rfl⟩
  | true =>
    go_enter Tryz.func244, Tryz.ntmps244
    go_wp2
    go_ret
    exact ⟨rfl, rfl⟩
theorem asks2_c (p : Nat) (b : Bool) (w : World) (h1 : w.cell? ⟨p, 0, none⟩ = some (.bool b)) :
    Calls Tryz.prog 245 #[.pointer (some ⟨p, 0, none⟩)] w fun e w' => e = .returned (.bool b) ∧ w = w' := by
  go_enter Tryz.func245, Tryz.ntmps245
  go_wp2
  go_ret
  exact ⟨rfl, rfl⟩
theorem asks3_c (p : Nat) (b : Bool) (w : World) (h1 : w.cell? ⟨p, 0, none⟩ = some (.bool b)) :
    Calls Tryz.prog 246 #[.pointer (some ⟨p, 0, none⟩)] w fun e w' => e = .returned (.bool (!b)) ∧ w = w' := by
  go_enter Tryz.func246, Tryz.ntmps246
  go_wp2
  go_ret
  exact ⟨rfl, rfl⟩
theorem asks4_c (f p q r : Nat) (u t : ByteArray) (b : Bool) (w : World) (h0 : w.cell? ⟨f, 0, none⟩ = some (.func (Fn.func 244) #[] #[.pointer (some ⟨p, 0, none⟩), .pointer (some ⟨q, 0, none⟩), .pointer (some ⟨r, 0, none⟩)])) (h1 : w.cell? ⟨p, 0, none⟩ = some (.bool b)) (h2 : w.cell? ⟨q, 0, none⟩ = some (.string u)) (h3 : w.cell? ⟨r, 0, none⟩ = some (.string t)) :
    Calls Tryz.prog 247 #[.pointer (some ⟨f, 0, none⟩)] w fun e w' => e = .returned (.bool (!(b && (u.toList == t.toList)))) ∧ w = w' := by
  have hC := asks1_c p q r u t b w h1 h2 h3
  go_enter Tryz.func247, Tryz.ntmps247
  go_wp2_with (go_at_call 244; refine hC.mono ?_; rintro e w2 ⟨rfl, rfl⟩)
  go_ret
  exact ⟨ret_bool (by cases b <;> rfl), rfl⟩

/-- the four functions, by where their variables lie -/
def fIs (H : Nat) : Value := .func (Fn.func 244) #[] #[.pointer (some ⟨H + 1, 0, none⟩), .pointer (some ⟨H, 0, none⟩), .pointer (some ⟨H + 2, 0, none⟩)]
def fSet (H : Nat) : Value := .func (Fn.func 245) #[] #[.pointer (some ⟨H + 1, 0, none⟩)]
def fNot (H : Nat) : Value := .func (Fn.func 246) #[] #[.pointer (some ⟨H + 1, 0, none⟩)]
def fIsnt (H : Nat) : Value := .func (Fn.func 247) #[] #[.pointer (some ⟨H + 3, 0, none⟩)]
/-- the map, as it reads -/
def asksD (H : Nat) : DataW Value := ((((DataW.map []).put (.string []) (.held (fSet H))).put (.string [33]) (.held (fNot H))).put (.string [61]) (.held (fIs H))).put (.string [33, 61]) (.held (fIsnt H))
theorem asksD_set (H : Nat) (z : DataW Value) : (asksD H).atKey (.string []) z = .held (fSet H) := by rfl
theorem asksD_not (H : Nat) (z : DataW Value) : (asksD H).atKey (.string [33]) z = .held (fNot H) := by rfl
theorem asksD_is (H : Nat) (z : DataW Value) : (asksD H).atKey (.string [61]) z = .held (fIs H) := by rfl
theorem asksD_isnt (H : Nat) (z : DataW Value) : (asksD H).atKey (.string [33, 61]) z = .held (fIsnt H) := by rfl
/-- what asks leaves -/
structure Asked (w w' : World) (u : ByteArray) (b : Bool) (t : ByteArray) : Prop where
  own : w'.ownsMap Tryz.prog 9 heldR (w.heap.size + 4) 4 (asksD w.heap.size)
  c0 : w'.cell? ⟨w.heap.size, 0, none⟩ = some (.string u)
  c1 : w'.cell? ⟨w.heap.size + 1, 0, none⟩ = some (.bool b)
  c2 : w'.cell? ⟨w.heap.size + 2, 0, none⟩ = some (.string t)
  c3 : w'.cell? ⟨w.heap.size + 3, 0, none⟩ = some (fIs w.heap.size)
  bel : Below w.heap.size w w'

theorem key_k : Keyed Tryz.prog 9 := string_keyed Tryz.underlying9
theorem key_of (s : ByteArray) (h : s.size ≤ maxLen) : keyOf Tryz.prog 9 (.string s) = some (.string s.data.toList)  := Go.WideMaps.keyOf_string_mk Tryz.underlying9 h

theorem laid_cell (w : World) (n : Nat) (hn : w.heap.size = n) (x : Value) (t : TypeId) : (w.alloc (.cells #[x] t)).cell? ⟨n, 0, none⟩ = some x := by
  subst hn; rw [World.cell?_alloc_new]; rfl
theorem grown_cell {w w' : World} {r : Nat} (g : w.grownBy w' (some r)) {p : Addr} {v : Value} (h : w.cell? p = some v) (hne : p.block ≠ r) : w'.cell? p = some v := by
  have e := g.block p.block (World.block_lt_of_cell? w p h) (fun e => hne (Option.some.inj e))
  rw [← h]
  unfold World.cell?
  rw [e]

set_option maxHeartbeats 4000000 in
theorem asks_c (u : ByteArray) (b : Bool) (t : ByteArray) (w : World) :
    Calls Tryz.prog 220 #[.string u, .bool b, .string t] w fun e w' => e = .returned (.map (some (w.heap.size + 4))) ∧ Asked w w' u b t := by
  have hmm := @run_makeMap Tryz.prog
  have hmf : ∀ (fn : Fn) (first cap : Array Value) (w : World), (Instr.makeFunc fn first cap).run Tryz.prog w = .ok (.func fn first cap) w := fun _ _ _ _ => rfl
  obtain ⟨w4, h4⟩ : ∃ w4 : World, ((((w.alloc (.cells #[.string u] 9)).alloc (.cells #[.bool b] 4)).alloc (.cells #[.string t] 9)).alloc (.cells #[fIs w.heap.size] 51)) = w4 := ⟨_, rfl⟩
  have z4 : w4.heap.size = w.heap.size + 4 := by rw [← h4]; simp
  have b4 : Below w.heap.size w w4 := by rw [← h4]; exact behind (behind (behind (laidNew _ _) (laidNew _ _)) (laidNew _ _)) (laidNew _ _)
  have o0 : (w4.alloc (.map #[] 0)).ownsMap Tryz.prog 9 heldR (w.heap.size + 4) 0 (.map []) := by rw [← z4]; exact World.ownsMap_made _ _ _ _
  have c0 : w4.cell? ⟨w.heap.size, 0, none⟩ = some (.string u) := by rw [← h4]; exact keep_cell (laidNew _ _) (keep_cell (laidNew _ _) (keep_cell (laidNew _ _) (laid_cell _ _ rfl _ _)))
  have c1 : w4.cell? ⟨w.heap.size + 1, 0, none⟩ = some (.bool b) := by rw [← h4]; exact keep_cell (laidNew _ _) (keep_cell (laidNew _ _) (laid_cell _ _ (by simp) _ _))
  have c2 : w4.cell? ⟨w.heap.size + 2, 0, none⟩ = some (.string t) := by rw [← h4]; exact keep_cell (laidNew _ _) (laid_cell _ _ (by simp) _ _)
  have c3 : w4.cell? ⟨w.heap.size + 3, 0, none⟩ = some (fIs w.heap.size) := by rw [← h4]; exact laid_cell _ _ (by simp) _ _
  have l5 := laidNew w4 (.map #[] 0)
  have c0 := keep_cell l5 c0
  have c1 := keep_cell l5 c1
  have c2 := keep_cell l5 c2
  have c3 := keep_cell l5 c3
  have b5 := behind b4 l5
  rw [← h4] at o0 c0 c1 c2 c3 b5
  clear h4 z4 b4 l5
  have C0 := Lib.hid c0
  have C1 := Lib.hid c1
  have C2 := Lib.hid c2
  have C3 := Lib.hid c3
  have B5 := Lib.hid b5
  have O0 := Lib.hid o0
  clear c0 c1 c2 c3 b5 o0
  go_enter Tryz.func220, Tryz.ntmps220
  go_wp2_with (first
    | (refine wpList_insert_own (H := Value) _ rfl _ _ _ 284 rfl 9 51 key_k Tryz.underlying284 heldR (w.heap.size + 4) 0 _ rfl O0.out (by unfold maxLen; omega) _ _ _ rfl rfl (key_of ⟨#[]⟩ (by decide)) (.held (fSet w.heap.size)) [] rfl ?_; intro w1 o1 g1)
    | (refine wpList_insert_own (H := Value) _ rfl _ _ _ 284 rfl 9 51 key_k Tryz.underlying284 heldR (w.heap.size + 4) 1 _ rfl o1 (by unfold maxLen; omega) _ _ _ rfl rfl (key_of ⟨#[33]⟩ (by decide)) (.held (fNot w.heap.size)) [] rfl ?_; intro w2 o2 g2; have c3 : w2.cell? ⟨w.heap.size + 1 + 1 + 1, 0, none⟩ = some (fIs w.heap.size) := grown_cell g2 (grown_cell g1 C3.out (by show w.heap.size + 3 ≠ w.heap.size + 4; omega)) (by show w.heap.size + 3 ≠ w.heap.size + 4; omega); unfold fIs at c3)
    | (refine wpList_insert_own (H := Value) _ rfl _ _ _ 284 rfl 9 51 key_k Tryz.underlying284 heldR (w.heap.size + 4) 2 _ rfl o2 (by unfold maxLen; omega) _ _ _ rfl rfl (key_of ⟨#[61]⟩ (by decide)) (.held (fIs w.heap.size)) [] rfl ?_; intro w3 o3 g3)
    | (refine wpList_insert_own (H := Value) _ rfl _ _ _ 284 rfl 9 51 key_k Tryz.underlying284 heldR (w.heap.size + 4) 3 _ rfl o3 (by unfold maxLen; omega) _ _ _ rfl rfl (key_of ⟨#[33, 61]⟩ (by decide)) (.held (fIsnt w.heap.size)) [] rfl ?_; intro w4 o4 g4))
  go_ret
  have gc : ∀ {p : Addr} {v : Value}, _ → p.block ≠ w.heap.size + 4 → w4.cell? p = some v := fun h hne => grown_cell g4 (grown_cell g3 (grown_cell g2 (grown_cell g1 h hne) hne) hne) hne
  refine ⟨rfl, o4, gc C0.out (by show w.heap.size ≠ _; omega), gc C1.out (by show w.heap.size + 1 ≠ _; omega), gc C2.out (by show w.heap.size + 2 ≠ _; omega), gc C3.out (by show w.heap.size + 3 ≠ _; omega), ?_⟩
  have hz := B5.out.size
  exact (((B5.out.grown g1 hz (by intro k e; cases e; omega)).grown g2 (Nat.le_trans hz g1.size) (by intro k e; cases e; omega)).grown g3 (Nat.le_trans (Nat.le_trans hz g1.size) g2.size) (by intro k e; cases e; omega)).grown g4 (Nat.le_trans (Nat.le_trans (Nat.le_trans hz g1.size) g2.size) g3.size) (by intro k e; cases e; omega)
end Go.Proofs.YtbhlnemahhndoaaGreatDoor
