/- Merged: RdMem, AttM, DeedsC. -/
import Derived.Test.YtbhlnemahhndoaaGreatDoorU8
import Derived.Test.YtbhlnemahhndoaaGreatDoorU15
import Derived.Test.YtbhlnemahhndoaaGreatDoorU10
import Derived.Test.YtbhlnemahhndoaaGreatDoorVMark
namespace Go.Proofs.YtbhlnemahhndoaaGreatDoor
open Go.RowKit Go.Maps
set_option maxRecDepth 100000

/-! ### what a Read holds in memory -/
def lnCells (l : List Ln) : List Value := l.flatMap fun x => [.string (bT x.1), .int .i64 (x.2.1 : Int), .string (bT x.2.2)]
def dgCells (l : List Dg) : List Value := l.flatMap fun x => [.string (bT x.1), .int .i64 (x.2.1 : Int), .int .i64 (x.2.2.1 : Int), .string (bT x.2.2.2)]
theorem lnCells_snoc (l : List Ln) (x : Ln) : lnCells (l ++ [x]) = lnCells l ++ [.string (bT x.1), .int .i64 (x.2.1 : Int), .string (bT x.2.2)] := by simp [lnCells]
theorem dgCells_snoc (l : List Dg) (x : Dg) : dgCells (l ++ [x]) = dgCells l ++ [.string (bT x.1), .int .i64 (x.2.1 : Int), .int .i64 (x.2.2.1 : Int), .string (bT x.2.2.2)] := by simp [dgCells]
/-- what is known of a name, as it is held -/
def attV (v : Option ByteArray) (t a : Bool) : Value := .agg #[.string (v.getD ⟨#[]⟩), .bool v.isSome, .bool t, .bool a]
def attZ : Value := .agg #[.string ⟨#[]⟩, .bool false, .bool false, .bool false]
def AttIs (D : DataW Value) (r : Rd) : Prop :=
  IsMap D ∧ ∀ nm : List UInt8, D.atKey (.string nm) (.held attZ) = .held (attV (getL r.attrs (bT nm)) (decide (nm ∈ r.own)) (decide (nm ∈ r.asked)))
/-- the methods, by their words -/
def mIf : Value := .func (Fn.func 148) #[] #[]
def mElse : Value := .func (Fn.func 149) #[] #[]
def mEnd : Value := .func (Fn.func 150) #[] #[]
def mInclude : Value := .func (Fn.func 151) #[] #[]
def mSet : Value := .func (Fn.func 152) #[] #[]
def mUnset : Value := .func (Fn.func 153) #[] #[]
def mSay : Value := .func (Fn.func 154) #[] #[]
def anyD : DataW Value := (((DataW.map []).put (.string wIf) (.held mIf)).put (.string wElse) (.held mElse)).put (.string wEnd) (.held mEnd)
def forceD : DataW Value := ((((DataW.map []).put (.string wInclude) (.held mInclude)).put (.string wSet) (.held mSet)).put (.string wUnset) (.held mUnset)).put (.string []) (.held mSay)

/-- what stays: the sources, where the maps are -/
structure RdK where
  sv : Value
  A : Nat
  d1 : Nat
  d2 : Nat
/-- what turns: the lists -/
structure RdV where
  ov : Value
  lv : Value
  dv : Value
  fv : Value
def rdCells (k : RdK) (x : RdV) (count : Nat) : Array Value := #[k.sv, .map (some k.A), .map (some k.d1), .map (some k.d2), x.ov, .int .i64 (count : Int), x.lv, x.dv, x.fv]
/-- the blocks that a Read writes to -/
def Mine (R : Nat) (k : RdK) (x : RdV) (b : Nat) : Prop := b = R ∨ b = k.A ∨ x.ov.ownBlock = some b ∨ x.lv.ownBlock = some b ∨ x.dv.ownBlock = some b ∨ x.fv.ownBlock = some b

structure RdIs (W : World) (R : Nat) (k : RdK) (srcs : List At) (x : RdV) (K : Nat) (opn : List (List UInt8)) (r : Rd) (w : World) : Prop where
  blk : w.heap[R]? = some (.cells (rdCells k x r.count) 115 (0, 0))
  map : ∃ D n, w.ownsMap Tryz.prog 9 heldR k.A n D ∧ n ≤ K ∧ AttIs D r
  m1 : w.ownsMap Tryz.prog 9 heldR k.d1 3 anyD
  m2 : w.ownsMap Tryz.prog 9 heldR k.d2 4 forceD
  rop : w.ownsRow W.heap.size 9 1 x.ov opn.length (opn.map strV)
  rln : w.ownsRow W.heap.size 82 3 x.lv r.lines.length (lnCells r.lines)
  rdg : w.ownsRow W.heap.size 77 4 x.dv r.diags.length (dgCells r.diags)
  rfl' : w.ownsRow W.heap.size 9 1 x.fv r.files.length (r.files.map strV)
  ap : x.ov.ownBlock = none ∨ x.ov.ownBlock ≠ x.fv.ownBlock
  a1 : k.d1 ≠ k.A
  a2 : k.d2 ≠ k.A
  hB : W.heap.size ≤ R ∧ W.heap.size ≤ k.A ∧ W.heap.size ≤ k.d1 ∧ W.heap.size ≤ k.d2
  bel : Below W.heap.size W w
  src : Attrs W k.sv srcs

section
variable {W w w' : World} {R K : Nat} {k : RdK} {srcs : List At} {x : RdV} {opn : List (List UInt8)} {r : Rd}

theorem heap_lt {w : World} {g : Nat} {o : Obj} (h : w.heap[g]? = some o) : g < w.heap.size := (Array.getElem?_eq_some_iff.1 h).1
theorem RdIs.lt (h : RdIs W R k srcs x K opn r w) : ∀ b, Mine R k x b → W.heap.size ≤ b ∧ b < w.heap.size := by
  rintro b (rfl | rfl | hb | hb | hb | hb)
  · exact ⟨h.hB.1, heap_lt h.blk⟩
  · obtain ⟨D, n, hm, _⟩ := h.map; exact ⟨h.hB.2.1, hm.lt⟩
  · exact h.rop.lt b hb
  · exact h.rln.lt b hb
  · exact h.rdg.lt b hb
  · exact h.rfl'.lt b hb
theorem RdIs.attrs (h : RdIs W R k srcs x K opn r w) : Attrs w k.sv srcs := h.src.below h.bel
theorem RdIs.mono (h : RdIs W R k srcs x K opn r w) {K' : Nat} (hK : K ≤ K') : RdIs W R k srcs x K' opn r w :=
  { h with map := by obtain ⟨D, n, h1, h2, h3⟩ := h.map; exact ⟨D, n, h1, Nat.le_trans h2 hK, h3⟩ }
theorem cells_kind {w : World} {g : Nat} {c c' : Array Value} {t t' : TypeId} {f f' : Nat × Nat} (h : w.heap[g]? = some (.cells c t f)) (h' : w.heap[g]? = some (.cells c' t' f')) : t = t' := by
  rw [h] at h'; injection h' with h'; injection h' with _ h2 _
theorem cells_map {w : World} {g : Nat} {c : Array Value} {t : TypeId} {f : Nat × Nat} {es : Array MapEntry} {cl : Nat} (h : w.heap[g]? = some (.cells c t f)) (h' : w.heap[g]? = some (.map es cl)) : False := by
  rw [h] at h'; cases h'
theorem row_at {w : World} {base n sz : Nat} {e : TypeId} {v : Value} {xs : List Value} (h : w.ownsRow base e sz v n xs) {g : Nat} (hg : v.ownBlock = some g) : ∃ c f, w.heap[g]? = some (.cells c e f) := (row_block h g hg).2
/-- of two rows of unlike kinds the blocks are unlike -/
theorem row_row {w : World} {B1 B2 n1 n2 z1 z2 : Nat} {e1 e2 : TypeId} {v1 v2 : Value} {x1 x2 : List Value} (h1 : w.ownsRow B1 e1 z1 v1 n1 x1) (h2 : w.ownsRow B2 e2 z2 v2 n2 x2) (he : e1 ≠ e2) : ∀ g, v1.ownBlock = some g → v2.ownBlock ≠ some g := fun g hg hg2 => by
  obtain ⟨c, f, hc⟩ := row_at h1 hg
  obtain ⟨c', f', hc'⟩ := row_at h2 hg2
  exact he (cells_kind hc hc')
theorem row_cells {w : World} {B n z g : Nat} {e t : TypeId} {v : Value} {xs : List Value} {c : Array Value} {f : Nat × Nat} (h : w.ownsRow B e z v n xs) (hg : w.heap[g]? = some (.cells c t f)) (he : e ≠ t) : v.ownBlock ≠ some g := fun e1 => by
  obtain ⟨c', f', hc'⟩ := row_at h e1
  exact he (cells_kind hc' hg)
theorem row_map {H : Type} {P : Program} {w : World} {B n z b m : Nat} {e k : TypeId} {v : Value} {xs : List Value} {Rr : Value → Option (DataW H × List MemPlace)} {D : DataW H} (h : w.ownsRow B e z v n xs) (hm : w.ownsMap P k Rr b m D) : v.ownBlock ≠ some b := fun e1 => by
  obtain ⟨c', f', hc'⟩ := row_at h e1
  obtain ⟨es, cl, hb, _⟩ := hm
  exact cells_map hc' hb
theorem map_cells {H : Type} {P : Program} {w : World} {b m g : Nat} {k t : TypeId} {c : Array Value} {f : Nat × Nat} {Rr : Value → Option (DataW H × List MemPlace)} {D : DataW H} (hm : w.ownsMap P k Rr b m D) (hg : w.heap[g]? = some (.cells c t f)) : b ≠ g := fun e => by
  obtain ⟨es, cl, hb, _⟩ := hm
  subst e; exact cells_map hg hb
theorem keep_map {H : Type} {P : Program} {w w' : World} {b m : Nat} {k : TypeId} {Rr : Value → Option (DataW H × List MemPlace)} {D : DataW H} (hm : w.ownsMap P k Rr b m D) (h : w'.heap[b]? = w.heap[b]?) : w'.ownsMap P k Rr b m D := map_same hm (fun _ _ _ => h)
theorem keep_row {w w' : World} {B n z : Nat} {e : TypeId} {v : Value} {xs : List Value} (h : w.ownsRow B e z v n xs) (hk : ∀ g, v.ownBlock = some g → w'.heap[g]? = w.heap[g]?) : w'.ownsRow B e z v n xs := by
  obtain ⟨h1, h2⟩ := h
  refine ⟨h1, ?_⟩
  rcases h2 with h2 | ⟨g, cap, cur, rfl, hB, hg, hr⟩
  · exact .inl h2
  · exact .inr ⟨g, cap, cur, rfl, hB, (hk g rfl).trans hg, hr⟩
theorem RdIs.ov_R (h : RdIs W R k srcs x K opn r w) : x.ov.ownBlock ≠ some R := row_cells h.rop h.blk (by decide)
theorem RdIs.lv_R (h : RdIs W R k srcs x K opn r w) : x.lv.ownBlock ≠ some R := row_cells h.rln h.blk (by decide)
theorem RdIs.dv_R (h : RdIs W R k srcs x K opn r w) : x.dv.ownBlock ≠ some R := row_cells h.rdg h.blk (by decide)
theorem RdIs.fv_R (h : RdIs W R k srcs x K opn r w) : x.fv.ownBlock ≠ some R := row_cells h.rfl' h.blk (by decide)
/-- what is no map of words, and none of those that are written to, may be written -/
theorem RdIs.kept (h : RdIs W R k srcs x K opn r w) {S : Nat → Prop} (hk : KeptBut S w w') (hS : ∀ b, S b → ¬ Mine R k x b ∧ b ≠ k.d1 ∧ b ≠ k.d2 ∧ W.heap.size ≤ b) : RdIs W R k srcs x K opn r w' := by
  have hm : ∀ b, Mine R k x b → w'.heap[b]? = w.heap[b]? := fun b hb => hk.block b (h.lt b hb).2 (fun e => (hS b e).1 hb)
  refine ⟨(hm R (.inl rfl)).trans h.blk, ?_, keep_map h.m1 (hk.block _ h.m1.lt (fun e => (hS _ e).2.1 rfl)), keep_map h.m2 (hk.block _ h.m2.lt (fun e => (hS _ e).2.2.1 rfl)), keep_row h.rop (fun g hg => hm g (.inr (.inr (.inl hg)))), keep_row h.rln (fun g hg => hm g (.inr (.inr (.inr (.inl hg))))), keep_row h.rdg (fun g hg => hm g (.inr (.inr (.inr (.inr (.inl hg)))))), keep_row h.rfl' (fun g hg => hm g (.inr (.inr (.inr (.inr (.inr hg)))))), h.ap, h.a1, h.a2, h.hB, ?_, h.src⟩
  · obtain ⟨D, n, h1, h2⟩ := h.map
    exact ⟨D, n, keep_map h1 (hm _ (.inr (.inl rfl))), h2⟩
  · exact ⟨hk.os.trans h.bel.os, hk.tape.trans h.bel.tape, hk.output.trans h.bel.output, Nat.le_trans h.bel.size hk.size, fun b hb => (hk.block b (Nat.lt_of_lt_of_le hb h.bel.size) (fun e => by have := (hS b e).2.2.2; omega)).trans (h.bel.block b hb)⟩
theorem RdIs.below (h : RdIs W R k srcs x K opn r w) (hb : Below w.heap.size w w') : RdIs W R k srcs x K opn r w' :=
  h.kept (S := fun _ => False) (KeptBut.below hb) (fun _ e => e.elim)
end

/-- a step of a Read -/
structure StepTo (W : World) (R : Nat) (k : RdK) (srcs : List At) (x : RdV) (w : World) (x' : RdV) (K' : Nat) (opn' : List (List UInt8)) (r' : Rd) (w' : World) : Prop where
  rd : RdIs W R k srcs x' K' opn' r' w'
  kept : KeptBut (Mine R k x) w w'
  mine : ∀ b, Mine R k x' b → Mine R k x b ∨ w.heap.size ≤ b

section
variable {W w w1 w2 : World} {R K K1 K2 : Nat} {k : RdK} {srcs : List At} {x x1 x2 : RdV} {o1 o2 : List (List UInt8)} {r1 r2 : Rd}
theorem StepTo.refl {opn : List (List UInt8)} {r : Rd} (h : RdIs W R k srcs x K opn r w) : StepTo W R k srcs x w x K opn r w := ⟨h, KeptBut.refl _ _, fun _ h => .inl h⟩
theorem kept_wide {S S2 : Nat → Prop} {a b c : World} (h : KeptBut S a b) (h2 : KeptBut S2 b c) (hs : ∀ i, S2 i → S i ∨ a.heap.size ≤ i) : KeptBut S a c :=
  ⟨h2.os.trans h.os, h2.tape.trans h.tape, h2.output.trans h.output, Nat.le_trans h.size h2.size, fun i hi hn => (h2.block i (Nat.lt_of_lt_of_le hi h.size) (fun e => by rcases hs i e with h | h; exact hn h; omega)).trans (h.block i hi hn)⟩
theorem StepTo.trans (h : StepTo W R k srcs x w x1 K1 o1 r1 w1) (h2 : StepTo W R k srcs x1 w1 x2 K2 o2 r2 w2) : StepTo W R k srcs x w x2 K2 o2 r2 w2 :=
  ⟨h2.rd, kept_wide h.kept h2.kept h.mine, fun b hb => by
    rcases h2.mine b hb with h' | h'
    · exact h.mine b h'
    · exact .inr (Nat.le_trans h.kept.size h')⟩
theorem StepTo.below (h : StepTo W R k srcs x w x1 K1 o1 r1 w1) (hb : Below w1.heap.size w1 w2) : StepTo W R k srcs x w x1 K1 o1 r1 w2 :=
  ⟨h.rd.below hb, kept_wide (S2 := fun _ => False) h.kept (KeptBut.below hb) (fun _ e => e.elim), h.mine⟩
theorem StepTo.ahead (hb : Below w.heap.size w w1) (h : StepTo W R k srcs x w1 x1 K1 o1 r1 w2) : StepTo W R k srcs x w x1 K1 o1 r1 w2 := by
  refine ⟨h.rd, ?_, fun b hb2 => ?_⟩
  · exact (KeptBut.below hb).trans h.kept
  · rcases h.mine b hb2 with h' | h'
    · exact .inl h'
    · exact .inr (Nat.le_trans hb.size h')
theorem StepTo.mono (h : StepTo W R k srcs x w x1 K1 o1 r1 w1) {K' : Nat} (hK : K1 ≤ K') : StepTo W R k srcs x w x1 K' o1 r1 w1 := ⟨h.rd.mono hK, h.kept, h.mine⟩
/-- what is no part of it stays -/
theorem StepTo.cell (h : StepTo W R k srcs x w x1 K1 o1 r1 w1) {p : Addr} (hp : p.block < w.heap.size) (hn : ¬ Mine R k x p.block) : w1.cell? p = w.cell? p := h.kept.cell hp hn
end
end Go.Proofs.YtbhlnemahhndoaaGreatDoor
namespace Go.Proofs.YtbhlnemahhndoaaGreatDoor
open Go.RowKit Go.Maps
set_option maxRecDepth 100000

/-! ### what is known of each name -/
theorem zero_att (w : World) : (zeroValue 222).run Tryz.prog w = .ok attZ w := by rfl
theorem look_att {w : World} {b m : Nat} {D : DataW Value} {r : Rd} (h : w.ownsMap Tryz.prog 9 heldR b m D) (hM : AttIs D r) (nb : ByteArray) (hs : nb.size ≤ maxLen) :
    (Instr.lookup 109 (.map (some b)) (.string nb) false).run Tryz.prog w = .ok (attV (getL r.attrs nb) (decide (nb.data.toList ∈ r.own)) (decide (nb.data.toList ∈ r.asked))) w := by
  obtain ⟨v, ps, hrun, hv⟩ := h.lookup key_k Tryz.underlying109 (zero_att _) (zd := .held attZ) (zp := []) rfl (key_of nb hs)
  have := hM.2 nb.data.toList
  rw [bT_data] at this
  rw [← heldR_out hv this]; exact hrun

theorem insL_mem (n x : List UInt8) : ∀ l : List (List UInt8), x ∈ insL n l ↔ x = n ∨ x ∈ l
  | [] => by simp [insL]
  | y :: l => by
    unfold insL
    split
    · simp
    · rw [List.mem_cons, insL_mem n x l, List.mem_cons]
      constructor
      · rintro (h | h | h)
        · exact .inr (.inl h)
        · exact .inl h
        · exact .inr (.inr h)
      · rintro (h | h | h)
        · exact .inr (.inl h)
        · exact .inl h
        · exact .inr (.inr h)
theorem ask_attrs (r : Rd) (n : List UInt8) : (r.ask n).attrs = r.attrs ∧ (r.ask n).own = r.own := by unfold Rd.ask; split <;> exact ⟨rfl, rfl⟩
theorem ask_asked (r : Rd) (n x : List UInt8) : x ∈ (r.ask n).asked ↔ (x ∈ r.asked ∨ (x = n ∧ n ∉ r.own)) := by
  unfold Rd.ask
  by_cases h : n ∈ r.own ∨ n ∈ r.asked
  · rw [if_pos h]
    constructor
    · exact .inl
    · rintro (h1 | ⟨rfl, h2⟩)
      · exact h1
      · rcases h with h | h
        · exact absurd h h2
        · exact h
  · rw [if_neg h]
    simp only [insL_mem]
    constructor
    · rintro (h1 | h1)
      · exact .inr ⟨h1, fun e => h (.inl e)⟩
      · exact .inl h1
    · rintro (h1 | ⟨h1, -⟩)
      · exact .inr h1
      · exact .inl h1
theorem attIs_ask {D : DataW Value} {r : Rd} (h : AttIs D r) (n : List UInt8) : AttIs (D.put (.string n) (.held (attV (getL r.attrs (bT n)) (decide (n ∈ r.own)) (decide (n ∈ r.asked) || !decide (n ∈ r.own))))) (r.ask n) := by
  obtain ⟨hm, h⟩ := h
  obtain ⟨e1, e2⟩ := ask_attrs r n
  refine ⟨hm.put _ _, fun x => ?_⟩
  rw [e1, e2]
  by_cases e : x = n
  · subst e
    rw [atKey_put_same (k := Lit.string x) hm trivial]
    congr 2
    rw [Bool.eq_iff_iff]
    simp only [Bool.or_eq_true, decide_eq_true_eq, Bool.not_eq_true', decide_eq_false_iff_not]
    rw [ask_asked]
    simp
  · have hne : (Lit.string x : Lit) ≠ .string n := fun h => by injection h with h; exact e h
    rw [atKey_put_other hne, h x]
    congr 2
    rw [Bool.eq_iff_iff, decide_eq_true_eq, decide_eq_true_eq, ask_asked]
    simp [e]
/-- at most one -/
def oneL (n : ByteArray) : Option ByteArray → List At
  | some v => [(n, v)]
  | none => []
theorem turn_get (r : Rd) (n : List UInt8) (v : Option ByteArray) (x : List UInt8) : getL (oneL (bT n) v ++ r.attrs.filter (neP (bT n))) (bT x) = if x = n then v else getL r.attrs (bT x) := by
  rw [get_append]
  by_cases e : x = n
  · subst e
    rw [if_pos rfl, get_filter_no r.attrs (neP (bT x)) (bT x) (fun a h => by unfold neP; rw [h]; rfl)]
    cases v with
    | none => rfl
    | some v => unfold getL oneL; simp
  · rw [if_neg e, get_filter_yes r.attrs (neP (bT n)) (bT x) (fun a h => by
      unfold neP
      have h1 := bytes_same.1 h
      rw [Bool.not_eq_true', Bool.eq_false_iff]
      intro h2
      have h3 := bytes_same.1 h2
      rw [h1] at h3
      have := congrArg (fun t : ByteArray => t.data.toList) h3
      simp only [bT_list] at this
      exact e this)]
    cases v with
    | none => rfl
    | some v =>
      show ((getL [(bT n, v)] (bT x)).or _) = _
      have : getL [(bT n, v)] (bT x) = none := by
        unfold getL
        rw [List.find?_cons]
        have : ((bT n).toList == (bT x).toList) = false := by
          rw [Bool.eq_false_iff]
          intro e3
          have := congrArg (fun t : ByteArray => t.data.toList) (bytes_same.1 e3)
          simp only [bT_list] at this
          exact e this.symm
        simp [this]
      rw [this]; rfl
theorem attIs_turn {D : DataW Value} {r : Rd} (h : AttIs D r) (n : List UInt8) (v : Option ByteArray) : AttIs (D.put (.string n) (.held (attV v true (decide (n ∈ r.asked))))) (r.turn n (oneL (bT n) v)) := by
  obtain ⟨hm, h⟩ := h
  refine ⟨hm.put _ _, fun x => ?_⟩
  show _ = DataW.held (attV (getL (oneL (bT n) v ++ r.attrs.filter (neP (bT n))) (bT x)) (decide (x ∈ r.own ++ [n])) (decide (x ∈ r.asked)))
  rw [turn_get]
  by_cases e : x = n
  · subst e
    rw [atKey_put_same (k := Lit.string x) hm trivial, if_pos rfl]
    simp
  · have hne : (Lit.string x : Lit) ≠ .string n := fun h => by injection h with h; exact e h
    rw [atKey_put_other hne, h x, if_neg e]
    simp [e]

set_option maxHeartbeats 1000000 in
theorem ask_m (A n : Nat) (D : DataW Value) (r : Rd) (nb : ByteArray) (w : World) (h : w.ownsMap Tryz.prog 9 heldR A n D) (hM : AttIs D r) (hn : n < maxLen) (hs : nb.size ≤ maxLen) :
    Calls Tryz.prog 187 #[.map (some A), .string nb] w fun e w' => e = .returned (.tuple #[]) ∧ (∃ D', w'.ownsMap Tryz.prog 9 heldR A (n + 1) D' ∧ AttIs D' (r.ask nb.data.toList)) ∧ KeptBut (fun b => b = A) w w' := by
  have hL := look_att h hM nb hs
  have HP := Lib.hid (attIs_ask hM nb.data.toList)
  rw [bT_data] at HP
  have HM := Lib.hid hM
  clear hM
  obtain ⟨v, hv⟩ : ∃ v, getL r.attrs nb = v := ⟨_, rfl⟩
  obtain ⟨t, ht⟩ : ∃ t, decide (nb.data.toList ∈ r.own) = t := ⟨_, rfl⟩
  obtain ⟨a, ha⟩ : ∃ a, decide (nb.data.toList ∈ r.asked) = a := ⟨_, rfl⟩
  rw [hv, ht, ha] at hL HP
  clear hv ht ha
  unfold attV at hL
  obtain ⟨va, hva⟩ : ∃ va, v.getD ⟨#[]⟩ = va := ⟨_, rfl⟩
  obtain ⟨vb, hvb⟩ : ∃ vb, v.isSome = vb := ⟨_, rfl⟩
  have HP2 : Hid (AttIs (D.put (.string nb.data.toList) (.held (.agg #[.string va, .bool vb, .bool t, .bool (a || !t)]))) (r.ask nb.data.toList)) := Lib.hid (by have := HP.out; unfold attV at this; rw [hva, hvb] at this; exact this)
  rw [hva, hvb] at hL
  clear hva hvb HP HM
  have HO := Lib.hid h
  clear h
  cases a with
  | true =>
    go_enter Tryz.func187, Tryz.ntmps187
    go_wp2_with (first
      | (at_mapUpdate; refine wpList_mapUpdate_own _ rfl _ _ _ 109 rfl 9 222 key_k Tryz.underlying109 heldR A n D rfl (HO.out.alloc _) hn _ _ _ rfl rfl (key_of nb hs) _ [] rfl ?_; intro w5 hm5 hg5))
    go_end0
    exact ⟨rfl, ⟨_, hm5, by have := HP2.out; exact this⟩, (KeptBut.below (laidNew w _)).grown hg5 (fun j e => .inl (by injection e with e; exact e.symm))⟩
  | false =>
    go_enter Tryz.func187, Tryz.ntmps187
    go_wp2_with (first
      | (at_mapUpdate; refine wpList_mapUpdate_own _ rfl _ _ _ 109 rfl 9 222 key_k Tryz.underlying109 heldR A n D rfl (HO.out.alloc _) hn _ _ _ rfl rfl (key_of nb hs) _ [] rfl ?_; intro w5 hm5 hg5))
    go_end0
    exact ⟨rfl, ⟨_, hm5, by have := HP2.out; exact this⟩, (KeptBut.below (laidNew w _)).grown hg5 (fun j e => .inl (by injection e with e; exact e.symm))⟩

theorem field_att (v : ByteArray) (s t a : Bool) (w : World) : (Instr.field 222 (.agg #[.string v, .bool s, .bool t, .bool a]) 3).run Tryz.prog w = .ok (.bool a) w := by rfl
set_option maxHeartbeats 1000000 in
theorem turn_m (A n : Nat) (D : DataW Value) (r : Rd) (nb vb : ByteArray) (b : Bool) (v : Option ByteArray) (hv : vb = v.getD ⟨#[]⟩ ∧ b = v.isSome) (w : World) (h : w.ownsMap Tryz.prog 9 heldR A n D) (hM : AttIs D r) (hn : n < maxLen) (hs : nb.size ≤ maxLen) :
    Calls Tryz.prog 174 #[.map (some A), .string nb, .string vb, .bool b] w fun e w' => e = .returned (.tuple #[]) ∧ (∃ D', w'.ownsMap Tryz.prog 9 heldR A (n + 1) D' ∧ AttIs D' (r.turn nb.data.toList (oneL nb v))) ∧ KeptBut (fun b => b = A) w w' := by
  have hL := look_att h hM nb hs
  have HP := Lib.hid (attIs_turn hM nb.data.toList v)
  rw [bT_data] at HP
  obtain ⟨hv1, hv2⟩ := hv
  obtain ⟨a, ha⟩ : ∃ a, decide (nb.data.toList ∈ r.asked) = a := ⟨_, rfl⟩
  rw [ha] at hL HP
  unfold attV at hL HP
  rw [← hv1, ← hv2] at HP
  obtain ⟨va, hva⟩ : ∃ va, (getL r.attrs nb).getD ⟨#[]⟩ = va := ⟨_, rfl⟩
  obtain ⟨ga, hga⟩ : ∃ ga, (getL r.attrs nb).isSome = ga := ⟨_, rfl⟩
  obtain ⟨t, ht⟩ : ∃ t, decide (nb.data.toList ∈ r.own) = t := ⟨_, rfl⟩
  rw [hva, hga, ht] at hL
  have hfd := fun w => field_att va ga t a w
  clear ha hM hv1 hv2 hva hga ht
  have HO := Lib.hid h
  clear h
  go_enter Tryz.func174, Tryz.ntmps174
  go_wp2_with (first
    | (at_mapUpdate; refine wpList_mapUpdate_own _ rfl _ _ _ 109 rfl 9 222 key_k Tryz.underlying109 heldR A n D rfl HO.out hn _ _ _ rfl rfl (key_of nb hs) _ [] rfl ?_; intro w5 hm5 hg5))
  go_end0
  exact ⟨rfl, ⟨_, hm5, HP.out⟩, (KeptBut.refl _ w).grown hg5 (fun j e => .inl (by injection e with e; exact e.symm))⟩
end Go.Proofs.YtbhlnemahhndoaaGreatDoor
namespace Go.Proofs.YtbhlnemahhndoaaGreatDoor
open Go.RowKit Go.Maps
set_option maxRecDepth 100000

/-! ### the two maps of words -/
def bIf : ByteArray := ⟨#[64, 105, 102]⟩
def bElse : ByteArray := ⟨#[64, 101, 108, 115, 101]⟩
def bEnd : ByteArray := ⟨#[64, 101, 110, 100]⟩
def bInclude : ByteArray := ⟨#[64, 105, 110, 99, 108, 117, 100, 101]⟩
def bSet : ByteArray := ⟨#[64, 115, 101, 116]⟩
def bUnset : ByteArray := ⟨#[64, 117, 110, 115, 101, 116]⟩

set_option maxHeartbeats 2000000 in
theorem anywhere_c (w : World) : Calls Tryz.prog 103 #[] w fun e w' => e = .returned (.map (some w.heap.size)) ∧ w'.ownsMap Tryz.prog 9 heldR w.heap.size 3 anyD ∧ Below w.heap.size w w' := by
  have hmm := @run_makeMap Tryz.prog
  have O0 := Lib.hid (World.ownsMap_made w Tryz.prog 9 heldR)
  go_enter Tryz.func103, Tryz.ntmps103
  go_wp2_with (first
    | (refine wpList_insert_own (H := Value) _ rfl _ _ _ 112 rfl 9 223 key_k Tryz.underlying112 heldR w.heap.size 0 _ rfl O0.out (by unfold maxLen; omega) _ _ _ rfl rfl (key_of bIf (by decide)) (.held mIf) [] rfl ?_; intro w1 o1 g1)
    | (refine wpList_insert_own (H := Value) _ rfl _ _ _ 112 rfl 9 223 key_k Tryz.underlying112 heldR w.heap.size 1 _ rfl o1 (by unfold maxLen; omega) _ _ _ rfl rfl (key_of bElse (by decide)) (.held mElse) [] rfl ?_; intro w2 o2 g2)
    | (refine wpList_insert_own (H := Value) _ rfl _ _ _ 112 rfl 9 223 key_k Tryz.underlying112 heldR w.heap.size 2 _ rfl o2 (by unfold maxLen; omega) _ _ _ rfl rfl (key_of bEnd (by decide)) (.held mEnd) [] rfl ?_; intro w3 o3 g3))
  go_ret
  have b0 := laidNew w (.map #[] 0)
  have hz := b0.size
  exact ⟨rfl, o3, ((b0.grown g1 hz (by intro k e; cases e; omega)).grown g2 (Nat.le_trans hz g1.size) (by intro k e; cases e; omega)).grown g3 (Nat.le_trans (Nat.le_trans hz g1.size) g2.size) (by intro k e; cases e; omega)⟩

set_option maxHeartbeats 2000000 in
theorem inForce_c (w : World) : Calls Tryz.prog 104 #[] w fun e w' => e = .returned (.map (some w.heap.size)) ∧ w'.ownsMap Tryz.prog 9 heldR w.heap.size 4 forceD ∧ Below w.heap.size w w' := by
  have hmm := @run_makeMap Tryz.prog
  have O0 := Lib.hid (World.ownsMap_made w Tryz.prog 9 heldR)
  go_enter Tryz.func104, Tryz.ntmps104
  go_wp2_with (first
    | (refine wpList_insert_own (H := Value) _ rfl _ _ _ 112 rfl 9 223 key_k Tryz.underlying112 heldR w.heap.size 0 _ rfl O0.out (by unfold maxLen; omega) _ _ _ rfl rfl (key_of bInclude (by decide)) (.held mInclude) [] rfl ?_; intro w1 o1 g1)
    | (refine wpList_insert_own (H := Value) _ rfl _ _ _ 112 rfl 9 223 key_k Tryz.underlying112 heldR w.heap.size 1 _ rfl o1 (by unfold maxLen; omega) _ _ _ rfl rfl (key_of bSet (by decide)) (.held mSet) [] rfl ?_; intro w2 o2 g2)
    | (refine wpList_insert_own (H := Value) _ rfl _ _ _ 112 rfl 9 223 key_k Tryz.underlying112 heldR w.heap.size 2 _ rfl o2 (by unfold maxLen; omega) _ _ _ rfl rfl (key_of bUnset (by decide)) (.held mUnset) [] rfl ?_; intro w3 o3 g3)
    | (refine wpList_insert_own (H := Value) _ rfl _ _ _ 112 rfl 9 223 key_k Tryz.underlying112 heldR w.heap.size 3 _ rfl o3 (by unfold maxLen; omega) _ _ _ rfl rfl (key_of ⟨#[]⟩ (by decide)) (.held mSay) [] rfl ?_; intro w4 o4 g4))
  go_ret
  have b0 := laidNew w (.map #[] 0)
  have hz := b0.size
  exact ⟨rfl, o4, (((b0.grown g1 hz (by intro k e; cases e; omega)).grown g2 (Nat.le_trans hz g1.size) (by intro k e; cases e; omega)).grown g3 (Nat.le_trans (Nat.le_trans hz g1.size) g2.size) (by intro k e; cases e; omega)).grown g4 (Nat.le_trans (Nat.le_trans (Nat.le_trans hz g1.size) g2.size) g3.size) (by intro k e; cases e; omega)⟩

/-! ### looks at them -/
theorem zero_deed (w : World) : (zeroValue 223).run Tryz.prog w = .ok .nilFunc w := by rfl
theorem look_deed {w : World} {b m : Nat} {D : DataW Value} (h : w.ownsMap Tryz.prog 9 heldR b m D) (s : ByteArray) (hs : s.size ≤ maxLen) (f : Value) (g : Bool) (hg : Maps.has D (.string s.data.toList) = g) (hf : D.atKey (.string s.data.toList) (.held .nilFunc) = .held f) :
    (Instr.lookup 112 (.map (some b)) (.string s) true).run Tryz.prog w = .ok (.tuple #[f, .bool g]) w := by
  obtain ⟨v, ps, hrun, hv⟩ := h.look_ok key_k Tryz.underlying112 (zero_deed _) (zd := .held .nilFunc) (zp := []) rfl (key_of s hs)
  rw [hrun, hg, heldR_out hv hf]
theorem any_if : Maps.has anyD (.string wIf) = true ∧ anyD.atKey (.string wIf) (.held .nilFunc) = .held mIf := ⟨by rfl, by rfl⟩
theorem any_else : Maps.has anyD (.string wElse) = true ∧ anyD.atKey (.string wElse) (.held .nilFunc) = .held mElse := ⟨by rfl, by rfl⟩
theorem any_end : Maps.has anyD (.string wEnd) = true ∧ anyD.atKey (.string wEnd) (.held .nilFunc) = .held mEnd := ⟨by rfl, by rfl⟩
theorem force_include : Maps.has forceD (.string wInclude) = true ∧ forceD.atKey (.string wInclude) (.held .nilFunc) = .held mInclude := ⟨by rfl, by rfl⟩
theorem force_set : Maps.has forceD (.string wSet) = true ∧ forceD.atKey (.string wSet) (.held .nilFunc) = .held mSet := ⟨by rfl, by rfl⟩
theorem force_unset : Maps.has forceD (.string wUnset) = true ∧ forceD.atKey (.string wUnset) (.held .nilFunc) = .held mUnset := ⟨by rfl, by rfl⟩
theorem force_say : Maps.has forceD (.string []) = true ∧ forceD.atKey (.string []) (.held .nilFunc) = .held mSay := ⟨by rfl, by rfl⟩
theorem any_other {s : List UInt8} (h1 : ¬ s = wIf) (h2 : ¬ s = wElse) (h3 : ¬ s = wEnd) : Maps.has anyD (.string s) = false ∧ anyD.atKey (.string s) (.held .nilFunc) = .held .nilFunc := by
  have hn : ∀ t : List UInt8, ¬ s = t → (Lit.string s : Lit) ≠ .string t := fun t h e => by injection e with e; exact h e
  have : Maps.has anyD (.string s) = false := by
    unfold anyD
    rw [has_put_other (hn _ h3), has_put_other (hn _ h2), has_put_other (hn _ h1)]; rfl
  exact ⟨this, atKey_of_not_has this _⟩
theorem force_other {s : List UInt8} (h1 : ¬ s = wInclude) (h2 : ¬ s = wSet) (h3 : ¬ s = wUnset) (h4 : ¬ s = []) : Maps.has forceD (.string s) = false ∧ forceD.atKey (.string s) (.held .nilFunc) = .held .nilFunc := by
  have hn : ∀ t : List UInt8, ¬ s = t → (Lit.string s : Lit) ≠ .string t := fun t h e => by injection e with e; exact h e
  have : Maps.has forceD (.string s) = false := by
    unfold forceD
    rw [has_put_other (hn _ h4), has_put_other (hn _ h3), has_put_other (hn _ h2), has_put_other (hn _ h1)]; rfl
  exact ⟨this, atKey_of_not_has this _⟩
end Go.Proofs.YtbhlnemahhndoaaGreatDoor
