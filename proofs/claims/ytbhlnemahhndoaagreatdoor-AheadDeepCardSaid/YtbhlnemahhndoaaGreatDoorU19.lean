/- Merged: RdSteps, OfC. -/
import Derived.Test.YtbhlnemahhndoaaGreatDoorU18
import Derived.Deep.AppendLies
namespace Go.Proofs.YtbhlnemahhndoaaGreatDoor
open Go.RowKit Go.Maps
set_option maxRecDepth 100000

/-! ### the steps of a Read, as they lie in memory -/
theorem heap_put (W : World) (K j : Nat) (v : Value) (cur : Array Value) (t : TypeId) (fr : Nat × Nat) (h : W.heap[K]? = some (.cells cur t fr)) : (W.setCell ⟨K, j, none⟩ v).heap[K]? = some (.cells (cur.setIfInBounds j v) t fr) := by
  obtain ⟨hlt, hk⟩ := Array.getElem?_eq_some_iff.1 h
  show (W.heap.modify K _)[K]? = _
  rw [Array.getElem?_eq_getElem (by rw [Array.size_modify]; exact hlt), Array.getElem_modify_self, hk]
  rfl
theorem heap_put_far (W : World) (p : Addr) (v : Value) (b : Nat) (h : b ≠ p.block) : (W.setCell p v).heap[b]? = W.heap[b]? := Below.heap_setCell W p v b h

section
variable {W w w1 w2 : World} {R K : Nat} {k : RdK} {srcs : List At} {x : RdV} {opn : List (List UInt8)} {r : Rd}

/-- what is left of a Read where one row has grown and one cell of its own is written -/
structure PutTo (W : World) (R : Nat) (k : RdK) (x : RdV) (r : Rd) (w : World) (row : Option Nat) (j : Nat) (u : Value) (w3 : World) : Prop where
  blk : w3.heap[R]? = some (.cells ((rdCells k x r.count).setIfInBounds j u) 115 (0, 0))
  map : ∀ D n, w.ownsMap Tryz.prog 9 heldR k.A n D → w3.ownsMap Tryz.prog 9 heldR k.A n D
  m1 : w3.ownsMap Tryz.prog 9 heldR k.d1 3 anyD
  m2 : w3.ownsMap Tryz.prog 9 heldR k.d2 4 forceD
  rows : ∀ {e : TypeId} {z n : Nat} {v : Value} {xs : List Value}, w.ownsRow W.heap.size e z v n xs → v.ownBlock ≠ some R → (∀ g, v.ownBlock = some g → row ≠ some g) → w3.ownsRow W.heap.size e z v n xs
  kept : KeptBut (Mine R k x) w w3
  bel : Below W.heap.size W w3
theorem RdIs.putTo (h : RdIs W R k srcs x K opn r w) (hb : Below w.heap.size w w1) {row : Option Nat} (hg : w1.grownBy w2 row) (hr : ∀ b, row = some b → Mine R k x b ∧ b ≠ R ∧ b ≠ k.A ∧ b ≠ k.d1 ∧ b ≠ k.d2) (j : Nat) (u : Value) :
    PutTo W R k x r w row j u (w2.setCell ⟨R, j, none⟩ u) := by
  have hR := h.lt R (.inl rfl)
  have hA := h.lt k.A (.inr (.inl rfl))
  have hRA : R ≠ k.A := by
    obtain ⟨D, n, hm, _⟩ := h.map
    exact fun e => (map_cells hm h.blk) e.symm
  have hR1 : R ≠ k.d1 := fun e => (map_cells h.m1 h.blk) e.symm
  have hR2 : R ≠ k.d2 := fun e => (map_cells h.m2 h.blk) e.symm
  have old : ∀ b, b < w.heap.size → row ≠ some b → w2.heap[b]? = w.heap[b]? := fun b hb2 hn => (hg.block b (Nat.lt_of_lt_of_le hb2 hb.size) (fun e => hn e.symm)).trans (hb.block b hb2)
  have old3 : ∀ b, b < w.heap.size → row ≠ some b → b ≠ R → (w2.setCell ⟨R, j, none⟩ u).heap[b]? = w.heap[b]? := fun b hb2 hn hR => (heap_put_far w2 ⟨R, j, none⟩ u b hR).trans (old b hb2 hn)
  have k3 : KeptBut (Mine R k x) w (w2.setCell ⟨R, j, none⟩ u) := (((KeptBut.below hb).grown hg (fun b e => .inl (hr b e).1))).setCell (.inl (.inl rfl)) u
  refine ⟨heap_put _ _ _ _ _ _ _ ((old R hR.2 (fun e => (hr R e).2.1 rfl)).trans h.blk), fun D n hm => keep_map hm (old3 _ hA.2 (fun e => (hr _ e).2.2.1 rfl) (Ne.symm hRA)), keep_map h.m1 (old3 _ h.m1.lt (fun e => (hr _ e).2.2.2.1 rfl) (Ne.symm hR1)), keep_map h.m2 (old3 _ h.m2.lt (fun e => (hr _ e).2.2.2.2 rfl) (Ne.symm hR2)), ?_, k3, ?_⟩
  · intro e z n v xs hv hvR hvr
    exact keep_row hv (fun g hg2 => old3 g (hv.lt g hg2).2 (fun e => hvr g hg2 e) (fun e => hvR (e ▸ hg2)))
  · exact ⟨k3.os.trans h.bel.os, k3.tape.trans h.bel.tape, k3.output.trans h.bel.output, Nat.le_trans h.bel.size k3.size, fun b hb2 => (k3.block b (Nat.lt_of_lt_of_le hb2 h.bel.size) (fun e => by have := (h.lt b e).1; omega)).trans (h.bel.block b hb2)⟩

theorem RdIs.row_far (h : RdIs W R k srcs x K opn r w) {e : TypeId} {z n b : Nat} {v : Value} {xs : List Value} (hv : w.ownsRow W.heap.size e z v n xs) (he : e ≠ 115) (hb : v.ownBlock = some b) : b ≠ R ∧ b ≠ k.A ∧ b ≠ k.d1 ∧ b ≠ k.d2 := by
  obtain ⟨D, m, hm, _⟩ := h.map
  exact ⟨fun e2 => row_cells hv h.blk he (e2 ▸ hb), fun e2 => row_map hv hm (e2 ▸ hb), fun e2 => row_map hv h.m1 (e2 ▸ hb), fun e2 => row_map hv h.m2 (e2 ▸ hb)⟩
theorem row_put {B n z R j : Nat} {e : TypeId} {v u : Value} {xs : List Value} (h : w.ownsRow B e z v n xs) (hR : v.ownBlock ≠ some R) : (w.setCell ⟨R, j, none⟩ u).ownsRow B e z v n xs :=
  keep_row h (fun g hg => heap_put_far w ⟨R, j, none⟩ u g (fun e => hR (hg.trans (congrArg some e))))

/-- a fault is told -/
theorem RdIs.told (h : RdIs W R k srcs x K opn r w) (hb : Below w.heap.size w w1) {file text : List UInt8} {no kind g cap : Nat}
    (r1 : w2.ownsRow W.heap.size 77 4 (.slice (some ⟨g, 0, none⟩) (r.diags.length + 1) cap) (r.diags.length + 1) (dgCells r.diags ++ [.string (bT file), .int .i64 (no : Int), .int .i64 (kind : Int), .string (bT text)])) (hg : w1.grownBy w2 x.dv.ownBlock) (hat : x.dv.ownBlock = some g ∨ w.heap.size ≤ g) :
    StepTo W R k srcs x w { x with dv := .slice (some ⟨g, 0, none⟩) (r.diags.length + 1) cap } K opn (r.tell file no kind text) (w2.setCell ⟨R, 7, none⟩ (.slice (some ⟨g, 0, none⟩) (r.diags.length + 1) cap)) := by
  have hp := h.putTo hb hg (fun b e => ⟨.inr (.inr (.inr (.inr (.inl e)))), h.row_far h.rdg (by decide) e⟩) 7 (.slice (some ⟨g, 0, none⟩) (r.diags.length + 1) cap)
  have hgR : g ≠ R := by
    rcases hat with e | e
    · exact (h.row_far h.rdg (by decide) e).1
    · have := (h.lt R (.inl rfl)).2; omega
  refine ⟨⟨hp.blk, ?_, hp.m1, hp.m2, ?_, ?_, ?_, ?_, h.ap, h.a1, h.a2, h.hB, hp.bel, h.src⟩, hp.kept, fun b hb2 => ?_⟩
  · obtain ⟨D, n, h1, h2⟩ := h.map; exact ⟨D, n, hp.map D n h1, h2⟩
  · exact hp.rows h.rop h.ov_R (fun g hg e => row_row h.rop h.rdg (by decide) g hg e)
  · exact hp.rows h.rln h.lv_R (fun g hg e => row_row h.rln h.rdg (by decide) g hg e)
  · show World.ownsRow _ _ _ _ _ (r.tell file no kind text).diags.length _
    unfold Rd.tell
    rw [List.length_append, dgCells_snoc]
    exact row_put r1 (fun e => hgR (by injection e))
  · exact hp.rows h.rfl' h.fv_R (fun g hg e => row_row h.rfl' h.rdg (by decide) g hg e)
  · rcases hb2 with e | e | e | e | e | e
    · exact .inl (.inl e)
    · exact .inl (.inr (.inl e))
    · exact .inl (.inr (.inr (.inl e)))
    · exact .inl (.inr (.inr (.inr (.inl e))))
    · obtain rfl : g = b := by injection e
      rcases hat with h1 | h1
      · exact .inl (.inr (.inr (.inr (.inr (.inl h1)))))
      · exact .inr h1
    · exact .inl (.inr (.inr (.inr (.inr (.inr e)))))

/-- a line is made -/
theorem RdIs.said (h : RdIs W R k srcs x K opn r w) (hb : Below w.heap.size w w1) {file text : List UInt8} {no g cap : Nat}
    (r1 : w2.ownsRow W.heap.size 82 3 (.slice (some ⟨g, 0, none⟩) (r.lines.length + 1) cap) (r.lines.length + 1) (lnCells r.lines ++ [.string (bT file), .int .i64 (no : Int), .string (bT text)])) (hg : w1.grownBy w2 x.lv.ownBlock) (hat : x.lv.ownBlock = some g ∨ w.heap.size ≤ g) :
    StepTo W R k srcs x w { x with lv := .slice (some ⟨g, 0, none⟩) (r.lines.length + 1) cap } K opn { r with lines := r.lines ++ [(file, no, text)] } (w2.setCell ⟨R, 6, none⟩ (.slice (some ⟨g, 0, none⟩) (r.lines.length + 1) cap)) := by
  have hp := h.putTo hb hg (fun b e => ⟨.inr (.inr (.inr (.inl e))), h.row_far h.rln (by decide) e⟩) 6 (.slice (some ⟨g, 0, none⟩) (r.lines.length + 1) cap)
  have hgR : g ≠ R := by
    rcases hat with e | e
    · exact (h.row_far h.rln (by decide) e).1
    · have := (h.lt R (.inl rfl)).2; omega
  refine ⟨⟨hp.blk, ?_, hp.m1, hp.m2, ?_, ?_, ?_, ?_, h.ap, h.a1, h.a2, h.hB, hp.bel, h.src⟩, hp.kept, fun b hb2 => ?_⟩
  · obtain ⟨D, n, h1, h2⟩ := h.map; exact ⟨D, n, hp.map D n h1, h2⟩
  · exact hp.rows h.rop h.ov_R (fun g hg e => row_row h.rop h.rln (by decide) g hg e)
  · rw [List.length_append, lnCells_snoc]
    exact row_put r1 (fun e => hgR (by injection e))
  · exact hp.rows h.rdg h.dv_R (fun g hg e => row_row h.rdg h.rln (by decide) g hg e)
  · exact hp.rows h.rfl' h.fv_R (fun g hg e => row_row h.rfl' h.rln (by decide) g hg e)
  · rcases hb2 with e | e | e | e | e | e
    · exact .inl (.inl e)
    · exact .inl (.inr (.inl e))
    · exact .inl (.inr (.inr (.inl e)))
    · obtain rfl : g = b := by injection e
      rcases hat with h1 | h1
      · exact .inl (.inr (.inr (.inr (.inl h1))))
      · exact .inr h1
    · exact .inl (.inr (.inr (.inr (.inr (.inl e)))))
    · exact .inl (.inr (.inr (.inr (.inr (.inr e)))))

/-- a file is begun -/
theorem RdIs.filed (h : RdIs W R k srcs x K opn r w) (hb : Below w.heap.size w w1) {file : List UInt8} {g cap : Nat}
    (r1 : w2.ownsRow W.heap.size 9 1 (.slice (some ⟨g, 0, none⟩) (r.files.length + 1) cap) (r.files.length + 1) (r.files.map strV ++ [.string (bT file)])) (hg : w1.grownBy w2 x.fv.ownBlock) (hat : x.fv.ownBlock = some g ∨ w.heap.size ≤ g) :
    StepTo W R k srcs x w { x with fv := .slice (some ⟨g, 0, none⟩) (r.files.length + 1) cap } K opn { r with files := r.files ++ [file] } (w2.setCell ⟨R, 8, none⟩ (.slice (some ⟨g, 0, none⟩) (r.files.length + 1) cap)) := by
  have hp := h.putTo hb hg (fun b e => ⟨.inr (.inr (.inr (.inr (.inr e)))), h.row_far h.rfl' (by decide) e⟩) 8 (.slice (some ⟨g, 0, none⟩) (r.files.length + 1) cap)
  have hgR : g ≠ R := by
    rcases hat with e | e
    · exact (h.row_far h.rfl' (by decide) e).1
    · have := (h.lt R (.inl rfl)).2; omega
  refine ⟨⟨hp.blk, ?_, hp.m1, hp.m2, ?_, ?_, ?_, ?_, ?_, h.a1, h.a2, h.hB, hp.bel, h.src⟩, hp.kept, fun b hb2 => ?_⟩
  · obtain ⟨D, n, h1, h2⟩ := h.map; exact ⟨D, n, hp.map D n h1, h2⟩
  · refine hp.rows h.rop h.ov_R (fun g hg e => ?_)
    rcases h.ap with e2 | e2
    · rw [e2] at hg; cases hg
    · exact e2 (hg.trans e.symm)
  · exact hp.rows h.rln h.lv_R (fun g hg e => row_row h.rln h.rfl' (by decide) g hg e)
  · exact hp.rows h.rdg h.dv_R (fun g hg e => row_row h.rdg h.rfl' (by decide) g hg e)
  · rw [List.length_append, List.map_append]
    exact row_put r1 (fun e => hgR (by injection e))
  · rcases h.ap with e2 | e2
    · exact .inl e2
    · right
      show x.ov.ownBlock ≠ some g
      rcases hat with e | e
      · rw [← e]; exact e2
      · intro e3
        have := (h.rop.lt g e3).2; omega
  · rcases hb2 with e | e | e | e | e | e
    · exact .inl (.inl e)
    · exact .inl (.inr (.inl e))
    · exact .inl (.inr (.inr (.inl e)))
    · exact .inl (.inr (.inr (.inr (.inl e))))
    · exact .inl (.inr (.inr (.inr (.inr (.inl e)))))
    · obtain rfl : g = b := by injection e
      rcases hat with h1 | h1
      · exact .inl (.inr (.inr (.inr (.inr (.inr h1)))))
      · exact .inr h1

/-- a source is opened -/
theorem RdIs.opened (h : RdIs W R k srcs x K opn r w) (hb : Below w.heap.size w w1) {file : List UInt8} {g cap : Nat}
    (r1 : w2.ownsRow W.heap.size 9 1 (.slice (some ⟨g, 0, none⟩) (opn.length + 1) cap) (opn.length + 1) (opn.map strV ++ [.string (bT file)])) (hg : w1.grownBy w2 x.ov.ownBlock) (hat : x.ov.ownBlock = some g ∨ w.heap.size ≤ g) :
    StepTo W R k srcs x w { x with ov := .slice (some ⟨g, 0, none⟩) (opn.length + 1) cap } K (opn ++ [file]) r (w2.setCell ⟨R, 4, none⟩ (.slice (some ⟨g, 0, none⟩) (opn.length + 1) cap)) := by
  have hp := h.putTo hb hg (fun b e => ⟨.inr (.inr (.inl e)), h.row_far h.rop (by decide) e⟩) 4 (.slice (some ⟨g, 0, none⟩) (opn.length + 1) cap)
  have hgR : g ≠ R := by
    rcases hat with e | e
    · exact (h.row_far h.rop (by decide) e).1
    · have := (h.lt R (.inl rfl)).2; omega
  refine ⟨⟨hp.blk, ?_, hp.m1, hp.m2, ?_, ?_, ?_, ?_, ?_, h.a1, h.a2, h.hB, hp.bel, h.src⟩, hp.kept, fun b hb2 => ?_⟩
  · obtain ⟨D, n, h1, h2⟩ := h.map; exact ⟨D, n, hp.map D n h1, h2⟩
  · rw [List.length_append, List.map_append]
    exact row_put r1 (fun e => hgR (by injection e))
  · exact hp.rows h.rln h.lv_R (fun g hg e => row_row h.rln h.rop (by decide) g hg e)
  · exact hp.rows h.rdg h.dv_R (fun g hg e => row_row h.rdg h.rop (by decide) g hg e)
  · refine hp.rows h.rfl' h.fv_R (fun g hg e => ?_)
    rcases h.ap with e2 | e2
    · rw [e2] at e; cases e
    · exact e2 (e.trans hg.symm)
  · right
    show (some g : Option Nat) ≠ x.fv.ownBlock
    intro e3
    rcases hat with e | e
    · rcases h.ap with e2 | e2
      · rw [e2] at e; cases e
      · exact e2 (e.trans e3)
    · have := (h.rfl'.lt g e3.symm).2; omega
  · rcases hb2 with e | e | e | e | e | e
    · exact .inl (.inl e)
    · exact .inl (.inr (.inl e))
    · obtain rfl : g = b := by injection e
      rcases hat with h1 | h1
      · exact .inl (.inr (.inr (.inl h1)))
      · exact .inr h1
    · exact .inl (.inr (.inr (.inr (.inl e))))
    · exact .inl (.inr (.inr (.inr (.inr (.inl e)))))
    · exact .inl (.inr (.inr (.inr (.inr (.inr e)))))

/-- the last source is closed -/
theorem row_less {B n m z : Nat} {e : TypeId} {p : Option Addr} {cap : Nat} {xs : List Value} (h : w.ownsRow B e z (.slice p n cap) n xs) (hm : m ≤ n) (h0 : 0 < n) : w.ownsRow B e z (.slice p m cap) m (xs.take (m * z)) := by
  obtain ⟨h1, h2⟩ := h
  refine ⟨by rw [List.length_take, h1]; exact Nat.min_eq_left (Nat.mul_le_mul_right z hm), ?_⟩
  rcases h2 with ⟨_, e⟩ | ⟨g, c, cur, hv, hB, hg, a1, a2, a3, a4⟩
  · omega
  · simp only [Value.slice.injEq] at hv
    obtain ⟨rfl, -, rfl⟩ := hv
    exact .inr ⟨g, _, cur, rfl, hB, hg, by omega, a2, a3, by rw [← a4, List.take_take, Nat.min_eq_left (Nat.mul_le_mul_right z hm)]⟩
theorem RdIs.closed (h : RdIs W R k srcs x K opn r w) {p : Option Addr} {cap : Nat} {o1 : List (List UInt8)} {f : List UInt8} (ho : opn = o1 ++ [f]) (hv : x.ov = .slice p opn.length cap) :
    StepTo W R k srcs x w { x with ov := .slice p o1.length cap } K o1 r (w.setCell ⟨R, 4, none⟩ (.slice p o1.length cap)) := by
  have hp := h.putTo (w1 := w) (w2 := w) (row := none) (Below.refl _ _) ⟨rfl, rfl, rfl, Nat.le_refl _, fun _ _ _ => rfl⟩ (fun b e => by cases e) 4 (.slice p o1.length cap)
  have hlen : opn.length = o1.length + 1 := by rw [ho]; simp
  have hob : (Value.slice p o1.length cap).ownBlock = x.ov.ownBlock := by rw [hv]; cases p <;> rfl
  refine ⟨⟨hp.blk, ?_, hp.m1, hp.m2, ?_, ?_, ?_, ?_, ?_, h.a1, h.a2, h.hB, hp.bel, h.src⟩, hp.kept, fun b hb2 => ?_⟩
  · obtain ⟨D, n, h1, h2⟩ := h.map; exact ⟨D, n, hp.map D n h1, h2⟩
  · have h1 := h.rop
    have h2 := h.ov_R
    rw [hv] at h1
    have h3 := row_less h1 (m := o1.length) (by omega) (by omega)
    have e : (opn.map strV).take (o1.length * 1) = o1.map strV := by rw [ho, Nat.mul_one, List.map_append]; exact List.take_left' (by simp)
    rw [e] at h3
    exact hp.rows h3 (by rw [hob]; exact h2) (fun g _ e => by cases e)
  · exact hp.rows h.rln h.lv_R (fun g hg e => by cases e)
  · exact hp.rows h.rdg h.dv_R (fun g hg e => by cases e)
  · exact hp.rows h.rfl' h.fv_R (fun g hg e => by cases e)
  · show (Value.slice p o1.length cap).ownBlock = none ∨ (Value.slice p o1.length cap).ownBlock ≠ _
    rw [hob]; exact h.ap
  · rcases hb2 with e | e | e | e
    · exact .inl (.inl e)
    · exact .inl (.inr (.inl e))
    · exact .inl (.inr (.inr (.inl (hob ▸ e))))
    · exact .inl (.inr (.inr (.inr e)))

/-- a line is counted -/
theorem RdIs.counted (h : RdIs W R k srcs x K opn r w) : StepTo W R k srcs x w x K opn { r with count := r.count + 1 } (w.setCell ⟨R, 5, none⟩ (.int .i64 ((r.count + 1 : Nat) : Int))) := by
  have hp := h.putTo (w1 := w) (w2 := w) (row := none) (Below.refl _ _) ⟨rfl, rfl, rfl, Nat.le_refl _, fun _ _ _ => rfl⟩ (fun b e => by cases e) 5 (.int .i64 ((r.count + 1 : Nat) : Int))
  refine ⟨⟨hp.blk, ?_, hp.m1, hp.m2, ?_, ?_, ?_, ?_, h.ap, h.a1, h.a2, h.hB, hp.bel, h.src⟩, hp.kept, fun b hb2 => .inl hb2⟩
  · obtain ⟨D, n, h1, h2⟩ := h.map; exact ⟨D, n, hp.map D n h1, h2⟩
  · exact hp.rows h.rop h.ov_R (fun g hg e => by cases e)
  · exact hp.rows h.rln h.lv_R (fun g hg e => by cases e)
  · exact hp.rows h.rdg h.dv_R (fun g hg e => by cases e)
  · exact hp.rows h.rfl' h.fv_R (fun g hg e => by cases e)

/-- what is known has turned -/
theorem RdIs.known (h : RdIs W R k srcs x K opn r w) {r' : Rd} {K' n' : Nat} {D' : DataW Value} (hk : KeptBut (fun b => b = k.A) w w2) (hm : w2.ownsMap Tryz.prog 9 heldR k.A n' D') (hn : n' ≤ K') (hA : AttIs D' r') (e1 : r'.lines = r.lines) (e2 : r'.diags = r.diags) (e3 : r'.files = r.files) (e4 : r'.count = r.count) :
    StepTo W R k srcs x w x K' opn r' w2 := by
  obtain ⟨D, n, h1, h2, h3⟩ := h.map
  have hR : R ≠ k.A := fun e => (map_cells h1 h.blk) e.symm
  have hkm : KeptBut (Mine R k x) w w2 := hk.mono (fun b e => .inr (.inl e))
  have far : ∀ {e : TypeId} {z n : Nat} {v : Value} {xs : List Value}, w.ownsRow W.heap.size e z v n xs → w2.ownsRow W.heap.size e z v n xs := fun hv => keep_row hv (fun g hg => hk.block g (hv.lt g hg).2 (fun e2 => row_map hv h1 (e2 ▸ hg)))
  refine ⟨⟨?_, ⟨D', n', hm, hn, hA⟩, keep_map h.m1 (hk.block _ h.m1.lt h.a1), keep_map h.m2 (hk.block _ h.m2.lt h.a2), far h.rop, ?_, ?_, ?_, h.ap, h.a1, h.a2, h.hB, ?_, h.src⟩, hkm, fun b hb => .inl hb⟩
  · rw [e4]; exact (hk.block R (h.lt R (.inl rfl)).2 hR).trans h.blk
  · rw [e1]; exact far h.rln
  · rw [e2]; exact far h.rdg
  · rw [e3]; exact far h.rfl'
  · exact ⟨hk.os.trans h.bel.os, hk.tape.trans h.bel.tape, hk.output.trans h.bel.output, Nat.le_trans h.bel.size hk.size, fun b hb2 => (hk.block b (Nat.lt_of_lt_of_le hb2 h.bel.size) (fun e => by have := (h.lt k.A (.inr (.inl rfl))).1; omega)).trans (h.bel.block b hb2)⟩
end
end Go.Proofs.YtbhlnemahhndoaaGreatDoor
namespace Go.Proofs.YtbhlnemahhndoaaGreatDoor
open Go.RowKit Go.Maps
set_option maxRecDepth 100000

theorem atCells_ofL (l : List At) (ns : List (List UInt8)) (n : List UInt8) (v : ByteArray) (h : getL l (bT n) = some v) : atCells (ofL l (ns ++ [n])) = atCells (ofL l ns) ++ [.string (bT n), .string v] := by
  rw [ofL_snoc, h, atCells_append]; rfl
theorem ofL_skip (l : List At) (ns : List (List UInt8)) (n : List UInt8) (h : getL l (bT n) = none) : ofL l (ns ++ [n]) = ofL l ns := by
  rw [ofL_snoc, h]; simp

set_option maxHeartbeats 4000000 in
theorem of_m (A n : Nat) (D : DataW Value) (r : Rd) (nv : Value) (ns : List (List UInt8)) (w : World) (h : w.ownsMap Tryz.prog 9 heldR A n D) (hM : AttIs D r) (hN : Texts w nv ns) (hl : ns.length ≤ 1000000) (hz : ∀ x ∈ ns, x.length ≤ 60) :
    Calls Tryz.prog 188 #[.map (some A), nv] w fun e w' => ∃ a, e = .returned a ∧ w'.ownsRow w.heap.size 84 2 a (ofL r.attrs ns).length (atCells (ofL r.attrs ns)) ∧ Below w.heap.size w w' := by
  obtain ⟨i0, hi, hz0, hz1, hz2⟩ := info_parts info48
  obtain ⟨p, cap, rfl, hl2, hc⟩ := hN
  have HM := Lib.hid hM
  have HO := Lib.hid h
  clear hM
  have hA := h.lt
  have HST : Hid (w.ownsRow w.heap.size 84 2 (.slice none 0 0) 0 []) := Lib.hid ⟨rfl, .inl ⟨rfl, rfl⟩⟩
  clear h
  go_enter Tryz.func188, Tryz.ntmps188
  go_wp2
  go_loopw [5, 11] (fun lv0 i wr => ∃ lv, lv = lv0 ∧ ∃ k : Nat, k ≤ ns.length ∧ i = .int .i64 k ∧ wr.ownsRow w.heap.size 84 2 lv (ofL r.attrs (ns.take k)).length (atCells (ofL r.attrs (ns.take k))) ∧ Below w.heap.size w wr) (fun _ i _ => ns.length - (intOf i).toNat)
  case atStart => exact ⟨_, rfl, 0, Nat.zero_le _, rfl, HST.out, Below.refl _ _⟩
  case round =>
    clear HST
    obtain ⟨lv, rfl, k, hk, rfl, hrow, hbel⟩ := hrel
    have HR := Lib.hid hrow
    clear hrow
    by_cases hlt : k < ns.length
    · have HT : Hid (ns.take (k + 1) = ns.take k ++ [ns[k]]) := Lib.hid (List.take_succ_eq_append_getElem hlt)
      have hnz := hz ns[k] (List.getElem_mem hlt)
      have hlen : (ofL r.attrs (ns.take k)).length ≤ k := by have := ofL_length r.attrs (ns.take k); rw [List.length_take] at this; omega
      obtain ⟨nb, hnb⟩ : ∃ nb, bT ns[k] = nb := ⟨_, rfl⟩
      have hnl : nb.data.toList = ns[k] := by rw [← hnb]; rfl
      have hs : nb.size ≤ maxLen := by
        have : nb.data.toList.length = nb.size := by simp
        rw [hnl] at this
        unfold maxLen; omega
      obtain ⟨b, rfl, hcc⟩ := hc (by omega)
      have c1 := hcc k hlt
      have hb := World.block_lt_of_cell? w _ c1
      have d1 : wr.cell? ⟨b, k, none⟩ = some (.string nb) := by rw [← hnb]; exact (hbel.cell (p := ⟨b, k, none⟩) hb).trans c1
      have hL := look_att (keep_map HO.out (hbel.block _ hA)) HM.out nb hs
      have HK : Hid (ns[k] = nb.data.toList) := Lib.hid hnl.symm
      obtain ⟨t, ht⟩ : ∃ t, decide (nb.data.toList ∈ r.own) = t := ⟨_, rfl⟩
      obtain ⟨a, ha⟩ : ∃ a, decide (nb.data.toList ∈ r.asked) = a := ⟨_, rfl⟩
      rw [ht, ha] at hL
      clear ht ha hc hcc c1 hnb hnl hnz
      cases hg : getL r.attrs nb with
      | none =>
        rw [hg] at hL
        unfold attV at hL
        simp only [Option.getD_none, Option.isSome_none] at hL
        have HN : Hid (ofL r.attrs (ns.take (k + 1)) = ofL r.attrs (ns.take k)) := Lib.hid (by rw [HT.out]; exact ofL_skip _ _ _ (by rw [HK.out, bT_data]; exact hg))
        clear hg
        go_wp2
        go_roundw
        case rel => exact ⟨_, rfl, k + 1, by omega, by go_num, by rw [HN.out]; exact keep_row HR.out (fun g hg => (laidNew wr _).block g (HR.out.lt g hg).2), behind hbel (laidNew _ _)⟩
        case measure => simp [intOf]; omega
      | some vb =>
        rw [hg] at hL
        unfold attV at hL
        simp only [Option.getD_some, Option.isSome_some] at hL
        have HN : Hid (atCells (ofL r.attrs (ns.take (k + 1))) = atCells (ofL r.attrs (ns.take k)) ++ [.string nb, .string vb] ∧ (ofL r.attrs (ns.take (k + 1))).length = (ofL r.attrs (ns.take k)).length + 1) := Lib.hid (by
          have hg' : getL r.attrs (bT ns[k]) = some vb := by rw [HK.out, bT_data]; exact hg
          refine ⟨?_, ?_⟩
          · rw [HT.out, atCells_ofL _ _ _ vb hg', HK.out, bT_data]
          · rw [HT.out, ofL_snoc, hg', List.length_append]; rfl)
        clear hg
        have hm1 : Hid ((ofL r.attrs (ns.take k)).length + 1 ≤ maxLen) := Lib.hid (by unfold maxLen; omega)
        have hm2 : Hid (((ofL r.attrs (ns.take k)).length + 1) * 32 ≤ 140737488355328) := Lib.hid (by omega)
        have hz9 := hbel.size
        have HR2 : Hid (((wr.alloc (.cells #[.string vb, .bool true, .bool t, .bool a] 222)).alloc (.cells #[.string nb, .string vb] 84)).ownsRow w.heap.size 84 2 lv (ofL r.attrs (ns.take k)).length (atCells (ofL r.attrs (ns.take k)))) := Lib.hid ((HR.out.alloc _).alloc _)
        go_wp2_with (at_builtin; refine wpList_append_own _ rfl _ _ 22 rfl w.heap.size 84 i0 (.agg #[.string ⟨#[]⟩, .string ⟨#[]⟩]) 2 32 Tryz.underlying22 hi hz0 hz1 hz2 rfl (by decide) _ _ _ rfl HR2.out ⟨wr.heap.size + 1, 0, none⟩ 1 1 [.string nb, .string vb] rfl rfl (by have := pair_new (wr.alloc (.cells #[.string vb, .bool true, .bool t, .bool a] 222)) (.string nb) (.string vb) 84; simpa using this) (pair_one _ _) hm1.out hm2.out (by simp; omega) ?_; intro lv6 w6 r6 g6 _)
        go_roundw
        case rel => exact ⟨_, rfl, k + 1, by omega, by go_num, by rw [HN.out.1, HN.out.2]; exact r6, (behind (behind hbel (laidNew wr (.cells #[.string vb, .bool true, .bool t, .bool a] 222))) (laidNew _ (.cells #[.string nb, .string vb] 84))).grown g6 (by simp; omega) (fun j e => (HR.out.lt j e).1)⟩
        case measure => simp [intOf]; omega
    · have HE : Hid (ns.take k = ns) := Lib.hid (List.take_of_length_le (by omega))
      go_wp2
      go_ret
      exact ⟨_, rfl, by rw [HE.out] at HR; exact HR.out, hbel⟩
end Go.Proofs.YtbhlnemahhndoaaGreatDoor
