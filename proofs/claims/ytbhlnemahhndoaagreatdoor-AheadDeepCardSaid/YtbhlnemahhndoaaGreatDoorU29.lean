/- Merged: DeedS, DeedT, PartsM, BeginM. -/
import Derived.Test.YtbhlnemahhndoaaGreatDoorVSayC
import Derived.Test.YtbhlnemahhndoaaGreatDoorU20
import Derived.Test.YtbhlnemahhndoaaGreatDoorU24
import Derived.Test.YtbhlnemahhndoaaGreatDoorU15
import Derived.Test.YtbhlnemahhndoaaGreatDoorVCutA
import Derived.StillTailTactics
namespace Go.Proofs.YtbhlnemahhndoaaGreatDoor
open Go.RowKit Go.Maps
set_option maxRecDepth 100000

/-! ### what a line does, to the Read and to its source -/
/-- the blocks that a line may write to -/
def Touch (R s : Nat) (k : RdK) (x : RdV) (cv : Value) (b : Nat) : Prop := Mine R k x b ∨ b = s ∨ cv.ownBlock = some b
structure SStep (W : World) (R s : Nat) (k : RdK) (srcs : List At) (file : List UInt8) (x : RdV) (cv : Value) (w : World) (x' : RdV) (cv' : Value) (K' : Nat) (opn' : List (List UInt8)) (cs' : List CondP) (r' : Rd) (w' : World) : Prop where
  rd : RdIs W R k srcs x' K' opn' r' w'
  src : SrcIs W R s file cv' cs' w'
  kept : KeptBut (Touch R s k x cv) w w'
  mine : ∀ b, Touch R s k x' cv' b → Touch R s k x cv b ∨ w.heap.size ≤ b
section
variable {W w w1 w2 : World} {R s K K1 K2 : Nat} {k : RdK} {srcs : List At} {file : List UInt8} {x x1 x2 : RdV} {cv cv1 cv2 : Value} {o1 o2 opn : List (List UInt8)} {cs c1 c2 : List CondP} {r r1 r2 : Rd}
theorem SStep.refl (h : RdIs W R k srcs x K opn r w) (hs : SrcIs W R s file cv cs w) : SStep W R s k srcs file x cv w x cv K opn cs r w := ⟨h, hs, KeptBut.refl _ _, fun _ h => .inl h⟩
theorem SStep.trans (h : SStep W R s k srcs file x cv w x1 cv1 K1 o1 c1 r1 w1) (h2 : SStep W R s k srcs file x1 cv1 w1 x2 cv2 K2 o2 c2 r2 w2) : SStep W R s k srcs file x cv w x2 cv2 K2 o2 c2 r2 w2 :=
  ⟨h2.rd, h2.src, kept_wide h.kept h2.kept h.mine, fun b hb => by
    rcases h2.mine b hb with h' | h'
    · exact h.mine b h'
    · exact .inr (Nat.le_trans h.kept.size h')⟩
theorem SStep.below (h : SStep W R s k srcs file x cv w x1 cv1 K1 o1 c1 r1 w1) (hb : Below w1.heap.size w1 w2) : SStep W R s k srcs file x cv w x1 cv1 K1 o1 c1 r1 w2 :=
  ⟨h.rd.below hb, h.src.below hb, kept_wide (S2 := fun _ => False) h.kept (KeptBut.below hb) (fun _ e => e.elim), h.mine⟩
theorem SStep.ahead (hb : Below w.heap.size w w1) (h : SStep W R s k srcs file x cv w1 x1 cv1 K1 o1 c1 r1 w2) : SStep W R s k srcs file x cv w x1 cv1 K1 o1 c1 r1 w2 :=
  ⟨h.rd, h.src, (KeptBut.below hb).trans h.kept, fun b hb2 => by
    rcases h.mine b hb2 with h' | h'
    · exact .inl h'
    · exact .inr (Nat.le_trans hb.size h')⟩
theorem SStep.mono (h : SStep W R s k srcs file x cv w x1 cv1 K1 o1 c1 r1 w1) {K' : Nat} (hK : K1 ≤ K') : SStep W R s k srcs file x cv w x1 cv1 K' o1 c1 r1 w1 := ⟨h.rd.mono hK, h.src, h.kept, h.mine⟩
/-- a step of the Read alone -/
theorem StepTo.deed (h : StepTo W R k srcs x w x1 K1 o1 r1 w1) (h0 : RdIs W R k srcs x K opn r w) (hs : SrcIs W R s file cv cs w) : SStep W R s k srcs file x cv w x1 cv K1 o1 cs r1 w1 :=
  ⟨h.rd, hs.step h0 h.kept (fun _ e => e), h.kept.mono (fun _ e => .inl e), fun b hb => by
    rcases hb with e | e
    · rcases h.mine b e with h' | h'
      · exact .inl (.inl h')
      · exact .inr h'
    · exact .inl (.inr e)⟩
end
/-- how what a line does ends -/
def Deed (W : World) (R s : Nat) (k : RdK) (srcs : List At) (file : List UInt8) (x : RdV) (cv : Value) (w : World) (K' : Nat) (opn : List (List UInt8)) (p : List CondP × Rd) (e : Ending) (w' : World) : Prop :=
  e = .returned (.tuple #[]) ∧ ∃ x' cv', SStep W R s k srcs file x cv w x' cv' K' opn p.1 p.2 w'

/-- a line, boxed -/
structure Boxed (w w1 : World) (fb : ByteArray) (no : Nat) (tb wb rb : ByteArray) : Prop where
  bel : Below w.heap.size w w1
  siz : w1.heap.size = w.heap.size + 1
  p0 : w1.cell? ⟨w.heap.size, 0, none⟩ = some (.string fb)
  p1 : w1.cell? ⟨w.heap.size, 1, none⟩ = some (.int .i64 (no : Int))
  p2 : w1.cell? ⟨w.heap.size, 2, none⟩ = some (.string tb)
  p3 : w1.cell? ⟨w.heap.size, 3, none⟩ = some (.string wb)
  p4 : w1.cell? ⟨w.heap.size, 4, none⟩ = some (.string rb)
theorem boxed (w : World) (fb : ByteArray) (no : Nat) (tb wb rb : ByteArray) : ∃ w1, w.alloc (.cells #[.string fb, .int .i64 (no : Int), .string tb, .string wb, .string rb] 234) = w1 ∧ Boxed w w1 fb no tb wb rb :=
  ⟨_, rfl, ⟨laidNew _ _, by simp, by rw [World.cell?_alloc_new]; rfl, by rw [World.cell?_alloc_new]; rfl, by rw [World.cell?_alloc_new]; rfl, by rw [World.cell?_alloc_new]; rfl, by rw [World.cell?_alloc_new]; rfl⟩⟩

set_option maxHeartbeats 4000000 in
theorem unset_m (W : World) (R s K : Nat) (k : RdK) (srcs : List At) (x : RdV) (opn : List (List UInt8)) (r : Rd) (cv : Value) (cs : List CondP) (fb tb wb rb : ByteArray) (no : Nat) (w : World) (h : RdIs W R k srcs x K opn r w) (hs : SrcIs W R s fb.data.toList cv cs w)
    (ht : rb.size ≤ 100000) (hK : K + 100000 < maxLen) (hd : r.diags.length ≤ 1000000) :
    Calls Tryz.prog 153 #[.pointer (some ⟨s, 0, none⟩), lineV fb no tb wb rb] w (Deed W R s k srcs fb.data.toList x cv w (K + 1) opn (cs, if cutE [] (bT rb.data.toList) = 0 then r.turn rb.data.toList [] else r.tell fb.data.toList no 3 tb.data.toList)) := by
  rw [bT_data]
  obtain ⟨W1, hW1, bx⟩ := boxed w fb no tb wb rb
  have h1 := h.below bx.bel
  have hs1 := hs.below bx.bel
  have p0 := bx.p0
  have p1 := bx.p1
  have p2 := bx.p2
  have p4 := bx.p4
  have hU := unset_any (.slice none 0 0) [] rb W1 (nil_attrs W1) (by omega)
  have BX := Lib.hid bx
  have HH := Lib.hid h
  have HS := Lib.hid hs
  have H1 := Lib.hid h1
  have HS1 := Lib.hid hs1
  clear h hs h1 hs1 bx
  generalize hE : cutE [] rb = E at *
  unfold lineV
  by_cases hE0 : E = 0
  · subst hE0
    rw [if_pos rfl]
    go_enter Tryz.func153, Tryz.ntmps153
    go_wp2_with (go_at_call 175; refine hU.mono ?_; rintro e w2 ⟨av, rfl, -, hb2⟩; have d0 := keep_cell hb2 p4; have d3 : w2.cell? ⟨s, 0, none⟩ = some (.pointer (some ⟨R, 0, none⟩)) := cell_at (j := 0) (HS1.out.below hb2).blk rfl; have d4 : w2.cell? ⟨R, 1, none⟩ = some (.map (some k.A)) := (H1.out.below hb2).cells 1 _ rfl; have z2 := hb2.size)
    go_still_tail 9, (by kernel_rfl)
    change wpList _ _ _ _ _ w2.drew
    have hT := (H1.out.below (behind hb2 (Below.refl _ _).drew)).turns rb ⟨#[]⟩ false none ⟨rfl, rfl⟩ (by omega) (by unfold maxLen; omega)
    go_wp2_with (go_at_call 174; refine hT.mono ?_; rintro e w3 ⟨rfl, hst⟩)
    go_end0
    exact ⟨rfl, _, cv, (((hst.ahead (behind hb2 (Below.refl _ _).drew)).deed H1.out HS1.out).ahead BX.out.bel)⟩
  · rw [if_neg hE0]
    have hE1 : ((E : Int) == 0) = false := by rw [beq_eq_false_iff_ne]; omega
    go_enter Tryz.func153, Tryz.ntmps153
    go_wp2_with (go_at_call 175; refine hU.mono ?_; rintro e w2 ⟨av, rfl, -, hb2⟩; have d0 := keep_cell hb2 p0; have d1 := keep_cell hb2 p1; have d2 := keep_cell hb2 p2; have d3 : w2.cell? ⟨s, 0, none⟩ = some (.pointer (some ⟨R, 0, none⟩)) := cell_at (j := 0) (HS1.out.below hb2).blk rfl; have z2 := hb2.size)
    go_still_tail 8, (by kernel_rfl)
    change wpList _ _ _ _ _ w2.drew
    have hT := tell_c W R K k srcs x opn r fb tb no 3 w2.drew (H1.out.below (behind hb2 (Below.refl _ _).drew)) hd
    go_wp2_with (go_at_call 168; refine hT.mono ?_; rintro e w3 ⟨rfl, x', hst⟩)
    go_end0
    exact ⟨rfl, x', cv, (((hst.ahead (behind hb2 (Below.refl _ _).drew)).deed H1.out HS1.out).ahead BX.out.bel).mono (by omega)⟩

set_option maxHeartbeats 8000000 in
theorem set_m (W : World) (R s K : Nat) (k : RdK) (srcs : List At) (x : RdV) (opn : List (List UInt8)) (r : Rd) (cv : Value) (cs : List CondP) (fb tb wb rb : ByteArray) (no : Nat) (w : World) (h : RdIs W R k srcs x K opn r w) (hs : SrcIs W R s fb.data.toList cv cs w)
    (ht : rb.size ≤ 100000) (hok : CutOk rb) (hv : ∀ a ∈ r.attrs, a.2.size ≤ 100000) (hK : K + 100001 < maxLen) (hd : r.diags.length ≤ 1000000) (hz : (r.fill (cutW rb.data.toList).2).1.length ≤ 140737488351232) :
    Calls Tryz.prog 152 #[.pointer (some ⟨s, 0, none⟩), lineV fb no tb wb rb] w (Deed W R s k srcs fb.data.toList x cv w (K + 100001) opn
      (cs, let n := (cutW rb.data.toList).1; let f := r.fill (cutW rb.data.toList).2; if setE [] (bT n) (bT f.1) = 0 then f.2.turn n (setL [] (bT n) (bT f.1)) else f.2.tell fb.data.toList no 3 tb.data.toList)) := by
  obtain ⟨W1, hW1, bx⟩ := boxed w fb no tb wb rb
  have h1 := h.below bx.bel
  have hs1 := hs.below bx.bel
  have p4 := bx.p4
  have hC := cut_c rb W1 (by omega) hok
  unfold cutV at hC
  have hrb : rb.data.toList.length = rb.size := by simp
  have hn1 : (cutW rb.data.toList).1.length ≤ 100000 := by
    have : (cutW rb.data.toList).1.length ≤ rb.data.toList.length := (List.takeWhile_sublist _).length_le
    omega
  have hn2 : (cutW rb.data.toList).2.length ≤ 100000 := by
    have : (cutW rb.data.toList).2.length ≤ rb.data.toList.length := by
      unfold cutW trimL
      simp only [List.length_reverse]
      refine Nat.le_trans (List.dropWhile_sublist _).length_le ?_
      rw [List.length_reverse]
      exact Nat.le_trans (List.dropWhile_sublist _).length_le (List.dropWhile_sublist _).length_le
    omega
  generalize (cutW rb.data.toList).1 = n at *
  generalize (cutW rb.data.toList).2 = v at *
  have hal : (r.fill v).2.diags = r.diags := (ask_fold _ r).2.2.1
  generalize hfr : r.fill v = fr at *
  obtain ⟨f1, f2⟩ := fr
  simp only at hz hal ⊢
  have H1 := Lib.hid h1
  have HS1 := Lib.hid hs1
  have HF := Lib.hid hfr
  clear hfr
  unfold lineV
  have hbn : (bT n).size ≤ 100000 := by rw [bT_size]; exact hn1
  have hbv : (bT v).size ≤ 100000 := by rw [bT_size]; exact hn2
  have hbf : (bT f1).size ≤ 140737488351232 := by rw [bT_size]; exact hz
  have hvd : (bT v).data.toList = v := rfl
  obtain ⟨nb, hnb⟩ : ∃ nb, bT n = nb := ⟨_, rfl⟩
  obtain ⟨vb, hvb⟩ : ∃ vb, bT v = vb := ⟨_, rfl⟩
  obtain ⟨fb1, hfb⟩ : ∃ fb1, bT f1 = fb1 := ⟨_, rfl⟩
  have hnd : n = nb.data.toList := by rw [← hnb]; rfl
  rw [hnb] at hC hbn
  rw [hvb] at hC hbv hvd
  rw [hnb, hfb]
  rw [hfb] at hbf
  have hFI := fun w2 (hb2 : Below W1.heap.size W1 w2) => fill_m W R K k srcs x opn r vb w2 (H1.out.below hb2) hbv hv (by omega)
  rw [hvd, HF.out] at hFI
  simp only [hfb] at hFI
  have HSE := fun w2 => set_any (.slice none 0 0) [] nb fb1 w2 (nil_attrs w2) (by omega) hbf
  have hone : setE [] nb fb1 = 0 → setL [] nb fb1 = oneL nb (some fb1) := fun e => by unfold setL; rw [if_pos e]; rfl
  generalize hE : setE [] nb fb1 = E at *
  generalize hL : setL [] nb fb1 = L at *
  have q0 := bx.p0
  have q1 := bx.p1
  have q2 := bx.p2
  have HALL : Hid (f2.diags = r.diags ∧ f2.attrs = f2.attrs ∧ True) := Lib.hid ⟨hal, rfl, trivial⟩
  have HNB : Hid (n = nb.data.toList) := Lib.hid hnd
  have HQ := Lib.hid (show (∀ b, b < w.heap.size + 1 → ¬ Mine R k x b → True) from fun _ _ _ => trivial)
  have hnm : ¬ Mine R k x w.heap.size := fun e => by have := (h.lt _ e).2; omega
  have hsl : s < W1.heap.size := heap_lt hs1.blk
  have hq1 : w.heap.size < W1.heap.size := by have := bx.siz; omega
  have hsn : ¬ Mine R k x s := (src_not_mine h1 hs1).1
  have BX := Lib.hid bx
  have H0 := Lib.hid h
  have HM := Lib.hid hnm
  have HN := Lib.hid hsn
  clear h hs h1 hs1 bx hnd hvd hrb hn1 hn2 hz hal hnb hvb hfb hnm hsn
  by_cases hE0 : E = 0
  · subst hE0
    rw [if_pos rfl, hone rfl]
    clear hone
    go_enter Tryz.func152, Tryz.ntmps152
    go_wp2_with (first
      | (go_at_call 171; refine hC.mono ?_; rintro e w2 ⟨rfl, hb2⟩; have d3 : w2.cell? ⟨s, 0, none⟩ = some (.pointer (some ⟨R, 0, none⟩)) := cell_at (j := 0) (HS1.out.below hb2).blk rfl)
      | (go_at_call 172; refine (hFI _ hb2).mono ?_; rintro e w3 ⟨rfl, hst⟩)
      | (go_at_call 173; refine (HSE _).mono ?_; rintro e w4 ⟨av, rfl, -, hb4⟩; have h4 := hst.rd.below hb4; have d4 : w4.cell? ⟨R, 1, none⟩ = some (.map (some k.A)) := h4.cells 1 _ rfl; have d5 : w4.cell? ⟨s, 0, none⟩ = some (.pointer (some ⟨R, 0, none⟩)) := (keep_cell hb4 ((hst.kept.cell (p := ⟨s, 0, none⟩) (Nat.lt_of_lt_of_le hsl hb2.size) HN.out).trans d3)))
      | (go_at_call 174; refine (h4.turns nb fb1 true (some fb1) ⟨rfl, rfl⟩ (by omega) (by unfold maxLen; omega)).mono ?_; rintro e w5 ⟨rfl, hst2⟩))
    go_end0
    rw [HNB.out]
    exact ⟨rfl, _, cv, ((((((hst.trans (hst2.ahead hb4)).ahead hb2).deed H1.out HS1.out).ahead BX.out.bel).mono (by omega)))⟩
  · rw [if_neg hE0]
    clear hone
    have hE1 : ((E : Int) == 0) = false := by rw [beq_eq_false_iff_ne]; omega
    go_enter Tryz.func152, Tryz.ntmps152
    go_wp2_with (first
      | (go_at_call 171; refine hC.mono ?_; rintro e w2 ⟨rfl, hb2⟩; have d3 : w2.cell? ⟨s, 0, none⟩ = some (.pointer (some ⟨R, 0, none⟩)) := cell_at (j := 0) (HS1.out.below hb2).blk rfl)
      | (go_at_call 172; refine (hFI _ hb2).mono ?_; rintro e w3 ⟨rfl, hst⟩)
      | (go_at_call 173; refine (HSE _).mono ?_; rintro e w4 ⟨av, rfl, -, hb4⟩; have h4 := hst.rd.below hb4; have keep := fun (p : Addr) (u : Value) (hp : p.block < W1.heap.size) (hn : ¬ Mine R k x p.block) (hu : W1.cell? p = some u) => (keep_cell hb4 ((hst.kept.cell (p := p) (Nat.lt_of_lt_of_le hp hb2.size) hn).trans (keep_cell hb2 hu)) : w4.cell? p = some u); have d5 := keep ⟨s, 0, none⟩ _ hsl HN.out (cell_at (j := 0) HS1.out.blk (v := .pointer (some ⟨R, 0, none⟩)) rfl); have d6 := keep ⟨w.heap.size, 0, none⟩ _ hq1 HM.out q0; have d7 := keep ⟨w.heap.size, 1, none⟩ _ hq1 HM.out q1; have d8 := keep ⟨w.heap.size, 2, none⟩ _ hq1 HM.out q2; clear keep))
    go_still_tail 8, (by kernel_rfl)
    change wpList _ _ _ _ _ w4.drew
    have hT := tell_c W R (K + vb.size) k srcs x opn f2 fb tb no 3 w4.drew (h4.below (Below.refl _ _).drew) (by rw [HALL.out.1]; exact hd)
    go_wp2_with (go_at_call 168; refine hT.mono ?_; rintro e w5 ⟨rfl, x', hst2⟩)
    go_end0
    exact ⟨rfl, _, cv, ((((((hst.trans (hst2.ahead (behind hb4 (Below.refl _ _).drew))).ahead hb2).deed H1.out HS1.out).ahead BX.out.bel).mono (by omega)))⟩
end Go.Proofs.YtbhlnemahhndoaaGreatDoor
namespace Go.Proofs.YtbhlnemahhndoaaGreatDoor
open Go.RowKit Go.Maps
set_option maxRecDepth 100000

section
variable {W w : World} {R s g cap K : Nat} {k : RdK} {srcs : List At} {x : RdV} {opn : List (List UInt8)} {r : Rd} {file : List UInt8} {cv : Value} {c : CondP} {t cs : List CondP}
/-- what is written to a source's own blocks alone leaves the Read -/
theorem RdIs.apart (h : RdIs W R k srcs x K opn r w) (hs : SrcIs W R s file cv cs w) {b : Nat} (hb : b = s ∨ cv.ownBlock = some b) (j : Nat) (u : Value) : RdIs W R k srcs x K opn r (w.setCell ⟨b, j, none⟩ u) := by
  refine h.kept (S := fun i => i = b) ((KeptBut.refl (fun i => i = b) w).setCell (p := ⟨b, j, none⟩) (.inl rfl) u) ?_
  rintro i rfl
  rcases hb with rfl | hb
  · exact ⟨(src_not_mine h hs).1, (src_not_mine h hs).2.1, (src_not_mine h hs).2.2, hs.hB⟩
  · have := cv_not_mine h hs i hb
    exact ⟨this.1, this.2.2.1, this.2.2.2, (hs.row.lt i hb).1⟩
/-- one behind the other: the second part of a condition -/
theorem SrcIs.elsed (hs : SrcIs W R s file (.slice (some ⟨g, 0, none⟩) (t.length + 1) cap) (c :: t) w) :
    SrcIs W R s file (.slice (some ⟨g, 0, none⟩) (t.length + 1) cap) ({ c with else1 := true } :: t) (w.setCell ⟨g, t.length * 5 + 4, none⟩ (.int .i64 1)) := by
  have hgs : s ≠ g := fun e => row_cells hs.row hs.blk (by decide) (by rw [e]; rfl)
  refine ⟨(heap_put_far w ⟨g, _, none⟩ _ s hgs).trans hs.blk, ?_, hs.good, hs.hB⟩
  have hr := hs.row
  have e : cdCells file ({ c with else1 := true } :: t) = (cdCells file (c :: t)).set (t.length * 5 + 4) (.int .i64 1) := by
    unfold cdCells
    rw [List.set_append_right _ _ (by rw [cdCells_length]; omega), cdCells_length, Nat.add_sub_cancel_left]
    rfl
  rw [e]
  refine ⟨by rw [List.length_set]; exact hr.1, ?_⟩
  rcases hr.2 with ⟨h1, _⟩ | ⟨g', c', cur, hv, hB, hg, a1, a2, a3, a4⟩
  · cases h1
  · simp only [Value.slice.injEq, Option.some.injEq, Addr.mk.injEq, and_true] at hv
    obtain ⟨rfl, -, rfl⟩ := hv
    refine .inr ⟨g, cap, _, rfl, hB, heap_put w g _ _ cur _ _ hg, a1, a2, by rw [Array.size_setIfInBounds]; exact a3, ?_⟩
    rw [Array.toList_setIfInBounds, List.take_set]; exact congrArg (fun l => List.set l _ _) a4
theorem SrcIs.ended {p : Option Addr} (hs : SrcIs W R s file (.slice p (t.length + 1) cap) (c :: t) w) :
    SrcIs W R s file (.slice p t.length cap) t (w.setCell ⟨s, 1, none⟩ (.slice p t.length cap)) := by
  have hr := hs.row
  have hsr : (Value.slice p (t.length + 1) cap).ownBlock ≠ some s := row_cells hr hs.blk (by decide)
  refine ⟨heap_put w s 1 _ _ _ _ hs.blk, ?_, hs.good.2, hs.hB⟩
  have h3 := row_less hr (m := t.length) (by simp) (by simp)
  have e : (cdCells file (c :: t)).take (t.length * 5) = cdCells file t := by show (cdCells file t ++ cdCell file c).take _ = _; exact List.take_left' (cdCells_length _ _)
  rw [e] at h3
  exact keep_row h3 (fun i hi => heap_put_far w ⟨s, 1, none⟩ _ i (fun e2 => hsr (by subst e2; cases p <;> first | (cases hi; done) | exact hi)))
end

/-- an @else -/
def elseL (file : List UInt8) (no : Nat) (line : List UInt8) (cs : List CondP) (r : Rd) : List CondP × Rd :=
  match cs with
  | [] => (cs, r.tell file no 4 line)
  | c :: t => if c.else1 = true then (cs, r.tell file no 4 line) else ({ c with else1 := true } :: t, r)
/-- an @end -/
def endL (file : List UInt8) (no : Nat) (line : List UInt8) (cs : List CondP) (r : Rd) : List CondP × Rd :=
  match cs with
  | [] => (cs, r.tell file no 4 line)
  | _ :: t => (t, r)

set_option maxHeartbeats 4000000 in
theorem else_m (W : World) (R s K : Nat) (k : RdK) (srcs : List At) (x : RdV) (opn : List (List UInt8)) (r : Rd) (cv : Value) (cs : List CondP) (fb tb wb rb : ByteArray) (no : Nat) (w : World) (h : RdIs W R k srcs x K opn r w) (hs : SrcIs W R s fb.data.toList cv cs w)
    (hc : cs.length ≤ 1000000) (hd : r.diags.length ≤ 1000000) :
    Calls Tryz.prog 149 #[.pointer (some ⟨s, 0, none⟩), lineV fb no tb wb rb] w (Deed W R s k srcs fb.data.toList x cv w K opn (elseL fb.data.toList no tb.data.toList cs r)) := by
  obtain ⟨W1, hW1, bx⟩ := boxed w fb no tb wb rb
  have h1 := h.below bx.bel
  have hs1 := hs.below bx.bel
  have p0 := bx.p0
  have p1 := bx.p1
  have p2 := bx.p2
  have BX := Lib.hid bx
  have H1 := Lib.hid h1
  have HS1 := Lib.hid hs1
  unfold lineV
  cases cs with
  | nil =>
    unfold elseL
    have hl := last_nil W W1 R s fb.data.toList cv hs1
    have d3 : W1.cell? ⟨s, 0, none⟩ = some (.pointer (some ⟨R, 0, none⟩)) := cell_at (j := 0) hs1.blk rfl
    clear h hs h1 hs1 bx
    go_enter Tryz.func149, Tryz.ntmps149
    go_wp2_with (go_at_call 167; refine hl.mono ?_; rintro e w2 ⟨rfl, rfl⟩)
    go_still_tail 8, (by kernel_rfl)
    change wpList _ _ _ _ _ W1.drew
    have hT := tell_c W R K k srcs x opn r fb tb no 4 W1.drew (H1.out.below (Below.refl _ _).drew) hd
    go_wp2_with (go_at_call 168; refine hT.mono ?_; rintro e w3 ⟨rfl, x', hst⟩)
    go_end0
    exact ⟨rfl, x', cv, (((hst.ahead (Below.refl _ _).drew).deed H1.out HS1.out).ahead BX.out.bel)⟩
  | cons c t =>
    have hr := hs1.row
    rw [List.length_cons] at hr
    obtain ⟨g, cap, cur, rfl, -, hgc, -⟩ := row_here hr (by omega)
    have hl := last_at W W1 R s g cap fb.data.toList c t hs1 (by simpa using hc)
    have c4 := hs1.cell 4 (.int .i64 (if c.else1 = true then 1 else 0)) rfl
    have hst : ∀ w2, Below W1.heap.size W1 w2 → SStep W R s k srcs fb.data.toList x (.slice (some ⟨g, 0, none⟩) (t.length + 1) cap) w2 x (.slice (some ⟨g, 0, none⟩) (t.length + 1) cap) K opn ({ c with else1 := true } :: t) r (w2.setCell ⟨g, t.length * 5 + 4, none⟩ (.int .i64 1)) := fun w2 hb =>
      ⟨(H1.out.below hb).apart (HS1.out.below hb) (.inr rfl) _ _, (HS1.out.below hb).elsed, (KeptBut.refl (Touch R s k x (.slice (some ⟨g, 0, none⟩) (t.length + 1) cap)) w2).setCell (p := ⟨g, t.length * 5 + 4, none⟩) (Or.inl (Or.inr (Or.inr rfl))) _, fun b hb => .inl hb⟩
    have HST := Lib.hid hst
    have hfz : ∀ w2, Below W1.heap.size W1 w2 → w2.frozen? ⟨g, t.length * 5 + 4, none⟩ = false := fun w2 hb => froz_at ((hb.block g (heap_lt hgc)).trans hgc)
    cases he : c.else1 with
    | true =>
      have e1 : elseL fb.data.toList no tb.data.toList (c :: t) r = (c :: t, r.tell fb.data.toList no 4 tb.data.toList) := by unfold elseL; simp only [he, if_true]
      rw [e1]
      rw [he] at c4
      simp only [if_true] at c4
      have d3 : W1.cell? ⟨s, 0, none⟩ = some (.pointer (some ⟨R, 0, none⟩)) := cell_at (j := 0) hs1.blk rfl
      generalize t.length = n at *
      clear h hs h1 hs1 bx hst
      go_enter Tryz.func149, Tryz.ntmps149
      go_wp2_with (go_at_call 167; refine hl.mono ?_; rintro e w2 ⟨rfl, q, hq⟩; have hb2 : Below W1.heap.size W1 w2 := (by rw [hq]; exact below_drewN (Below.refl _ _) _); clear hq; have q0 := keep_cell hb2 p0; have q1 := keep_cell hb2 p1; have q2 := keep_cell hb2 p2; have q3 := keep_cell hb2 d3; have q4 := keep_cell hb2 c4; have z2 := hb2.size)
      go_still_tail 8, (by kernel_rfl)
      change wpList _ _ _ _ _ w2.drew
      have hT := tell_c W R K k srcs x opn r fb tb no 4 w2.drew (H1.out.below (behind hb2 (Below.refl _ _).drew)) hd
      go_wp2_with (go_at_call 168; refine hT.mono ?_; rintro e w3 ⟨rfl, x', hst⟩)
      go_end0
      exact ⟨rfl, x', _, (((hst.ahead (behind hb2 (Below.refl _ _).drew)).deed H1.out HS1.out).ahead BX.out.bel)⟩
    | false =>
      have e1 : elseL fb.data.toList no tb.data.toList (c :: t) r = ({ c with else1 := true } :: t, r) := by unfold elseL; simp only [he, Bool.false_eq_true, if_false]
      rw [e1]
      rw [he] at c4
      simp only [Bool.false_eq_true, if_false] at c4
      generalize t.length = n at *
      clear h hs h1 hs1 bx hst
      go_enter Tryz.func149, Tryz.ntmps149
      go_wp2_with (go_at_call 167; refine hl.mono ?_; rintro e w2 ⟨rfl, q, hq⟩; have hb2 : Below W1.heap.size W1 w2 := (by rw [hq]; exact below_drewN (Below.refl _ _) _); clear hq; have q4 := keep_cell hb2 c4; have q5 := hfz w2 hb2; have z2 := hb2.size)
      go_end0
      exact ⟨rfl, x, _, (((HST.out w2 hb2).ahead hb2).ahead BX.out.bel)⟩

set_option maxHeartbeats 4000000 in
theorem end_m (W : World) (R s K : Nat) (k : RdK) (srcs : List At) (x : RdV) (opn : List (List UInt8)) (r : Rd) (cv : Value) (cs : List CondP) (fb tb wb rb : ByteArray) (no : Nat) (w : World) (h : RdIs W R k srcs x K opn r w) (hs : SrcIs W R s fb.data.toList cv cs w)
    (hc : cs.length ≤ 1000000) (hd : r.diags.length ≤ 1000000) :
    Calls Tryz.prog 150 #[.pointer (some ⟨s, 0, none⟩), lineV fb no tb wb rb] w (Deed W R s k srcs fb.data.toList x cv w K opn (endL fb.data.toList no tb.data.toList cs r)) := by
  obtain ⟨W1, hW1, bx⟩ := boxed w fb no tb wb rb
  have h1 := h.below bx.bel
  have hs1 := hs.below bx.bel
  have p0 := bx.p0
  have p1 := bx.p1
  have p2 := bx.p2
  have BX := Lib.hid bx
  have H1 := Lib.hid h1
  have HS1 := Lib.hid hs1
  have d3 : W1.cell? ⟨s, 0, none⟩ = some (.pointer (some ⟨R, 0, none⟩)) := cell_at (j := 0) hs1.blk rfl
  unfold lineV
  cases cs with
  | nil =>
    unfold endL
    have hl := last_nil W W1 R s fb.data.toList cv hs1
    clear h hs h1 hs1 bx
    go_enter Tryz.func150, Tryz.ntmps150
    go_wp2_with (go_at_call 167; refine hl.mono ?_; rintro e w2 ⟨rfl, rfl⟩)
    go_still_tail 8, (by kernel_rfl)
    change wpList _ _ _ _ _ W1.drew
    have hT := tell_c W R K k srcs x opn r fb tb no 4 W1.drew (H1.out.below (Below.refl _ _).drew) hd
    go_wp2_with (go_at_call 168; refine hT.mono ?_; rintro e w3 ⟨rfl, x', hst⟩)
    go_end0
    exact ⟨rfl, x', cv, (((hst.ahead (Below.refl _ _).drew).deed H1.out HS1.out).ahead BX.out.bel)⟩
  | cons c t =>
    have hr := hs1.row
    rw [List.length_cons] at hr
    obtain ⟨g, cap, cur, rfl, hle, hgc, -⟩ := row_here hr (by omega)
    have hl := last_at W W1 R s g cap fb.data.toList c t hs1 (by simpa using hc)
    have hst : ∀ w2, Below W1.heap.size W1 w2 → SStep W R s k srcs fb.data.toList x (.slice (some ⟨g, 0, none⟩) (t.length + 1) cap) w2 x (.slice (some ⟨g, 0, none⟩) t.length cap) K opn t r (w2.setCell ⟨s, 1, none⟩ (.slice (some ⟨g, 0, none⟩) t.length cap)) := fun w2 hb =>
      ⟨(H1.out.below hb).apart (HS1.out.below hb) (.inl rfl) _ _, (HS1.out.below hb).ended, (KeptBut.refl (Touch R s k x (.slice (some ⟨g, 0, none⟩) (t.length + 1) cap)) w2).setCell (p := ⟨s, 1, none⟩) (Or.inl (Or.inr (Or.inl rfl))) _, fun b hb => .inl hb⟩
    have HST := Lib.hid hst
    have c1 : W1.cell? ⟨s, 1, none⟩ = some (.slice (some ⟨g, 0, none⟩) (t.length + 1) cap) := cell_at (j := 1) hs1.blk rfl
    have hfz : ∀ w2, Below W1.heap.size W1 w2 → w2.frozen? ⟨s, 1, none⟩ = false := fun w2 hb => froz_at ((hb.block s (heap_lt hs1.blk)).trans hs1.blk)
    have e1 : endL fb.data.toList no tb.data.toList (c :: t) r = (t, r) := rfl
    rw [e1]
    have hc' : t.length + 1 ≤ 1000000 := by simpa using hc
    have e2 : IntKind.i64.wrap (t.length : Int) = (t.length : Int) := by rw [IntKind.wrap_i64]; omega
    have e3 : (t.length : Int) ≤ (cap : Int) := by omega
    generalize t.length = n at *
    clear h hs h1 hs1 bx hst hc
    go_enter Tryz.func150, Tryz.ntmps150
    go_wp2_with (go_at_call 167; refine hl.mono ?_; rintro e w2 ⟨rfl, q, hq⟩; have hb2 : Below W1.heap.size W1 w2 := (by rw [hq]; exact below_drewN (Below.refl _ _) _); clear hq; have q4 := keep_cell hb2 c1; have q5 := hfz w2 hb2; have z2 := hb2.size)
    go_region_law (fail)
    all_goals go_end0
    all_goals exact ⟨rfl, x, _, (((HST.out w2 hb2).below (Below.refl _ _).drew).ahead hb2).ahead BX.out.bel⟩
end Go.Proofs.YtbhlnemahhndoaaGreatDoor
namespace Go.Proofs.YtbhlnemahhndoaaGreatDoor
open Go.RowKit Go.Maps
set_option maxRecDepth 100000

/-! ### an @if -/
def partsL (cs : List CondP) (r : Rd) (file : List UInt8) (no : Nat) (line rest : List UInt8) : (Bool × Bool) × Rd :=
  match askL r.attrs rest with
  | none => ((false, false), r.tell file no 3 line)
  | some (n, h) => if 16 ≤ cs.length then ((false, false), r.tell file no 5 line) else ((h, !h), r.ask n)
section
variable {W w w1 : World} {R K K1 : Nat} {k : RdK} {srcs : List At} {x x1 : RdV} {o1 opn : List (List UInt8)} {r r1 : Rd}
/-- what was laid since, and is none of the Read's, may be written -/
theorem StepTo.scratch (h : StepTo W R k srcs x w x1 K1 o1 r1 w1) (h0 : RdIs W R k srcs x K opn r w) {b : Nat} (hlo : w.heap.size ≤ b) (hn : ¬ Mine R k x1 b) (j : Nat) (u : Value) : StepTo W R k srcs x w x1 K1 o1 r1 (w1.setCell ⟨b, j, none⟩ u) := by
  have hW := h0.bel.size
  have hk : KeptBut (fun i => i = b) w1 (w1.setCell ⟨b, j, none⟩ u) := (KeptBut.refl (fun i => i = b) w1).setCell (p := ⟨b, j, none⟩) (.inl rfl) u
  refine ⟨h.rd.kept hk ?_, kept_wide h.kept hk (fun i e => .inr (by rw [e]; exact hlo)), h.mine⟩
  rintro i rfl
  have := h0.m1.lt
  have := h0.m2.lt
  exact ⟨hn, by omega, by omega, by omega⟩
end
/-- how parts ends -/
def Parted (W : World) (R : Nat) (k : RdK) (srcs : List At) (x : RdV) (K : Nat) (opn : List (List UInt8)) (p : (Bool × Bool) × Rd) (w : World) (e : Ending) (w' : World) : Prop := e = .returned (.agg #[.bool p.1.1, .bool p.1.2]) ∧ ∃ x', StepTo W R k srcs x w x' K opn p.2 w'

set_option maxHeartbeats 8000000 in
theorem parts_m (W : World) (R s K : Nat) (k : RdK) (srcs : List At) (x : RdV) (opn : List (List UInt8)) (r : Rd) (cv : Value) (cs : List CondP) (fb tb wb rb : ByteArray) (no : Nat) (w : World) (h : RdIs W R k srcs x K opn r w) (hs : SrcIs W R s fb.data.toList cv cs w)
    (ht : rb.size ≤ 100000) (hv : ∀ a ∈ r.attrs, a.2.size ≤ 100000) (hK : K + 1 < maxLen) (hd : r.diags.length ≤ 1000000) (hc : cs.length ≤ 1000000) :
    Calls Tryz.prog 166 #[.pointer (some ⟨s, 0, none⟩), lineV fb no tb wb rb] w (Parted W R k srcs x (K + 1) opn (partsL cs r fb.data.toList no tb.data.toList rb.data.toList) w) := by
  obtain ⟨W1, hW1, bx⟩ := boxed w fb no tb wb rb
  obtain ⟨W2, hW2⟩ : ∃ W2, W1.alloc (.cells #[.bool false, .bool false] 235) = W2 := ⟨_, rfl⟩
  have b2 : Below W1.heap.size W1 W2 := by rw [← hW2]; exact laidNew _ _
  have z2 : W2.heap.size = w.heap.size + 2 := by rw [← hW2]; simp [bx.siz]
  have z1 := bx.siz
  have bb := behind bx.bel b2
  have h2 := h.below bb
  have hs2 := hs.below bb
  have p0 := keep_cell b2 bx.p0
  have p1 := keep_cell b2 bx.p1
  have p2 := keep_cell b2 bx.p2
  have p4 := keep_cell b2 bx.p4
  have qb : W2.heap[w.heap.size + 1]? = some (.cells #[.bool false, .bool false] 235 (0, 0)) := by rw [← hW2, ← bx.siz]; exact heap_new _ _
  have d3 : W2.cell? ⟨s, 0, none⟩ = some (.pointer (some ⟨R, 0, none⟩)) := cell_at (j := 0) hs2.blk rfl
  obtain ⟨cp, cc, hcv⟩ := row_slice hs.row
  have d4 : W2.cell? ⟨s, 1, none⟩ = some (.slice cp cs.length cc) := cell_at (j := 1) hs2.blk (by rw [← hcv]; rfl)
  have hA := ask_any (.slice none 0 0) [] rb W2 (nil_attrs W2) (by omega)
  have BB := Lib.hid bb
  have H0 := Lib.hid h
  have H2 := Lib.hid h2
  have HS2 := Lib.hid hs2
  have hnm : ∀ i, w.heap.size ≤ i → ¬ Mine R k x i := fun i hi e => by have := (h.lt i e).2; omega
  have HN := Lib.hid hnm
  have hsl : s < W2.heap.size := heap_lt hs2.blk
  have hsn : ¬ Mine R k x s := (src_not_mine h2 hs2).1
  have HSN := Lib.hid hsn
  have hne := ask_names r.attrs rb.data.toList
  unfold lineV
  cases hask : askL r.attrs rb.data.toList with
  | none =>
    have e1 : partsL cs r fb.data.toList no tb.data.toList rb.data.toList = ((false, false), r.tell fb.data.toList no 3 tb.data.toList) := by unfold partsL; rw [hask]
    rw [e1]
    have e2 : askL [] rb.data.toList = none := by rw [hask] at hne; cases h3 : askL [] rb.data.toList with
      | none => rfl
      | some a => rw [h3] at hne; cases hne
    rw [e2] at hA
    unfold askV at hA
    clear h hs h2 hs2 bx b2 bb hnm hsn hcv hask hne e1 e2
    go_enter Tryz.func166, Tryz.ntmps166
    go_wp2_with (go_at_call 186; refine hA.mono ?_; rintro e w3 ⟨rfl, hb3⟩; have a0 := keep_cell hb3 p0; have a1 := keep_cell hb3 p1; have a2 := keep_cell hb3 p2; have a3 := keep_cell hb3 d3; have z3 := hb3.size)
    go_still_tail 8, (by kernel_rfl)
    change wpList _ _ _ _ _ w3.drew
    have hT := tell_c W R K k srcs x opn r fb tb no 3 w3.drew (H2.out.below (behind hb3 (Below.refl _ _).drew)) hd
    have q1 : w3.drew.heap[w.heap.size + 1]? = some (.cells #[.bool false, .bool false] 235 (0, 0)) := (hb3.block _ (by omega)).trans qb
    have qm : ¬ Mine R k x (w.heap.size + 1) := HN.out _ (by omega)
    have ql : w.heap.size + 1 < w3.drew.heap.size := by show _ < w3.heap.size; omega
    go_wp2_with (go_at_call 168; refine hT.mono ?_; rintro e w4 ⟨rfl, x', hst⟩; have r0 := (hst.kept.block _ ql qm).trans q1; have r1 := cell_at (j := 0) r0 rfl; have r2 := cell_at (j := 1) r0 rfl; have r3 := froz_at (j := 0) r0; have r4 := froz_at (j := 1) r0)
    refine bodyPost_ret (v := .agg #[.bool false, .bool false]) (by simp [results, Tryz.results166, go_sem, r1, r2]) rfl ⟨rfl, x', ?_⟩
    have hS := hst.ahead (behind BB.out (behind hb3 (Below.refl _ _).drew))
    have hm2 : ¬ Mine R k x' (w.heap.size + 1) := fun e => by
      rcases hst.mine _ e with e2 | e2
      · exact qm e2
      · omega
    exact ((hS.scratch H0.out (by omega) hm2 0 _).scratch H0.out (by omega) hm2 1 _).mono (by omega)
  | some a =>
    obtain ⟨n, hh⟩ := a
    have hnB := ask_nameB hask
    have hn60 : n.length ≤ 60 := (name_size hnB).2
    obtain ⟨h0, e2⟩ : ∃ h0, askL [] rb.data.toList = some (n, h0) := by
      rw [hask] at hne
      cases h3 : askL [] rb.data.toList with
      | none => rw [h3] at hne; cases hne
      | some a => rw [h3] at hne; obtain ⟨a1, a2⟩ := a; simp only [Option.map_some, Option.some.injEq] at hne; exact ⟨a2, by rw [hne]⟩
    rw [e2] at hA
    obtain ⟨nb, hnb⟩ : ∃ nb, bT n = nb := ⟨_, rfl⟩
    simp only [askV, hnb] at hA
    have hnd : nb.data.toList = n := by rw [← hnb]; rfl
    have hnz : nb.size ≤ 60 := by rw [← hnb, bT_size]; exact hn60
    by_cases h16 : 16 ≤ cs.length
    · have e1 : partsL cs r fb.data.toList no tb.data.toList rb.data.toList = ((false, false), r.tell fb.data.toList no 5 tb.data.toList) := by unfold partsL; rw [hask]; simp only [h16, if_true]
      rw [e1]
      have e16 : (16 : Int) ≤ (cs.length : Int) := by omega
      clear h hs h2 hs2 bx b2 bb hnm hsn hcv hask hne e1 e2 h16 hnB hnb hnd
      go_enter Tryz.func166, Tryz.ntmps166
      go_wp2_with (go_at_call 186; refine hA.mono ?_; rintro e w3 ⟨rfl, hb3⟩; have a0 := keep_cell hb3 p0; have a1 := keep_cell hb3 p1; have a2 := keep_cell hb3 p2; have a3 := keep_cell hb3 d3; have a4 := keep_cell hb3 d4; have z3 := hb3.size)
      go_still_tail 8, (by kernel_rfl)
      change wpList _ _ _ _ _ w3.drew
      have hT := tell_c W R K k srcs x opn r fb tb no 5 w3.drew (H2.out.below (behind hb3 (Below.refl _ _).drew)) hd
      have q1 : w3.drew.heap[w.heap.size + 1]? = some (.cells #[.bool false, .bool false] 235 (0, 0)) := (hb3.block _ (by omega)).trans qb
      have qm : ¬ Mine R k x (w.heap.size + 1) := HN.out _ (by omega)
      have ql : w.heap.size + 1 < w3.drew.heap.size := by show _ < w3.heap.size; omega
      go_wp2_with (go_at_call 168; refine hT.mono ?_; rintro e w4 ⟨rfl, x', hst⟩; have r0 := (hst.kept.block _ ql qm).trans q1; have r1 := cell_at (j := 0) r0 rfl; have r2 := cell_at (j := 1) r0 rfl; have r3 := froz_at (j := 0) r0; have r4 := froz_at (j := 1) r0)
      refine bodyPost_ret (v := .agg #[.bool false, .bool false]) (by simp [results, Tryz.results166, go_sem, r1, r2]) rfl ⟨rfl, x', ?_⟩
      have hS := hst.ahead (behind BB.out (behind hb3 (Below.refl _ _).drew))
      have hm2 : ¬ Mine R k x' (w.heap.size + 1) := fun e => by
        rcases hst.mine _ e with e2 | e2
        · exact qm e2
        · omega
      exact ((hS.scratch H0.out (by omega) hm2 0 _).scratch H0.out (by omega) hm2 1 _).mono (by omega)
    · have e1 : partsL cs r fb.data.toList no tb.data.toList rb.data.toList = ((hh, !hh), r.ask n) := by unfold partsL; rw [hask]; simp only [h16, if_false]
      rw [e1]
      have e16 : ¬ (16 : Int) ≤ (cs.length : Int) := by omega
      have hsame : askL (ofL r.attrs [n]) rb.data.toList = some (n, hh) := by
        rw [← hask]; symm
        exact ask_same _ _ _ n (by rw [hask]; rfl) (ofL_get r.attrs [n] n (by simp)).symm
      have HV : Hid (askV (askL (ofL r.attrs [n]) rb.data.toList) = .tuple #[.string nb, .bool hh, .int .i64 0]) := Lib.hid (by rw [hsame]; simp only [askV, hnb])
      have HND := Lib.hid hnd
      have HNB := Lib.hid hnb
      have R1 := fun w3 (hb : Below W2.heap.size W2 w3) => (H2.out.below hb).cells 1 (.map (some k.A)) rfl
      have hAsk := fun w3 (hb : Below W2.heap.size W2 w3) => (H2.out.below hb).asks nb (by omega) (by unfold maxLen; omega)
      clear h hs h2 hs2 bx b2 bb hnm hsn hcv hask hne e1 e2 h16 hnB hnb hnd hsame
      go_enter Tryz.func166, Tryz.ntmps166
      go_wp2_with (first
        | (go_at_call 187; refine (hAsk _ hb3).mono ?_; rintro e w4 ⟨rfl, hst⟩; have z4 := hst.kept.size; have r0 := (hst.kept.cell (p := ⟨s, 0, none⟩) (Nat.lt_of_lt_of_le hsl z3) HSN.out).trans a3; have r1 := (hst.kept.cell (p := ⟨w.heap.size, 4, none⟩) (Nat.lt_of_lt_of_le (by show w.heap.size < _; omega) z3) (HN.out _ (Nat.le_refl _))).trans a5; have r2 := hst.rd.cells 1 (.map (some k.A)) rfl)
        | (go_at_call 186; refine hA.mono ?_; rintro e w3 ⟨rfl, hb3⟩; have a3 := keep_cell hb3 d3; have a4 := keep_cell hb3 d4; have a5 := keep_cell hb3 p4; have a6 := R1 w3 hb3; have z3 := hb3.size))
      have hq : w.heap.size + 1 < w3.heap.size := by omega
      have hqm : ¬ Mine R k x (w.heap.size + 1) := HN.out _ (by omega)
      have hqb : w4.heap[w.heap.size + 1]? = some (.cells #[.bool false, .bool false] 235 (0, 0)) := (hst.kept.block _ hq hqm).trans ((hb3.block _ (by omega)).trans qb)
      have hA1 : (r.ask nb.data.toList).attrs = r.attrs := (ask_attrs r nb.data.toList).1
      have hTX : Texts (w4.drew.alloc (.cells #[.string nb] 9)) (.slice (some ⟨w4.heap.size, 0, none⟩) 1 1) [n] := ⟨some ⟨w4.heap.size, 0, none⟩, 1, rfl, by simp, fun _ => ⟨_, rfl, fun j hj => by
        have : j = 0 := by simp at hj; omega
        subst this
        rw [show (w4.heap.size) = (w4.drew.heap.size) from rfl, World.cell?_alloc_new]
        show _ = some (Value.string (bT n))
        rw [HNB.out]; rfl⟩⟩
      have hOf := (hst.rd.below (behind (Below.refl _ _).drew (laidNew w4.drew (.cells #[.string nb] 9)))).ofs _ [n] hTX (by simp) (fun y hy => by simp at hy; subst hy; exact hn60) (by rw [hA1]; exact hv)
      rw [hA1] at hOf
      have HST := Lib.hid hst
      go_region_held3 (fun w' => w'.cell? ⟨s, 0, none⟩ = some (.pointer (some ⟨R, 0, none⟩)) ∧ w'.cell? ⟨R, 1, none⟩ = some (.map (some k.A)) ∧ w'.cell? ⟨w.heap.size, 4, none⟩ = some (.string rb))
        (first
          | go_keep
          | (refine ⟨?_, ?_, ?_⟩ <;> first | assumption | (simp; assumption)))
        (first
          | (go_at_call 188; refine hOf.mono ?_; rintro e w5 ⟨av, rfl, hav, hb5⟩; have hb6 := behind (behind (Below.refl _ w4).drew (laidNew w4.drew (.cells #[.string nb] 9))) hb5; have g0 := keep_cell hb6 r0; have g1 := keep_cell hb6 r1; have g2 := keep_cell hb6 r2)
          | (go_at_call 186; have hAk := ask_any av _ rb w5 hav (by omega); rw [HV.out] at hAk; refine hAk.mono ?_; rintro e w6 ⟨rfl, hb7⟩; have hb8 := behind hb6 hb7; have g3 := keep_cell hb8 r0; have g4 := keep_cell hb8 r1; have g5 := keep_cell hb8 r2))
      have t4 : w4.heap.size ≤ w6.heap.size := hb8.size
      have u0 := (hb8.block _ (heap_lt hqb)).trans hqb
      have u1 := cell_at (j := 0) u0 rfl
      have u2 := cell_at (j := 1) u0 rfl
      have u3 := froz_at (j := 0) u0
      have u4 := froz_at (j := 1) u0
      have hf : World.frozen? (w6.setCell ⟨w.heap.size + 1, 0, none⟩ (.bool hh)) ⟨w.heap.size + 1, 1, none⟩ = false := froz_at (j := 1) (heap_put w6 _ 0 (.bool hh) _ _ _ u0)
      have HR : Hid (∀ (a b : Bool), ((w6.setCell ⟨w.heap.size + 1, 0, none⟩ (.bool a)).setCell ⟨w.heap.size + 1, 1, none⟩ (.bool b)).heap[w.heap.size + 1]? = some (.cells #[.bool a, .bool b] 235 (0, 0))) := Lib.hid (fun a b => heap_put _ _ 1 (.bool b) _ _ _ (heap_put w6 _ 0 (.bool a) _ _ _ u0))
      go_wp2
      have v1 := cell_at (j := 0) (HR.out hh (!hh)) rfl
      have v2 := cell_at (j := 1) (HR.out hh (!hh)) rfl
      refine bodyPost_ret (v := .agg #[.bool hh, .bool (!hh)]) (by simp [results, Tryz.results166, go_sem, v1, v2]) rfl ⟨rfl, x, ?_⟩
      have hS := ((hst.below hb8).ahead hb3).ahead BB.out
      have hm2 : ¬ Mine R k x (w.heap.size + 1) := hqm
      have hS2 := ((hS.scratch H0.out (by omega) hm2 0 (.bool hh)).scratch H0.out (by omega) hm2 1 (.bool (!hh)))
      rw [HND.out] at hS2
      exact hS2
end Go.Proofs.YtbhlnemahhndoaaGreatDoor
namespace Go.Proofs.YtbhlnemahhndoaaGreatDoor
open Go.RowKit Go.Maps
set_option maxRecDepth 100000

theorem cdInfo : (Tryz.prog.info? 237).map (fun i => (i.zero, i.size, i.bytes)) = some (some (.agg #[.string ⟨#[]⟩, .int .i64 0, .bool false, .bool false, .int .i64 0]), 5, 40) := by kernel_rfl
theorem begins_eq (r : Rd) (cs : List CondP) (file : List UInt8) (no : Nat) (line rest : List UInt8) :
    beginsL r cs file no line rest = (⟨no, (if forceL cs = true then (partsL cs r file no line rest).1 else (false, false)).1, (if forceL cs = true then (partsL cs r file no line rest).1 else (false, false)).2, false⟩ :: cs, if forceL cs = true then (partsL cs r file no line rest).2 else r) := by
  unfold beginsL partsL
  by_cases h : forceL cs = true
  · simp only [h, if_true]
    cases askL r.attrs rest with
    | none => rfl
    | some a =>
      obtain ⟨n, b⟩ := a
      by_cases h16 : 16 ≤ cs.length
      · simp only [h16, if_true]
      · simp only [h16, if_false]
  · simp only [h]; rfl
section
variable {W w w1 w2 : World} {R s K : Nat} {k : RdK} {srcs : List At} {file : List UInt8} {x : RdV} {cv : Value} {opn : List (List UInt8)} {cs : List CondP} {r : Rd}
/-- a condition is opened -/
theorem SStep.pushed (h : RdIs W R k srcs x K opn r w) (hs : SrcIs W R s file cv cs w) (hb : Below w.heap.size w w1) {g cap : Nat} {c : CondP} (hgood : GoodC (c :: cs))
    (r1 : w2.ownsRow W.heap.size 237 5 (.slice (some ⟨g, 0, none⟩) (cs.length + 1) cap) (cs.length + 1) (cdCells file cs ++ cdCell file c)) (hg : w1.grownBy w2 cv.ownBlock) (hat : cv.ownBlock = some g ∨ w.heap.size ≤ g) :
    SStep W R s k srcs file x cv w x (.slice (some ⟨g, 0, none⟩) (cs.length + 1) cap) K opn (c :: cs) r (w2.setCell ⟨s, 1, none⟩ (.slice (some ⟨g, 0, none⟩) (cs.length + 1) cap)) := by
  have hsl := heap_lt hs.blk
  have hns := src_not_mine h hs
  have hnc := cv_not_mine h hs
  have hgs : g ≠ s := by
    rcases hat with e | e
    · exact (hnc g e).2.1
    · omega
  have hk : ∀ S : Nat → Prop, S s → (∀ b, cv.ownBlock = some b → S b) → KeptBut S w (w2.setCell ⟨s, 1, none⟩ (.slice (some ⟨g, 0, none⟩) (cs.length + 1) cap)) := fun S h1 h2 =>
    ((KeptBut.below hb).grown hg (fun b e => .inl (h2 b e))).setCell (.inl h1) _
  refine ⟨h.kept (hk (fun b => b = s ∨ cv.ownBlock = some b) (.inl rfl) (fun b e => .inr e)) ?_, ⟨?_, ?_, hgood, hs.hB⟩, hk _ (.inr (.inl rfl)) (fun b e => .inr (.inr e)), ?_⟩
  · rintro b (rfl | e)
    · exact ⟨hns.1, hns.2.1, hns.2.2, hs.hB⟩
    · exact ⟨(hnc b e).1, (hnc b e).2.2.1, (hnc b e).2.2.2, (hs.row.lt b e).1⟩
  · refine heap_put w2 s 1 _ _ _ _ (((hg.block s (Nat.lt_of_lt_of_le hsl hb.size) (fun e => ?_)).trans (hb.block s hsl)).trans hs.blk)
    exact (hnc s e.symm).2.1 rfl
  · exact row_put r1 (fun e => hgs (by injection e))
  · rintro b (e | e | e)
    · exact .inl (.inl e)
    · exact .inl (.inr (.inl e))
    · obtain rfl : g = b := by injection e
      rcases hat with e2 | e2
      · exact .inl (.inr (.inr e2))
      · exact .inr e2
end

set_option maxHeartbeats 8000000 in
theorem begin_m (W : World) (R s K : Nat) (k : RdK) (srcs : List At) (x : RdV) (opn : List (List UInt8)) (r : Rd) (cv : Value) (cs : List CondP) (fb tb wb rb : ByteArray) (no : Nat) (w : World) (h : RdIs W R k srcs x K opn r w) (hs : SrcIs W R s fb.data.toList cv cs w)
    (ht : rb.size ≤ 100000) (hv : ∀ a ∈ r.attrs, a.2.size ≤ 100000) (hK : K + 1 < maxLen) (hd : r.diags.length ≤ 1000000) (hc : cs.length ≤ 1000000) :
    Calls Tryz.prog 148 #[.pointer (some ⟨s, 0, none⟩), lineV fb no tb wb rb] w (Deed W R s k srcs fb.data.toList x cv w (K + 1) opn (beginsL r cs fb.data.toList no tb.data.toList rb.data.toList)) := by
  rw [begins_eq]
  obtain ⟨i0, hi, hz0, hz1, hz2⟩ := info_parts cdInfo
  obtain ⟨W1, hW1, bx⟩ := boxed w fb no tb wb rb
  obtain ⟨W2, hW2⟩ : ∃ W2, W1.alloc (.cells #[.string fb, .int .i64 (no : Int), .bool false, .bool false, .int .i64 0] 237) = W2 := ⟨_, rfl⟩
  have b2 : Below W1.heap.size W1 W2 := by rw [← hW2]; exact laidNew _ _
  have z2 : W2.heap.size = w.heap.size + 2 := by rw [← hW2]; simp [bx.siz]
  have z1 := bx.siz
  have bb := behind bx.bel b2
  have h2 := h.below bb
  have hs2 := hs.below bb
  have o0 := bx.p0
  have o1 := bx.p1
  have p0 := keep_cell b2 bx.p0
  have p1 := keep_cell b2 bx.p1
  have p2 := keep_cell b2 bx.p2
  have p3 := keep_cell b2 bx.p3
  have p4 := keep_cell b2 bx.p4
  have qb : W2.heap[w.heap.size + 1]? = some (.cells #[.string fb, .int .i64 (no : Int), .bool false, .bool false, .int .i64 0] 237 (0, 0)) := by rw [← hW2, ← bx.siz]; exact heap_new _ _
  obtain ⟨cp, cc, rfl⟩ := row_slice hs.row
  have hDr : ∀ q, Below W2.heap.size W2 (W2.drewN q) := fun q => below_drewN (Below.refl _ _) q
  have hAq := fun w3 (hb : Below W2.heap.size W2 w3) => (hb.block (w.heap.size + 1) (by omega)).trans qb
  have hF := force_c W W2 R s fb.data.toList (.slice cp cs.length cc) cs hs2 hc
  cases hfo : forceL cs with
  | false =>
    rw [hfo] at hF
    simp only [Bool.false_eq_true, if_false]
    have hgood : GoodC (⟨no, false, false, false⟩ :: cs) := ⟨.inr ⟨rfl, rfl⟩, hs.good⟩
    have HG := Lib.hid hgood
    have BB := Lib.hid bb
    have H0 := Lib.hid h
    have H2 := Lib.hid h2
    have HS2 := Lib.hid hs2
    have d4 : W2.cell? ⟨s, 1, none⟩ = some (.slice cp cs.length cc) := cell_at (j := 1) hs2.blk rfl
    have hsf : ∀ w3, Below W2.heap.size W2 w3 → w3.frozen? ⟨s, 1, none⟩ = false := fun w3 hb => froz_at ((hb.block s (heap_lt hs2.blk)).trans hs2.blk)
    have hrow := fun w3 (hb : Below W2.heap.size W2 w3) => (hs2.below hb).row
    clear h hs h2 hs2 bx b2 bb hfo hgood
    unfold lineV
    subst hW2
    go_enter Tryz.func148, Tryz.ntmps148
    go_wp2_with (go_at_call 165; refine hF.mono ?_; rintro e w3 ⟨rfl, q, hq⟩; have hb3 := hDr q; rw [← hq] at hb3; clear hq; have a4 := keep_cell hb3 d4; have aq := hAq w3 hb3; have z3 := hb3.size)
    have g0 := cell_at (j := 0) aq rfl
    have g1 := cell_at (j := 1) aq rfl
    have g2 := cell_at (j := 2) aq rfl
    have g3 := cell_at (j := 3) aq rfl
    have g4 := cell_at (j := 4) aq rfl
    have hRW := hrow w3 hb3
    have hB3 := (H2.out.below hb3).bel.size
    have hs3 : s < w3.heap.size := heap_lt (HS2.out.below hb3).blk
    have HS3 := Lib.hid (HS2.out.below hb3)
    have H3 := Lib.hid (H2.out.below hb3)
    have hcs : (Value.slice cp cs.length cc).ownBlock ≠ some s := row_cells hRW HS3.out.blk (by decide)
    go_region_law (refine step_append_lies _ rfl (.tmp 18) (.tmp 20) 239 rfl W.heap.size 237 i0 (.agg #[.string ⟨#[]⟩, .int .i64 0, .bool false, .bool false, .int .i64 0]) 5 40 Tryz.underlying239 hi hz0 hz1 hz2 rfl (by decide) (.slice cp cs.length cc) cs.length (cdCells fb.data.toList cs) rfl (by exact World.ownsRow.drew (hRW.alloc _)) ⟨w3.heap.size, 0, none⟩ 1 1 [.string fb, .int .i64 (no : Int), .bool false, .bool false, .int .i64 0] rfl rfl (by exact World.news_of_block (cs := #[.string fb, .int .i64 (no : Int), .bool false, .bool false, .int .i64 0]) (t := 237) (fr := (0, 0)) (heap_alloc_new w3 _)) (by simp [Value.oneCell']) (by omega) (by unfold maxLen; omega) (by omega) (by simp; omega) (w3.heap.size + 1) (by simp) ?_; intro g cap w5 r1 r2 hat hlt; have hB5 : w5.heap[s]? = some (.cells #[.pointer (some ⟨R, 0, none⟩), .slice cp cs.length cc] 241 (0, 0)) := heap_old r2 (heap_alloc (o' := .cells #[.string fb, .int .i64 (no : Int), .bool false, .bool false, .int .i64 0] 237) HS3.out.blk) hcs; have d5 : w5.cell? ⟨s, 1, none⟩ = some (.slice cp cs.length cc) := cell_at hB5 rfl; have e5 := froz_at (j := 1) hB5)
    all_goals go_end0
    all_goals
      have hat2 : (Value.slice cp cs.length cc).ownBlock = some g ∨ w3.heap.size ≤ g := by
        rcases hat with e | e
        · exact .inl e
        · right; omega
      have hS := SStep.pushed (c := ⟨no, false, false, false⟩) H3.out HS3.out ((laidNew w3 _).drew) HG.out (by show World.ownsRow _ _ _ _ _ _ (_ ++ [.string (bT fb.data.toList), _, _, _, _]); rw [bT_data]; exact r1) r2 hat2
      exact ⟨rfl, _, _, (hS.ahead (behind BB.out hb3)).mono (by omega)⟩
  | true =>
    rw [hfo] at hF
    simp only [if_true]
    have HP := fun w3 (hb : Below W2.heap.size W2 w3) => parts_m W R s K k srcs x opn r (.slice cp cs.length cc) cs fb tb wb rb no w3 (h2.below hb) (hs2.below hb) ht hv hK hd hc
    generalize partsL cs r fb.data.toList no tb.data.toList rb.data.toList = pr at HP
    obtain ⟨⟨ha, hbo⟩, r'⟩ := pr
    have hgood : GoodC (⟨no, ha, hbo, false⟩ :: cs) := ⟨.inl hfo, hs.good⟩
    have HG := Lib.hid hgood
    have BB := Lib.hid bb
    have H0 := Lib.hid h
    have HS0 := Lib.hid hs
    have H2 := Lib.hid h2
    have HS2 := Lib.hid hs2
    have HN : Hid (¬ Mine R k x (w.heap.size + 1)) := Lib.hid (fun e => by have := (h.lt _ e).2; omega)
    have HN0 : Hid (¬ Mine R k x w.heap.size) := Lib.hid (fun e => by have := (h.lt _ e).2; omega)
    clear h hs h2 hs2 bx b2 bb hfo hgood
    unfold lineV
    unfold lineV at HP
    subst hW2
    go_enter Tryz.func148, Tryz.ntmps148
    go_wp2_with (first
      | (go_at_call 166; refine (HP w3 hb3).mono ?_; rintro e w4 ⟨rfl, x', hst⟩; have aq4 := (hst.kept.block (w.heap.size + 1) (by omega) HN.out).trans aq; have j0 := cell_at (j := 2) aq4 rfl; have j1 := cell_at (j := 3) aq4 rfl; have j2 := froz_at (j := 2) aq4; have j3 := froz_at (j := 3) aq4)
      | (go_at_call 165; refine hF.mono ?_; rintro e w3 ⟨rfl, q, hq⟩; have hb3 := hDr q; rw [← hq] at hb3; clear hq; have a0 := keep_cell hb3 p0; have a1 := keep_cell hb3 p1; have a2 := keep_cell hb3 p2; have a3 := keep_cell hb3 p3; have a4 := keep_cell hb3 p4; have aq := hAq w3 hb3; have z3 := hb3.size))
    obtain ⟨w5, hw5⟩ : ∃ w5, ((w4.setCell ⟨w.heap.size + 1, 2, none⟩ (.bool ha)).setCell ⟨w.heap.size + 1, 3, none⟩ (.bool hbo)) = w5 := ⟨_, rfl⟩
    rw [hw5]
    have aq5 : w5.heap[w.heap.size + 1]? = some (.cells #[.string fb, .int .i64 (no : Int), .bool ha, .bool hbo, .int .i64 0] 237 (0, 0)) := by
      rw [← hw5]; exact heap_put _ _ 3 (.bool hbo) _ _ _ (heap_put w4 _ 2 (.bool ha) _ _ _ aq4)
    have hm2 : ¬ Mine R k x' (w.heap.size + 1) := fun e => by
      rcases hst.mine _ e with e2 | e2
      · exact HN.out e2
      · omega
    have hD := (((hst.ahead (behind BB.out hb3)).scratch H0.out (by omega) hm2 2 (.bool ha)).scratch H0.out (by omega) hm2 3 (.bool hbo)).deed H0.out HS0.out
    rw [hw5] at hD
    clear hw5 aq aq4 j0 j1 j2 j3 hst a0 a1 a2 a3 a4
    have HD := Lib.hid hD
    have a9 : w5.cell? ⟨s, 1, none⟩ = some (.slice cp cs.length cc) := cell_at (j := 1) hD.src.blk rfl
    have g0 := cell_at (j := 0) aq5 rfl
    have g1 := cell_at (j := 1) aq5 rfl
    have g2 := cell_at (j := 2) aq5 rfl
    have g3 := cell_at (j := 3) aq5 rfl
    have g4 := cell_at (j := 4) aq5 rfl
    have hRW := hD.src.row
    have hB3 := hD.rd.bel.size
    have hs3 : s < w5.heap.size := heap_lt hD.src.blk
    have HS3 := Lib.hid hD.src
    have H3 := Lib.hid hD.rd
    have hcs : (Value.slice cp cs.length cc).ownBlock ≠ some s := row_cells hRW HS3.out.blk (by decide)
    go_region_law (refine step_append_lies _ rfl (.tmp 18) (.tmp 20) 239 rfl W.heap.size 237 i0 (.agg #[.string ⟨#[]⟩, .int .i64 0, .bool false, .bool false, .int .i64 0]) 5 40 Tryz.underlying239 hi hz0 hz1 hz2 rfl (by decide) (.slice cp cs.length cc) cs.length (cdCells fb.data.toList cs) rfl (by exact World.ownsRow.drew (hRW.alloc _)) ⟨w5.heap.size, 0, none⟩ 1 1 [.string fb, .int .i64 (no : Int), .bool ha, .bool hbo, .int .i64 0] rfl rfl (by exact World.news_of_block (cs := #[.string fb, .int .i64 (no : Int), .bool ha, .bool hbo, .int .i64 0]) (t := 237) (fr := (0, 0)) (heap_alloc_new w5 _)) (by simp [Value.oneCell']) (by omega) (by unfold maxLen; omega) (by omega) (by simp; omega) (w5.heap.size + 1) (by simp) ?_; intro g cap w6 r1 r2 hat hlt; have hB5 : w6.heap[s]? = some (.cells #[.pointer (some ⟨R, 0, none⟩), .slice cp cs.length cc] 241 (0, 0)) := heap_old r2 (heap_alloc (o' := .cells #[.string fb, .int .i64 (no : Int), .bool ha, .bool hbo, .int .i64 0] 237) HS3.out.blk) hcs; have d5 : w6.cell? ⟨s, 1, none⟩ = some (.slice cp cs.length cc) := cell_at hB5 rfl; have e5 := froz_at (j := 1) hB5)
    all_goals go_end0
    all_goals
      have hat2 : (Value.slice cp cs.length cc).ownBlock = some g ∨ w5.heap.size ≤ g := by
        rcases hat with e | e
        · exact .inl e
        · right; omega
      have hS := SStep.pushed (c := ⟨no, ha, hbo, false⟩) H3.out HS3.out ((laidNew w5 _).drew) HG.out (by show World.ownsRow _ _ _ _ _ _ (_ ++ [.string (bT fb.data.toList), _, _, _, _]); rw [bT_data]; exact r1) r2 hat2
      exact ⟨rfl, _, _, HD.out.trans hS⟩
end Go.Proofs.YtbhlnemahhndoaaGreatDoor
