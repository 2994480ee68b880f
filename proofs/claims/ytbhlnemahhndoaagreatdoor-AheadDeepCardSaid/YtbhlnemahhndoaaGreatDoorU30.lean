/- Merged: InclC, DoM, LineM. -/
import Derived.Test.YtbhlnemahhndoaaGreatDoorU29
import Derived.Test.YtbhlnemahhndoaaGreatDoorU20
import Derived.Test.YtbhlnemahhndoaaGreatDoorU16
import Derived.Test.YtbhlnemahhndoaaGreatDoorU18
namespace Go.Proofs.YtbhlnemahhndoaaGreatDoor
open Go.RowKit Go.Maps
set_option maxRecDepth 100000

/-! ### an @include -/
def inclL (rec : List UInt8 → List UInt8 → Rd → Rd) (srcs : List At) (opn : List (List UInt8)) (file : List UInt8) (no : Nat) (line rest : List UInt8) (r : Rd) : Rd :=
  if checkB rest = false then r.tell file no 3 line
  else if rest ∈ opn then r.tell file no 2 rest
  else if 16 ≤ opn.length then r.tell file no 5 rest
  else match findL srcs rest with
    | none => r.tell file no 1 rest
    | some text => rec rest text r
/-- what a source that is taken in is asked to do -/
def RecOk (W : World) (R : Nat) (k : RdK) (srcs : List At) (K : Nat) (x : RdV) (opn : List (List UInt8)) (rec : List UInt8 → List UInt8 → Rd → Rd) (rb : ByteArray) (r : Rd) : Prop :=
  checkB rb.data.toList = true → rb.data.toList ∉ opn → opn.length < 16 → ∀ text, findL srcs rb.data.toList = some text → (rec rb.data.toList text r).long = false → ∀ w2, RdIs W R k srcs x K opn r w2 →
    Calls Tryz.prog 156 #[.pointer (some ⟨R, 0, none⟩), .string rb, .string (bT text)] w2 (fun e w' => e = .returned (.tuple #[]) ∧ ∃ x', StepTo W R k srcs x w2 x' (100100 * (rec rb.data.toList text r).count + 1000) opn (rec rb.data.toList text r) w')
theorem findL_v (srcs : List At) (rb : ByteArray) : findL srcs rb.data.toList = (getL srcs rb).map (·.data.toList) := by unfold findL; rw [bT_data]
theorem bool_v {b c : Bool} (h : b = c) : Value.bool b = .bool c := by rw [h]

set_option maxHeartbeats 8000000 in
theorem incl_word (W : World) (R s K : Nat) (k : RdK) (srcs : List At) (x : RdV) (opn : List (List UInt8)) (r : Rd) (cv : Value) (cs : List CondP) (fb tb wb rb : ByteArray) (no : Nat) (w : World) (h : RdIs W R k srcs x K opn r w) (hs : SrcIs W R s fb.data.toList cv cs w)
    (ho : opn.length ≤ 1000000) (hd : r.diags.length ≤ 1000000) (hck : checkB rb.data.toList = false) :
    Calls Tryz.prog 151 #[.pointer (some ⟨s, 0, none⟩), lineV fb no tb wb rb] w (Deed W R s k srcs fb.data.toList x cv w K opn (cs, r.tell fb.data.toList no 3 tb.data.toList)) := by
  obtain ⟨W1, hW1, bx⟩ := boxed w fb no tb wb rb
  have h1 := h.below bx.bel
  have hs1 := hs.below bx.bel
  obtain ⟨p, c, hov⟩ := row_slice h.rop
  have p0 := bx.p0
  have p1 := bx.p1
  have p2 := bx.p2
  have p4 := bx.p4
  have d3 : W1.cell? ⟨s, 0, none⟩ = some (.pointer (some ⟨R, 0, none⟩)) := cell_at (j := 0) hs1.blk rfl
  have d4 : W1.cell? ⟨R, 0, none⟩ = some k.sv := h1.cells 0 _ rfl
  have d5 : W1.cell? ⟨R, 4, none⟩ = some (.slice p opn.length c) := h1.cells 4 _ (by rw [← hov]; rfl)
  have HFi := find_c k.sv srcs rb W1 h1.attrs
  have HCk := fun w2 => path_any rb w2
  have HCo := fun w2 (hb : Below W1.heap.size W1 w2) => contains_c W.heap.size (.slice p opn.length c) opn rb w2 (by have := (h1.below hb).rop; rw [hov] at this; exact this) ho
  have BX := Lib.hid bx
  have H1 := Lib.hid h1
  have HS1 := Lib.hid hs1
  simp only [hck] at HCk
  obtain ⟨ga, gb, hgv⟩ : ∃ a b, getV (getL srcs rb) = .tuple #[.string a, .bool b] := by cases getL srcs rb <;> exact ⟨_, _, rfl⟩
  rw [hgv] at HFi
  clear hgv
  unfold lineV
  clear h hs h1 hs1 bx hov
  go_enter Tryz.func151, Tryz.ntmps151
  go_wp2_with (first
    | (go_at_call 24; refine HFi.mono ?_; rintro e w2 ⟨rfl, hb2⟩; have a0 := keep_cell hb2 p0; have a1 := keep_cell hb2 p1; have a2 := keep_cell hb2 p2; have a3 := keep_cell hb2 d3; have a5 := keep_cell hb2 d5)
    | (go_at_call 169; refine (HCk w2).mono ?_; rintro e w3 ⟨rfl, hb3⟩; have hb4 := behind hb2 hb3; have b0 := keep_cell hb4 p0; have b1 := keep_cell hb4 p1; have b2 := keep_cell hb4 p2; have b3 := keep_cell hb4 d3; have b5 := keep_cell hb4 d5))
  go_still_tail 8, (by kernel_rfl)
  change wpList _ _ _ _ _ w3.drew
  have hT := tell_c W R K k srcs x opn r fb tb no 3 w3.drew (H1.out.below (behind hb4 (Below.refl _ _).drew)) hd
  go_wp2_with (go_at_call 168; refine hT.mono ?_; rintro e w5 ⟨rfl, x', hst⟩)
  go_end0
  exact ⟨rfl, x', cv, (((hst.ahead (behind hb4 (Below.refl _ _).drew)).deed H1.out HS1.out).ahead BX.out.bel)⟩

set_option maxHeartbeats 8000000 in
theorem incl_circle (W : World) (R s K : Nat) (k : RdK) (srcs : List At) (x : RdV) (opn : List (List UInt8)) (r : Rd) (cv : Value) (cs : List CondP) (fb tb wb rb : ByteArray) (no : Nat) (w : World) (h : RdIs W R k srcs x K opn r w) (hs : SrcIs W R s fb.data.toList cv cs w)
    (ho : opn.length ≤ 1000000) (hd : r.diags.length ≤ 1000000) (hck : checkB rb.data.toList = true) (hin : rb.data.toList ∈ opn) :
    Calls Tryz.prog 151 #[.pointer (some ⟨s, 0, none⟩), lineV fb no tb wb rb] w (Deed W R s k srcs fb.data.toList x cv w K opn (cs, r.tell fb.data.toList no 2 rb.data.toList)) := by
  obtain ⟨W1, hW1, bx⟩ := boxed w fb no tb wb rb
  have h1 := h.below bx.bel
  have hs1 := hs.below bx.bel
  obtain ⟨p, c, hov⟩ := row_slice h.rop
  have p0 := bx.p0
  have p1 := bx.p1
  have p2 := bx.p2
  have p4 := bx.p4
  have d3 : W1.cell? ⟨s, 0, none⟩ = some (.pointer (some ⟨R, 0, none⟩)) := cell_at (j := 0) hs1.blk rfl
  have d4 : W1.cell? ⟨R, 0, none⟩ = some k.sv := h1.cells 0 _ rfl
  have d5 : W1.cell? ⟨R, 4, none⟩ = some (.slice p opn.length c) := h1.cells 4 _ (by rw [← hov]; rfl)
  have HFi := find_c k.sv srcs rb W1 h1.attrs
  have HCk := fun w2 => path_any rb w2
  have HCo := fun w2 (hb : Below W1.heap.size W1 w2) => contains_c W.heap.size (.slice p opn.length c) opn rb w2 (by have := (h1.below hb).rop; rw [hov] at this; exact this) ho
  have BX := Lib.hid bx
  have H1 := Lib.hid h1
  have HS1 := Lib.hid hs1
  simp only [hck] at HCk
  obtain ⟨ga, gb, hgv⟩ : ∃ a b, getV (getL srcs rb) = .tuple #[.string a, .bool b] := by cases getL srcs rb <;> exact ⟨_, _, rfl⟩
  rw [hgv] at HFi
  clear hgv
  simp only [hin, decide_true] at HCo
  unfold lineV
  clear h hs h1 hs1 bx hov
  go_enter Tryz.func151, Tryz.ntmps151
  go_wp2_with (first
    | (go_at_call 24; refine HFi.mono ?_; rintro e w2 ⟨rfl, hb2⟩; have a0 := keep_cell hb2 p0; have a1 := keep_cell hb2 p1; have a2 := keep_cell hb2 p2; have a3 := keep_cell hb2 d3; have a5 := keep_cell hb2 d5)
    | (go_at_call 169; refine (HCk w2).mono ?_; rintro e w3 ⟨rfl, hb3⟩; have hb4 := behind hb2 hb3; have b0 := keep_cell hb4 p0; have b1 := keep_cell hb4 p1; have b2 := keep_cell hb4 p2; have b3 := keep_cell hb4 d3; have b5 := keep_cell hb4 d5)
    | (go_at_call 170; refine (HCo w3 hb4).mono ?_; rintro e w4 ⟨rfl, hb5⟩; have hb6 := behind hb4 hb5; have c0 := keep_cell hb6 p0; have c1 := keep_cell hb6 p1; have c2 := keep_cell hb6 p2; have c3 := keep_cell hb6 d3; have c5 := keep_cell hb6 d5))
  go_still_tail 7, (by kernel_rfl)
  change wpList _ _ _ _ _ w4.drew
  have hT := tell_c W R K k srcs x opn r fb rb no 2 w4.drew (H1.out.below (behind hb6 (Below.refl _ _).drew)) hd
  go_wp2_with (go_at_call 168; refine hT.mono ?_; rintro e w5 ⟨rfl, x', hst⟩)
  go_end0
  exact ⟨rfl, x', cv, (((hst.ahead (behind hb6 (Below.refl _ _).drew)).deed H1.out HS1.out).ahead BX.out.bel)⟩

set_option maxHeartbeats 8000000 in
theorem incl_deep (W : World) (R s K : Nat) (k : RdK) (srcs : List At) (x : RdV) (opn : List (List UInt8)) (r : Rd) (cv : Value) (cs : List CondP) (fb tb wb rb : ByteArray) (no : Nat) (w : World) (h : RdIs W R k srcs x K opn r w) (hs : SrcIs W R s fb.data.toList cv cs w)
    (ho : opn.length ≤ 1000000) (hd : r.diags.length ≤ 1000000) (hck : checkB rb.data.toList = true) (hin : rb.data.toList ∉ opn) (h16 : 16 ≤ opn.length) :
    Calls Tryz.prog 151 #[.pointer (some ⟨s, 0, none⟩), lineV fb no tb wb rb] w (Deed W R s k srcs fb.data.toList x cv w K opn (cs, r.tell fb.data.toList no 5 rb.data.toList)) := by
  obtain ⟨W1, hW1, bx⟩ := boxed w fb no tb wb rb
  have h1 := h.below bx.bel
  have hs1 := hs.below bx.bel
  obtain ⟨p, c, hov⟩ := row_slice h.rop
  have p0 := bx.p0
  have p1 := bx.p1
  have p2 := bx.p2
  have p4 := bx.p4
  have d3 : W1.cell? ⟨s, 0, none⟩ = some (.pointer (some ⟨R, 0, none⟩)) := cell_at (j := 0) hs1.blk rfl
  have d4 : W1.cell? ⟨R, 0, none⟩ = some k.sv := h1.cells 0 _ rfl
  have d5 : W1.cell? ⟨R, 4, none⟩ = some (.slice p opn.length c) := h1.cells 4 _ (by rw [← hov]; rfl)
  have HFi := find_c k.sv srcs rb W1 h1.attrs
  have HCk := fun w2 => path_any rb w2
  have HCo := fun w2 (hb : Below W1.heap.size W1 w2) => contains_c W.heap.size (.slice p opn.length c) opn rb w2 (by have := (h1.below hb).rop; rw [hov] at this; exact this) ho
  have BX := Lib.hid bx
  have H1 := Lib.hid h1
  have HS1 := Lib.hid hs1
  simp only [hck] at HCk
  obtain ⟨ga, gb, hgv⟩ : ∃ a b, getV (getL srcs rb) = .tuple #[.string a, .bool b] := by cases getL srcs rb <;> exact ⟨_, _, rfl⟩
  rw [hgv] at HFi
  clear hgv
  simp only [hin, decide_false] at HCo
  have e16 : (16 : Int) ≤ (opn.length : Int) := by omega
  unfold lineV
  clear h hs h1 hs1 bx hov
  go_enter Tryz.func151, Tryz.ntmps151
  go_wp2_with (first
    | (go_at_call 24; refine HFi.mono ?_; rintro e w2 ⟨rfl, hb2⟩; have a0 := keep_cell hb2 p0; have a1 := keep_cell hb2 p1; have a2 := keep_cell hb2 p2; have a3 := keep_cell hb2 d3; have a5 := keep_cell hb2 d5)
    | (go_at_call 169; refine (HCk w2).mono ?_; rintro e w3 ⟨rfl, hb3⟩; have hb4 := behind hb2 hb3; have b0 := keep_cell hb4 p0; have b1 := keep_cell hb4 p1; have b2 := keep_cell hb4 p2; have b3 := keep_cell hb4 d3; have b5 := keep_cell hb4 d5)
    | (go_at_call 170; refine (HCo w3 hb4).mono ?_; rintro e w4 ⟨rfl, hb5⟩; have hb6 := behind hb4 hb5; have c0 := keep_cell hb6 p0; have c1 := keep_cell hb6 p1; have c2 := keep_cell hb6 p2; have c3 := keep_cell hb6 d3; have c5 := keep_cell hb6 d5))
  go_still_tail 7, (by kernel_rfl)
  change wpList _ _ _ _ _ w4.drew
  have hT := tell_c W R K k srcs x opn r fb rb no 5 w4.drew (H1.out.below (behind hb6 (Below.refl _ _).drew)) hd
  go_wp2_with (go_at_call 168; refine hT.mono ?_; rintro e w5 ⟨rfl, x', hst⟩)
  go_end0
  exact ⟨rfl, x', cv, (((hst.ahead (behind hb6 (Below.refl _ _).drew)).deed H1.out HS1.out).ahead BX.out.bel)⟩

set_option maxHeartbeats 8000000 in
theorem incl_none (W : World) (R s K : Nat) (k : RdK) (srcs : List At) (x : RdV) (opn : List (List UInt8)) (r : Rd) (cv : Value) (cs : List CondP) (fb tb wb rb : ByteArray) (no : Nat) (w : World) (h : RdIs W R k srcs x K opn r w) (hs : SrcIs W R s fb.data.toList cv cs w)
    (ho : opn.length ≤ 1000000) (hd : r.diags.length ≤ 1000000) (hck : checkB rb.data.toList = true) (hin : rb.data.toList ∉ opn) (h16 : ¬ 16 ≤ opn.length) (hf : getL srcs rb = none) :
    Calls Tryz.prog 151 #[.pointer (some ⟨s, 0, none⟩), lineV fb no tb wb rb] w (Deed W R s k srcs fb.data.toList x cv w K opn (cs, r.tell fb.data.toList no 1 rb.data.toList)) := by
  obtain ⟨W1, hW1, bx⟩ := boxed w fb no tb wb rb
  have h1 := h.below bx.bel
  have hs1 := hs.below bx.bel
  obtain ⟨p, c, hov⟩ := row_slice h.rop
  have p0 := bx.p0
  have p1 := bx.p1
  have p2 := bx.p2
  have p4 := bx.p4
  have d3 : W1.cell? ⟨s, 0, none⟩ = some (.pointer (some ⟨R, 0, none⟩)) := cell_at (j := 0) hs1.blk rfl
  have d4 : W1.cell? ⟨R, 0, none⟩ = some k.sv := h1.cells 0 _ rfl
  have d5 : W1.cell? ⟨R, 4, none⟩ = some (.slice p opn.length c) := h1.cells 4 _ (by rw [← hov]; rfl)
  have HFi := find_c k.sv srcs rb W1 h1.attrs
  have HCk := fun w2 => path_any rb w2
  have HCo := fun w2 (hb : Below W1.heap.size W1 w2) => contains_c W.heap.size (.slice p opn.length c) opn rb w2 (by have := (h1.below hb).rop; rw [hov] at this; exact this) ho
  have BX := Lib.hid bx
  have H1 := Lib.hid h1
  have HS1 := Lib.hid hs1
  simp only [hck] at HCk
  simp only [hin, decide_false] at HCo
  have e16 : ¬ (16 : Int) ≤ (opn.length : Int) := by omega
  simp only [hf, getV] at HFi
  unfold lineV
  clear h hs h1 hs1 bx hov
  go_enter Tryz.func151, Tryz.ntmps151
  go_wp2_with (first
    | (go_at_call 24; refine HFi.mono ?_; rintro e w2 ⟨rfl, hb2⟩; have a0 := keep_cell hb2 p0; have a1 := keep_cell hb2 p1; have a2 := keep_cell hb2 p2; have a3 := keep_cell hb2 d3; have a5 := keep_cell hb2 d5)
    | (go_at_call 169; refine (HCk w2).mono ?_; rintro e w3 ⟨rfl, hb3⟩; have hb4 := behind hb2 hb3; have b0 := keep_cell hb4 p0; have b1 := keep_cell hb4 p1; have b2 := keep_cell hb4 p2; have b3 := keep_cell hb4 d3; have b5 := keep_cell hb4 d5)
    | (go_at_call 170; refine (HCo w3 hb4).mono ?_; rintro e w4 ⟨rfl, hb5⟩; have hb6 := behind hb4 hb5; have c0 := keep_cell hb6 p0; have c1 := keep_cell hb6 p1; have c2 := keep_cell hb6 p2; have c3 := keep_cell hb6 d3; have c5 := keep_cell hb6 d5))
  go_still_tail 7, (by kernel_rfl)
  change wpList _ _ _ _ _ w4.drew
  have hT := tell_c W R K k srcs x opn r fb rb no 1 w4.drew (H1.out.below (behind hb6 (Below.refl _ _).drew)) hd
  go_wp2_with (go_at_call 168; refine hT.mono ?_; rintro e w5 ⟨rfl, x', hst⟩)
  go_end0
  exact ⟨rfl, x', cv, (((hst.ahead (behind hb6 (Below.refl _ _).drew)).deed H1.out HS1.out).ahead BX.out.bel)⟩

set_option maxHeartbeats 8000000 in
theorem incl_some (W : World) (R s K : Nat) (k : RdK) (srcs : List At) (x : RdV) (opn : List (List UInt8)) (r : Rd) (cv : Value) (cs : List CondP) (fb tb wb rb : ByteArray) (no : Nat) (w : World) (h : RdIs W R k srcs x K opn r w) (hs : SrcIs W R s fb.data.toList cv cs w)
    (ho : opn.length ≤ 1000000) (hck : checkB rb.data.toList = true) (hin : rb.data.toList ∉ opn) (h16 : ¬ 16 ≤ opn.length) (ub : ByteArray) (hf : getL srcs rb = some ub) (K' : Nat) (r' : Rd) (hrec : ∀ w2, RdIs W R k srcs x K opn r w2 → Calls Tryz.prog 156 #[.pointer (some ⟨R, 0, none⟩), .string rb, .string ub] w2 (fun e w' => e = .returned (.tuple #[]) ∧ ∃ x', StepTo W R k srcs x w2 x' K' opn r' w')) :
    Calls Tryz.prog 151 #[.pointer (some ⟨s, 0, none⟩), lineV fb no tb wb rb] w (Deed W R s k srcs fb.data.toList x cv w K' opn (cs, r')) := by
  obtain ⟨W1, hW1, bx⟩ := boxed w fb no tb wb rb
  have h1 := h.below bx.bel
  have hs1 := hs.below bx.bel
  obtain ⟨p, c, hov⟩ := row_slice h.rop
  have p0 := bx.p0
  have p1 := bx.p1
  have p2 := bx.p2
  have p4 := bx.p4
  have d3 : W1.cell? ⟨s, 0, none⟩ = some (.pointer (some ⟨R, 0, none⟩)) := cell_at (j := 0) hs1.blk rfl
  have d4 : W1.cell? ⟨R, 0, none⟩ = some k.sv := h1.cells 0 _ rfl
  have d5 : W1.cell? ⟨R, 4, none⟩ = some (.slice p opn.length c) := h1.cells 4 _ (by rw [← hov]; rfl)
  have HFi := find_c k.sv srcs rb W1 h1.attrs
  have HCk := fun w2 => path_any rb w2
  have HCo := fun w2 (hb : Below W1.heap.size W1 w2) => contains_c W.heap.size (.slice p opn.length c) opn rb w2 (by have := (h1.below hb).rop; rw [hov] at this; exact this) ho
  have BX := Lib.hid bx
  have H1 := Lib.hid h1
  have HS1 := Lib.hid hs1
  simp only [hck] at HCk
  simp only [hin, decide_false] at HCo
  have e16 : ¬ (16 : Int) ≤ (opn.length : Int) := by omega
  simp only [hf, getV] at HFi
  unfold lineV
  clear h hs h1 hs1 bx hov
  go_enter Tryz.func151, Tryz.ntmps151
  go_wp2_with (first
    | (go_at_call 24; refine HFi.mono ?_; rintro e w2 ⟨rfl, hb2⟩; have a0 := keep_cell hb2 p0; have a1 := keep_cell hb2 p1; have a2 := keep_cell hb2 p2; have a3 := keep_cell hb2 d3; have a5 := keep_cell hb2 d5)
    | (go_at_call 169; refine (HCk w2).mono ?_; rintro e w3 ⟨rfl, hb3⟩; have hb4 := behind hb2 hb3; have b0 := keep_cell hb4 p0; have b1 := keep_cell hb4 p1; have b2 := keep_cell hb4 p2; have b3 := keep_cell hb4 d3; have b5 := keep_cell hb4 d5)
    | (go_at_call 170; refine (HCo w3 hb4).mono ?_; rintro e w4 ⟨rfl, hb5⟩; have hb6 := behind hb4 hb5; have c0 := keep_cell hb6 p0; have c1 := keep_cell hb6 p1; have c2 := keep_cell hb6 p2; have c3 := keep_cell hb6 d3; have c5 := keep_cell hb6 d5)
    | (go_at_call 156; refine (hrec _ (H1.out.below hb6)).mono ?_; rintro e w5 ⟨rfl, x', hst⟩))
  go_end0
  exact ⟨rfl, x', cv, (((hst.ahead hb6).deed H1.out HS1.out).ahead BX.out.bel)⟩

theorem include_m (W : World) (R s K K' : Nat) (k : RdK) (srcs : List At) (x : RdV) (opn : List (List UInt8)) (r : Rd) (cv : Value) (cs : List CondP) (fb tb wb rb : ByteArray) (no : Nat) (w : World) (h : RdIs W R k srcs x K opn r w) (hs : SrcIs W R s fb.data.toList cv cs w)
    (ho : opn.length ≤ 1000000) (hd : r.diags.length ≤ 1000000) (hK : K ≤ K') (rec : List UInt8 → List UInt8 → Rd → Rd) (hrec : RecOk W R k srcs K x opn rec rb r)
    (hlong : (inclL rec srcs opn fb.data.toList no tb.data.toList rb.data.toList r).long = false) (hK2 : 100100 * (inclL rec srcs opn fb.data.toList no tb.data.toList rb.data.toList r).count + 1000 ≤ K') :
    Calls Tryz.prog 151 #[.pointer (some ⟨s, 0, none⟩), lineV fb no tb wb rb] w (Deed W R s k srcs fb.data.toList x cv w K' opn (cs, inclL rec srcs opn fb.data.toList no tb.data.toList rb.data.toList r)) := by
  have wide : ∀ {p : List CondP × Rd} {e : Ending} {w' : World}, Deed W R s k srcs fb.data.toList x cv w K opn p e w' → Deed W R s k srcs fb.data.toList x cv w K' opn p e w' := fun ⟨e, x', cv', hst⟩ => ⟨e, x', cv', hst.mono hK⟩
  have hIU : inclL rec srcs opn fb.data.toList no tb.data.toList rb.data.toList r = (if checkB rb.data.toList = false then r.tell fb.data.toList no 3 tb.data.toList
    else if rb.data.toList ∈ opn then r.tell fb.data.toList no 2 rb.data.toList
    else if 16 ≤ opn.length then r.tell fb.data.toList no 5 rb.data.toList
    else match findL srcs rb.data.toList with
      | none => r.tell fb.data.toList no 1 rb.data.toList
      | some text => rec rb.data.toList text r) := rfl
  rw [hIU]
  cases hck : checkB rb.data.toList with
  | false => rw [if_pos rfl]; exact (incl_word W R s K k srcs x opn r cv cs fb tb wb rb no w h hs ho hd hck).mono fun _ _ => wide
  | true =>
    rw [if_neg (by decide)]
    by_cases hin : rb.data.toList ∈ opn
    · rw [if_pos hin]; exact (incl_circle W R s K k srcs x opn r cv cs fb tb wb rb no w h hs ho hd hck hin).mono fun _ _ => wide
    · rw [if_neg hin]
      by_cases h16 : 16 ≤ opn.length
      · rw [if_pos h16]; exact (incl_deep W R s K k srcs x opn r cv cs fb tb wb rb no w h hs ho hd hck hin h16).mono fun _ _ => wide
      · rw [if_neg h16]
        cases hf : getL srcs rb with
        | none =>
          have : findL srcs rb.data.toList = none := by rw [findL_v, hf]; rfl
          rw [this]
          exact (incl_none W R s K k srcs x opn r cv cs fb tb wb rb no w h hs ho hd hck hin h16 hf).mono fun _ _ => wide
        | some ub =>
          have hf2 : findL srcs rb.data.toList = some ub.data.toList := by rw [findL_v, hf]; rfl
          have hI : inclL rec srcs opn fb.data.toList no tb.data.toList rb.data.toList r = rec rb.data.toList ub.data.toList r := by
            unfold inclL; rw [if_neg (by rw [hck]; decide), if_neg hin, if_neg h16, hf2]
          rw [hI] at hlong hK2
          have hr := hrec hck hin (by omega) ub.data.toList hf2 hlong
          rw [bT_data] at hr
          rw [hf2]
          exact (incl_some W R s K k srcs x opn r cv cs fb tb wb rb no w h hs ho hck hin h16 ub hf _ _ hr).mono fun _ _ ⟨e, x', cv', hst⟩ => ⟨e, x', cv', hst.mono hK2⟩
end Go.Proofs.YtbhlnemahhndoaaGreatDoor
namespace Go.Proofs.YtbhlnemahhndoaaGreatDoor
open Go.RowKit Go.Maps
set_option maxRecDepth 100000

/-! ### what a line does, by its word -/
theorem deed_lift {W w w2 : World} {R s K' : Nat} {k : RdK} {srcs : List At} {file : List UInt8} {x : RdV} {cv : Value} {opn : List (List UInt8)} {p : List CondP × Rd} {e : Ending} {w' : World} (hb : Below w.heap.size w w2) (h : Deed W R s k srcs file x cv w2 K' opn p e w') : Deed W R s k srcs file x cv w K' opn p e w' := by
  obtain ⟨e1, x', cv', hs⟩ := h
  exact ⟨e1, x', cv', hs.ahead hb⟩

set_option maxHeartbeats 8000000 in
theorem do_if (W : World) (R s K K' : Nat) (k : RdK) (srcs : List At) (x : RdV) (opn : List (List UInt8)) (r : Rd) (cv : Value) (cs : List CondP) (fb tb wb rb : ByteArray) (no : Nat) (w : World) (h : RdIs W R k srcs x K opn r w) (hs : SrcIs W R s fb.data.toList cv cs w) (hwz : wb.size ≤ maxLen) (hw : wb.data.toList = wIf) (p : List CondP × Rd)
    (hC : ∀ w2, RdIs W R k srcs x K opn r w2 → SrcIs W R s fb.data.toList cv cs w2 → Calls Tryz.prog 148 #[.pointer (some ⟨s, 0, none⟩), lineV fb no tb wb rb] w2 (Deed W R s k srcs fb.data.toList x cv w2 K' opn p)) :
    Calls Tryz.prog 198 #[.pointer (some ⟨s, 0, none⟩), lineV fb no tb wb rb] w (Deed W R s k srcs fb.data.toList x cv w K' opn p) := by
  obtain ⟨W1, hW1, bx⟩ := boxed w fb no tb wb rb
  have h1 := h.below bx.bel
  have hs1 := hs.below bx.bel
  have p0 := bx.p0
  have p1 := bx.p1
  have p2 := bx.p2
  have p3 := bx.p3
  have p4 := bx.p4
  have d3 : W1.cell? ⟨s, 0, none⟩ = some (.pointer (some ⟨R, 0, none⟩)) := cell_at (j := 0) hs1.blk rfl
  have d4 : W1.cell? ⟨R, 2, none⟩ = some (.map (some k.d1)) := h1.cells 2 _ rfl
  have d5 : W1.cell? ⟨R, 3, none⟩ = some (.map (some k.d2)) := h1.cells 3 _ rfl
  have hm1 : ∀ n, (W1.drewN n).ownsMap Tryz.prog 9 heldR k.d1 3 anyD := fun n => keep_map h1.m1 rfl
  have hDr : ∀ n, Below W1.heap.size W1 (W1.drewN n) := fun n => below_drewN (Below.refl _ _) n
  have BX := Lib.hid bx
  have H1 := Lib.hid h1
  have HS1 := Lib.hid hs1
  have hL : ∀ n, (Instr.lookup 112 (.map (some k.d1)) (.string wb) true).run Tryz.prog (W1.drewN n) = .ok (.tuple #[mIf, .bool true]) (W1.drewN n) := fun n =>
    look_deed (hm1 n) wb hwz mIf true (by rw [hw]; exact any_if.1) (by rw [hw]; exact any_if.2)
  unfold mIf at hL
  have hL0 := hL 0
  clear h hs h1 hs1 bx hm1
  unfold lineV
  unfold lineV at hC
  go_enter Tryz.func198, Tryz.ntmps198
  go_wp2
  go_quiet (fail)
  go_wp2_with (go_at_call 148; refine (hC _ (H1.out.below (hDr _)) (HS1.out.below (hDr _))).mono ?_; rintro e w3 ⟨rfl, x', cv', hst⟩)
  first | go_end0 | refine bodyPost_ret (results_none rfl _ _ _) rfl ?_
  exact ⟨rfl, x', cv', (hst.ahead (hDr _)).ahead BX.out.bel⟩

set_option maxHeartbeats 8000000 in
theorem do_else (W : World) (R s K K' : Nat) (k : RdK) (srcs : List At) (x : RdV) (opn : List (List UInt8)) (r : Rd) (cv : Value) (cs : List CondP) (fb tb wb rb : ByteArray) (no : Nat) (w : World) (h : RdIs W R k srcs x K opn r w) (hs : SrcIs W R s fb.data.toList cv cs w) (hwz : wb.size ≤ maxLen) (hw : wb.data.toList = wElse) (p : List CondP × Rd)
    (hC : ∀ w2, RdIs W R k srcs x K opn r w2 → SrcIs W R s fb.data.toList cv cs w2 → Calls Tryz.prog 149 #[.pointer (some ⟨s, 0, none⟩), lineV fb no tb wb rb] w2 (Deed W R s k srcs fb.data.toList x cv w2 K' opn p)) :
    Calls Tryz.prog 198 #[.pointer (some ⟨s, 0, none⟩), lineV fb no tb wb rb] w (Deed W R s k srcs fb.data.toList x cv w K' opn p) := by
  obtain ⟨W1, hW1, bx⟩ := boxed w fb no tb wb rb
  have h1 := h.below bx.bel
  have hs1 := hs.below bx.bel
  have p0 := bx.p0
  have p1 := bx.p1
  have p2 := bx.p2
  have p3 := bx.p3
  have p4 := bx.p4
  have d3 : W1.cell? ⟨s, 0, none⟩ = some (.pointer (some ⟨R, 0, none⟩)) := cell_at (j := 0) hs1.blk rfl
  have d4 : W1.cell? ⟨R, 2, none⟩ = some (.map (some k.d1)) := h1.cells 2 _ rfl
  have d5 : W1.cell? ⟨R, 3, none⟩ = some (.map (some k.d2)) := h1.cells 3 _ rfl
  have hm1 : ∀ n, (W1.drewN n).ownsMap Tryz.prog 9 heldR k.d1 3 anyD := fun n => keep_map h1.m1 rfl
  have hDr : ∀ n, Below W1.heap.size W1 (W1.drewN n) := fun n => below_drewN (Below.refl _ _) n
  have BX := Lib.hid bx
  have H1 := Lib.hid h1
  have HS1 := Lib.hid hs1
  have hL : ∀ n, (Instr.lookup 112 (.map (some k.d1)) (.string wb) true).run Tryz.prog (W1.drewN n) = .ok (.tuple #[mElse, .bool true]) (W1.drewN n) := fun n =>
    look_deed (hm1 n) wb hwz mElse true (by rw [hw]; exact any_else.1) (by rw [hw]; exact any_else.2)
  unfold mElse at hL
  have hL0 := hL 0
  clear h hs h1 hs1 bx hm1
  unfold lineV
  unfold lineV at hC
  go_enter Tryz.func198, Tryz.ntmps198
  go_wp2
  go_quiet (fail)
  go_wp2_with (go_at_call 149; refine (hC _ (H1.out.below (hDr _)) (HS1.out.below (hDr _))).mono ?_; rintro e w3 ⟨rfl, x', cv', hst⟩)
  first | go_end0 | refine bodyPost_ret (results_none rfl _ _ _) rfl ?_
  exact ⟨rfl, x', cv', (hst.ahead (hDr _)).ahead BX.out.bel⟩

set_option maxHeartbeats 8000000 in
theorem do_end (W : World) (R s K K' : Nat) (k : RdK) (srcs : List At) (x : RdV) (opn : List (List UInt8)) (r : Rd) (cv : Value) (cs : List CondP) (fb tb wb rb : ByteArray) (no : Nat) (w : World) (h : RdIs W R k srcs x K opn r w) (hs : SrcIs W R s fb.data.toList cv cs w) (hwz : wb.size ≤ maxLen) (hw : wb.data.toList = wEnd) (p : List CondP × Rd)
    (hC : ∀ w2, RdIs W R k srcs x K opn r w2 → SrcIs W R s fb.data.toList cv cs w2 → Calls Tryz.prog 150 #[.pointer (some ⟨s, 0, none⟩), lineV fb no tb wb rb] w2 (Deed W R s k srcs fb.data.toList x cv w2 K' opn p)) :
    Calls Tryz.prog 198 #[.pointer (some ⟨s, 0, none⟩), lineV fb no tb wb rb] w (Deed W R s k srcs fb.data.toList x cv w K' opn p) := by
  obtain ⟨W1, hW1, bx⟩ := boxed w fb no tb wb rb
  have h1 := h.below bx.bel
  have hs1 := hs.below bx.bel
  have p0 := bx.p0
  have p1 := bx.p1
  have p2 := bx.p2
  have p3 := bx.p3
  have p4 := bx.p4
  have d3 : W1.cell? ⟨s, 0, none⟩ = some (.pointer (some ⟨R, 0, none⟩)) := cell_at (j := 0) hs1.blk rfl
  have d4 : W1.cell? ⟨R, 2, none⟩ = some (.map (some k.d1)) := h1.cells 2 _ rfl
  have d5 : W1.cell? ⟨R, 3, none⟩ = some (.map (some k.d2)) := h1.cells 3 _ rfl
  have hm1 : ∀ n, (W1.drewN n).ownsMap Tryz.prog 9 heldR k.d1 3 anyD := fun n => keep_map h1.m1 rfl
  have hDr : ∀ n, Below W1.heap.size W1 (W1.drewN n) := fun n => below_drewN (Below.refl _ _) n
  have BX := Lib.hid bx
  have H1 := Lib.hid h1
  have HS1 := Lib.hid hs1
  have hL : ∀ n, (Instr.lookup 112 (.map (some k.d1)) (.string wb) true).run Tryz.prog (W1.drewN n) = .ok (.tuple #[mEnd, .bool true]) (W1.drewN n) := fun n =>
    look_deed (hm1 n) wb hwz mEnd true (by rw [hw]; exact any_end.1) (by rw [hw]; exact any_end.2)
  unfold mEnd at hL
  have hL0 := hL 0
  clear h hs h1 hs1 bx hm1
  unfold lineV
  unfold lineV at hC
  go_enter Tryz.func198, Tryz.ntmps198
  go_wp2
  go_quiet (fail)
  go_wp2_with (go_at_call 150; refine (hC _ (H1.out.below (hDr _)) (HS1.out.below (hDr _))).mono ?_; rintro e w3 ⟨rfl, x', cv', hst⟩)
  first | go_end0 | refine bodyPost_ret (results_none rfl _ _ _) rfl ?_
  exact ⟨rfl, x', cv', (hst.ahead (hDr _)).ahead BX.out.bel⟩

set_option maxHeartbeats 8000000 in
theorem do_off (W : World) (R s K : Nat) (k : RdK) (srcs : List At) (x : RdV) (opn : List (List UInt8)) (r : Rd) (cv : Value) (cs : List CondP) (fb tb wb rb : ByteArray) (no : Nat) (w : World) (h : RdIs W R k srcs x K opn r w) (hs : SrcIs W R s fb.data.toList cv cs w) (hwz : wb.size ≤ maxLen) (n1 : ¬ wb.data.toList = wIf) (n2 : ¬ wb.data.toList = wElse) (n3 : ¬ wb.data.toList = wEnd) (hcl : cs.length ≤ 1000000) (hf : forceL cs = false) :
    Calls Tryz.prog 198 #[.pointer (some ⟨s, 0, none⟩), lineV fb no tb wb rb] w (Deed W R s k srcs fb.data.toList x cv w K opn (cs, r)) := by
  obtain ⟨W1, hW1, bx⟩ := boxed w fb no tb wb rb
  have h1 := h.below bx.bel
  have hs1 := hs.below bx.bel
  have p0 := bx.p0
  have p1 := bx.p1
  have p2 := bx.p2
  have p3 := bx.p3
  have p4 := bx.p4
  have d3 : W1.cell? ⟨s, 0, none⟩ = some (.pointer (some ⟨R, 0, none⟩)) := cell_at (j := 0) hs1.blk rfl
  have d4 : W1.cell? ⟨R, 2, none⟩ = some (.map (some k.d1)) := h1.cells 2 _ rfl
  have d5 : W1.cell? ⟨R, 3, none⟩ = some (.map (some k.d2)) := h1.cells 3 _ rfl
  have hm1 : ∀ n, (W1.drewN n).ownsMap Tryz.prog 9 heldR k.d1 3 anyD := fun n => keep_map h1.m1 rfl
  have hDr : ∀ n, Below W1.heap.size W1 (W1.drewN n) := fun n => below_drewN (Below.refl _ _) n
  have BX := Lib.hid bx
  have H1 := Lib.hid h1
  have HS1 := Lib.hid hs1
  have hL : ∀ n, (Instr.lookup 112 (.map (some k.d1)) (.string wb) true).run Tryz.prog (W1.drewN n) = .ok (.tuple #[.nilFunc, .bool false]) (W1.drewN n) := fun n =>
    look_deed (hm1 n) wb hwz .nilFunc false (any_other n1 n2 n3).1 (any_other n1 n2 n3).2
  have hL0 := hL 0
  have hF := fun w2 (hb : Below W1.heap.size W1 w2) => force_c W w2 R s fb.data.toList cv cs (HS1.out.below hb) hcl
  rw [hf] at hF
  have hD2 : ∀ w2 q, Below W1.heap.size W1 w2 → Below W1.heap.size W1 (w2.drewN q) := fun w2 q hb => below_drewN hb q
  clear h hs h1 hs1 bx hm1
  unfold lineV
  go_enter Tryz.func198, Tryz.ntmps198
  go_wp2
  go_quiet (fail)
  go_wp2_with (go_at_call 165; refine (hF _ (hDr _)).mono ?_; rintro e w3 ⟨rfl, q, rfl⟩)
  first | go_end0 | refine bodyPost_ret (results_none rfl _ _ _) rfl ?_
  exact ⟨rfl, x, cv, ((SStep.refl (H1.out.below (hDr _)) (HS1.out.below (hDr _))).ahead (hDr _)).ahead BX.out.bel⟩

set_option maxHeartbeats 8000000 in
theorem do_include (W : World) (R s K K' : Nat) (k : RdK) (srcs : List At) (x : RdV) (opn : List (List UInt8)) (r : Rd) (cv : Value) (cs : List CondP) (fb tb wb rb : ByteArray) (no : Nat) (w : World) (h : RdIs W R k srcs x K opn r w) (hs : SrcIs W R s fb.data.toList cv cs w) (hwz : wb.size ≤ maxLen) (n1 : ¬ wb.data.toList = wIf) (n2 : ¬ wb.data.toList = wElse) (n3 : ¬ wb.data.toList = wEnd) (hcl : cs.length ≤ 1000000) (hf : forceL cs = true) (hw : wb.data.toList = wInclude) (p : List CondP × Rd)
    (hC : ∀ w2, RdIs W R k srcs x K opn r w2 → SrcIs W R s fb.data.toList cv cs w2 → Calls Tryz.prog 151 #[.pointer (some ⟨s, 0, none⟩), lineV fb no tb wb rb] w2 (Deed W R s k srcs fb.data.toList x cv w2 K' opn p)) :
    Calls Tryz.prog 198 #[.pointer (some ⟨s, 0, none⟩), lineV fb no tb wb rb] w (Deed W R s k srcs fb.data.toList x cv w K' opn p) := by
  obtain ⟨W1, hW1, bx⟩ := boxed w fb no tb wb rb
  have h1 := h.below bx.bel
  have hs1 := hs.below bx.bel
  have p0 := bx.p0
  have p1 := bx.p1
  have p2 := bx.p2
  have p3 := bx.p3
  have p4 := bx.p4
  have d3 : W1.cell? ⟨s, 0, none⟩ = some (.pointer (some ⟨R, 0, none⟩)) := cell_at (j := 0) hs1.blk rfl
  have d4 : W1.cell? ⟨R, 2, none⟩ = some (.map (some k.d1)) := h1.cells 2 _ rfl
  have d5 : W1.cell? ⟨R, 3, none⟩ = some (.map (some k.d2)) := h1.cells 3 _ rfl
  have hm1 : ∀ n, (W1.drewN n).ownsMap Tryz.prog 9 heldR k.d1 3 anyD := fun n => keep_map h1.m1 rfl
  have hDr : ∀ n, Below W1.heap.size W1 (W1.drewN n) := fun n => below_drewN (Below.refl _ _) n
  have BX := Lib.hid bx
  have H1 := Lib.hid h1
  have HS1 := Lib.hid hs1
  have hL : ∀ n, (Instr.lookup 112 (.map (some k.d1)) (.string wb) true).run Tryz.prog (W1.drewN n) = .ok (.tuple #[.nilFunc, .bool false]) (W1.drewN n) := fun n =>
    look_deed (hm1 n) wb hwz .nilFunc false (any_other n1 n2 n3).1 (any_other n1 n2 n3).2
  have hL0 := hL 0
  have hF := fun w2 (hb : Below W1.heap.size W1 w2) => force_c W w2 R s fb.data.toList cv cs (HS1.out.below hb) hcl
  rw [hf] at hF
  have hD2 : ∀ w2 q, Below W1.heap.size W1 w2 → Below W1.heap.size W1 (w2.drewN q) := fun w2 q hb => below_drewN hb q
  have hLF : ∀ w3, Below W1.heap.size W1 w3 → ∀ n, (Instr.lookup 112 (.map (some k.d2)) (.string wb) true).run Tryz.prog (w3.drewN n) = .ok (.tuple #[mInclude, .bool true]) (w3.drewN n) := fun w3 hb n =>
    look_deed (w := w3.drewN n) (keep_map (w' := w3.drewN n) (H1.out.below hb).m2 rfl) wb hwz mInclude true (by rw [hw]; exact force_include.1) (by rw [hw]; exact force_include.2)
  unfold mInclude at hLF
  clear h hs h1 hs1 bx hm1
  unfold lineV
  unfold lineV at hC
  go_enter Tryz.func198, Tryz.ntmps198
  go_wp2
  go_quiet (fail)
  go_wp2_with (go_at_call 165; refine (hF _ (hDr _)).mono ?_; rintro e w3 ⟨rfl, q, hq⟩; have hb3 : Below W1.heap.size W1 w3 := (by rw [hq]; exact hD2 _ q (hDr _)); clear hq; have a0 := keep_cell hb3 p0; have a1 := keep_cell hb3 p1; have a2 := keep_cell hb3 p2; have a3 := keep_cell hb3 p3; have a4 := keep_cell hb3 p4; have a5 := keep_cell hb3 d3; have a6 := keep_cell hb3 d5; have hL2 := hLF w3 hb3; have hL20 := hL2 0)
  go_quiet (fail)
  go_wp2_with (go_at_call 151; refine (hC _ (H1.out.below (hD2 _ _ hb3)) (HS1.out.below (hD2 _ _ hb3))).mono ?_; rintro e w4 ⟨rfl, x', cv', hst⟩)
  first | go_end0 | refine bodyPost_ret (results_none rfl _ _ _) rfl ?_
  exact ⟨rfl, x', cv', (hst.ahead (hD2 _ _ hb3)).ahead BX.out.bel⟩

set_option maxHeartbeats 8000000 in
theorem do_set (W : World) (R s K K' : Nat) (k : RdK) (srcs : List At) (x : RdV) (opn : List (List UInt8)) (r : Rd) (cv : Value) (cs : List CondP) (fb tb wb rb : ByteArray) (no : Nat) (w : World) (h : RdIs W R k srcs x K opn r w) (hs : SrcIs W R s fb.data.toList cv cs w) (hwz : wb.size ≤ maxLen) (n1 : ¬ wb.data.toList = wIf) (n2 : ¬ wb.data.toList = wElse) (n3 : ¬ wb.data.toList = wEnd) (hcl : cs.length ≤ 1000000) (hf : forceL cs = true) (hw : wb.data.toList = wSet) (p : List CondP × Rd)
    (hC : ∀ w2, RdIs W R k srcs x K opn r w2 → SrcIs W R s fb.data.toList cv cs w2 → Calls Tryz.prog 152 #[.pointer (some ⟨s, 0, none⟩), lineV fb no tb wb rb] w2 (Deed W R s k srcs fb.data.toList x cv w2 K' opn p)) :
    Calls Tryz.prog 198 #[.pointer (some ⟨s, 0, none⟩), lineV fb no tb wb rb] w (Deed W R s k srcs fb.data.toList x cv w K' opn p) := by
  obtain ⟨W1, hW1, bx⟩ := boxed w fb no tb wb rb
  have h1 := h.below bx.bel
  have hs1 := hs.below bx.bel
  have p0 := bx.p0
  have p1 := bx.p1
  have p2 := bx.p2
  have p3 := bx.p3
  have p4 := bx.p4
  have d3 : W1.cell? ⟨s, 0, none⟩ = some (.pointer (some ⟨R, 0, none⟩)) := cell_at (j := 0) hs1.blk rfl
  have d4 : W1.cell? ⟨R, 2, none⟩ = some (.map (some k.d1)) := h1.cells 2 _ rfl
  have d5 : W1.cell? ⟨R, 3, none⟩ = some (.map (some k.d2)) := h1.cells 3 _ rfl
  have hm1 : ∀ n, (W1.drewN n).ownsMap Tryz.prog 9 heldR k.d1 3 anyD := fun n => keep_map h1.m1 rfl
  have hDr : ∀ n, Below W1.heap.size W1 (W1.drewN n) := fun n => below_drewN (Below.refl _ _) n
  have BX := Lib.hid bx
  have H1 := Lib.hid h1
  have HS1 := Lib.hid hs1
  have hL : ∀ n, (Instr.lookup 112 (.map (some k.d1)) (.string wb) true).run Tryz.prog (W1.drewN n) = .ok (.tuple #[.nilFunc, .bool false]) (W1.drewN n) := fun n =>
    look_deed (hm1 n) wb hwz .nilFunc false (any_other n1 n2 n3).1 (any_other n1 n2 n3).2
  have hL0 := hL 0
  have hF := fun w2 (hb : Below W1.heap.size W1 w2) => force_c W w2 R s fb.data.toList cv cs (HS1.out.below hb) hcl
  rw [hf] at hF
  have hD2 : ∀ w2 q, Below W1.heap.size W1 w2 → Below W1.heap.size W1 (w2.drewN q) := fun w2 q hb => below_drewN hb q
  have hLF : ∀ w3, Below W1.heap.size W1 w3 → ∀ n, (Instr.lookup 112 (.map (some k.d2)) (.string wb) true).run Tryz.prog (w3.drewN n) = .ok (.tuple #[mSet, .bool true]) (w3.drewN n) := fun w3 hb n =>
    look_deed (w := w3.drewN n) (keep_map (w' := w3.drewN n) (H1.out.below hb).m2 rfl) wb hwz mSet true (by rw [hw]; exact force_set.1) (by rw [hw]; exact force_set.2)
  unfold mSet at hLF
  clear h hs h1 hs1 bx hm1
  unfold lineV
  unfold lineV at hC
  go_enter Tryz.func198, Tryz.ntmps198
  go_wp2
  go_quiet (fail)
  go_wp2_with (go_at_call 165; refine (hF _ (hDr _)).mono ?_; rintro e w3 ⟨rfl, q, hq⟩; have hb3 : Below W1.heap.size W1 w3 := (by rw [hq]; exact hD2 _ q (hDr _)); clear hq; have a0 := keep_cell hb3 p0; have a1 := keep_cell hb3 p1; have a2 := keep_cell hb3 p2; have a3 := keep_cell hb3 p3; have a4 := keep_cell hb3 p4; have a5 := keep_cell hb3 d3; have a6 := keep_cell hb3 d5; have hL2 := hLF w3 hb3; have hL20 := hL2 0)
  go_quiet (fail)
  go_wp2_with (go_at_call 152; refine (hC _ (H1.out.below (hD2 _ _ hb3)) (HS1.out.below (hD2 _ _ hb3))).mono ?_; rintro e w4 ⟨rfl, x', cv', hst⟩)
  first | go_end0 | refine bodyPost_ret (results_none rfl _ _ _) rfl ?_
  exact ⟨rfl, x', cv', (hst.ahead (hD2 _ _ hb3)).ahead BX.out.bel⟩

set_option maxHeartbeats 8000000 in
theorem do_unset (W : World) (R s K K' : Nat) (k : RdK) (srcs : List At) (x : RdV) (opn : List (List UInt8)) (r : Rd) (cv : Value) (cs : List CondP) (fb tb wb rb : ByteArray) (no : Nat) (w : World) (h : RdIs W R k srcs x K opn r w) (hs : SrcIs W R s fb.data.toList cv cs w) (hwz : wb.size ≤ maxLen) (n1 : ¬ wb.data.toList = wIf) (n2 : ¬ wb.data.toList = wElse) (n3 : ¬ wb.data.toList = wEnd) (hcl : cs.length ≤ 1000000) (hf : forceL cs = true) (hw : wb.data.toList = wUnset) (p : List CondP × Rd)
    (hC : ∀ w2, RdIs W R k srcs x K opn r w2 → SrcIs W R s fb.data.toList cv cs w2 → Calls Tryz.prog 153 #[.pointer (some ⟨s, 0, none⟩), lineV fb no tb wb rb] w2 (Deed W R s k srcs fb.data.toList x cv w2 K' opn p)) :
    Calls Tryz.prog 198 #[.pointer (some ⟨s, 0, none⟩), lineV fb no tb wb rb] w (Deed W R s k srcs fb.data.toList x cv w K' opn p) := by
  obtain ⟨W1, hW1, bx⟩ := boxed w fb no tb wb rb
  have h1 := h.below bx.bel
  have hs1 := hs.below bx.bel
  have p0 := bx.p0
  have p1 := bx.p1
  have p2 := bx.p2
  have p3 := bx.p3
  have p4 := bx.p4
  have d3 : W1.cell? ⟨s, 0, none⟩ = some (.pointer (some ⟨R, 0, none⟩)) := cell_at (j := 0) hs1.blk rfl
  have d4 : W1.cell? ⟨R, 2, none⟩ = some (.map (some k.d1)) := h1.cells 2 _ rfl
  have d5 : W1.cell? ⟨R, 3, none⟩ = some (.map (some k.d2)) := h1.cells 3 _ rfl
  have hm1 : ∀ n, (W1.drewN n).ownsMap Tryz.prog 9 heldR k.d1 3 anyD := fun n => keep_map h1.m1 rfl
  have hDr : ∀ n, Below W1.heap.size W1 (W1.drewN n) := fun n => below_drewN (Below.refl _ _) n
  have BX := Lib.hid bx
  have H1 := Lib.hid h1
  have HS1 := Lib.hid hs1
  have hL : ∀ n, (Instr.lookup 112 (.map (some k.d1)) (.string wb) true).run Tryz.prog (W1.drewN n) = .ok (.tuple #[.nilFunc, .bool false]) (W1.drewN n) := fun n =>
    look_deed (hm1 n) wb hwz .nilFunc false (any_other n1 n2 n3).1 (any_other n1 n2 n3).2
  have hL0 := hL 0
  have hF := fun w2 (hb : Below W1.heap.size W1 w2) => force_c W w2 R s fb.data.toList cv cs (HS1.out.below hb) hcl
  rw [hf] at hF
  have hD2 : ∀ w2 q, Below W1.heap.size W1 w2 → Below W1.heap.size W1 (w2.drewN q) := fun w2 q hb => below_drewN hb q
  have hLF : ∀ w3, Below W1.heap.size W1 w3 → ∀ n, (Instr.lookup 112 (.map (some k.d2)) (.string wb) true).run Tryz.prog (w3.drewN n) = .ok (.tuple #[mUnset, .bool true]) (w3.drewN n) := fun w3 hb n =>
    look_deed (w := w3.drewN n) (keep_map (w' := w3.drewN n) (H1.out.below hb).m2 rfl) wb hwz mUnset true (by rw [hw]; exact force_unset.1) (by rw [hw]; exact force_unset.2)
  unfold mUnset at hLF
  clear h hs h1 hs1 bx hm1
  unfold lineV
  unfold lineV at hC
  go_enter Tryz.func198, Tryz.ntmps198
  go_wp2
  go_quiet (fail)
  go_wp2_with (go_at_call 165; refine (hF _ (hDr _)).mono ?_; rintro e w3 ⟨rfl, q, hq⟩; have hb3 : Below W1.heap.size W1 w3 := (by rw [hq]; exact hD2 _ q (hDr _)); clear hq; have a0 := keep_cell hb3 p0; have a1 := keep_cell hb3 p1; have a2 := keep_cell hb3 p2; have a3 := keep_cell hb3 p3; have a4 := keep_cell hb3 p4; have a5 := keep_cell hb3 d3; have a6 := keep_cell hb3 d5; have hL2 := hLF w3 hb3; have hL20 := hL2 0)
  go_quiet (fail)
  go_wp2_with (go_at_call 153; refine (hC _ (H1.out.below (hD2 _ _ hb3)) (HS1.out.below (hD2 _ _ hb3))).mono ?_; rintro e w4 ⟨rfl, x', cv', hst⟩)
  first | go_end0 | refine bodyPost_ret (results_none rfl _ _ _) rfl ?_
  exact ⟨rfl, x', cv', (hst.ahead (hD2 _ _ hb3)).ahead BX.out.bel⟩

set_option maxHeartbeats 8000000 in
theorem do_say (W : World) (R s K K' : Nat) (k : RdK) (srcs : List At) (x : RdV) (opn : List (List UInt8)) (r : Rd) (cv : Value) (cs : List CondP) (fb tb wb rb : ByteArray) (no : Nat) (w : World) (h : RdIs W R k srcs x K opn r w) (hs : SrcIs W R s fb.data.toList cv cs w) (hwz : wb.size ≤ maxLen) (n1 : ¬ wb.data.toList = wIf) (n2 : ¬ wb.data.toList = wElse) (n3 : ¬ wb.data.toList = wEnd) (hcl : cs.length ≤ 1000000) (hf : forceL cs = true) (hw : wb.data.toList = []) (p : List CondP × Rd)
    (hC : ∀ w2, RdIs W R k srcs x K opn r w2 → SrcIs W R s fb.data.toList cv cs w2 → Calls Tryz.prog 154 #[.pointer (some ⟨s, 0, none⟩), lineV fb no tb wb rb] w2 (Deed W R s k srcs fb.data.toList x cv w2 K' opn p)) :
    Calls Tryz.prog 198 #[.pointer (some ⟨s, 0, none⟩), lineV fb no tb wb rb] w (Deed W R s k srcs fb.data.toList x cv w K' opn p) := by
  obtain ⟨W1, hW1, bx⟩ := boxed w fb no tb wb rb
  have h1 := h.below bx.bel
  have hs1 := hs.below bx.bel
  have p0 := bx.p0
  have p1 := bx.p1
  have p2 := bx.p2
  have p3 := bx.p3
  have p4 := bx.p4
  have d3 : W1.cell? ⟨s, 0, none⟩ = some (.pointer (some ⟨R, 0, none⟩)) := cell_at (j := 0) hs1.blk rfl
  have d4 : W1.cell? ⟨R, 2, none⟩ = some (.map (some k.d1)) := h1.cells 2 _ rfl
  have d5 : W1.cell? ⟨R, 3, none⟩ = some (.map (some k.d2)) := h1.cells 3 _ rfl
  have hm1 : ∀ n, (W1.drewN n).ownsMap Tryz.prog 9 heldR k.d1 3 anyD := fun n => keep_map h1.m1 rfl
  have hDr : ∀ n, Below W1.heap.size W1 (W1.drewN n) := fun n => below_drewN (Below.refl _ _) n
  have BX := Lib.hid bx
  have H1 := Lib.hid h1
  have HS1 := Lib.hid hs1
  have hL : ∀ n, (Instr.lookup 112 (.map (some k.d1)) (.string wb) true).run Tryz.prog (W1.drewN n) = .ok (.tuple #[.nilFunc, .bool false]) (W1.drewN n) := fun n =>
    look_deed (hm1 n) wb hwz .nilFunc false (any_other n1 n2 n3).1 (any_other n1 n2 n3).2
  have hL0 := hL 0
  have hF := fun w2 (hb : Below W1.heap.size W1 w2) => force_c W w2 R s fb.data.toList cv cs (HS1.out.below hb) hcl
  rw [hf] at hF
  have hD2 : ∀ w2 q, Below W1.heap.size W1 w2 → Below W1.heap.size W1 (w2.drewN q) := fun w2 q hb => below_drewN hb q
  have hLF : ∀ w3, Below W1.heap.size W1 w3 → ∀ n, (Instr.lookup 112 (.map (some k.d2)) (.string wb) true).run Tryz.prog (w3.drewN n) = .ok (.tuple #[mSay, .bool true]) (w3.drewN n) := fun w3 hb n =>
    look_deed (w := w3.drewN n) (keep_map (w' := w3.drewN n) (H1.out.below hb).m2 rfl) wb hwz mSay true (by rw [hw]; exact force_say.1) (by rw [hw]; exact force_say.2)
  unfold mSay at hLF
  clear h hs h1 hs1 bx hm1
  unfold lineV
  unfold lineV at hC
  go_enter Tryz.func198, Tryz.ntmps198
  go_wp2
  go_quiet (fail)
  go_wp2_with (go_at_call 165; refine (hF _ (hDr _)).mono ?_; rintro e w3 ⟨rfl, q, hq⟩; have hb3 : Below W1.heap.size W1 w3 := (by rw [hq]; exact hD2 _ q (hDr _)); clear hq; have a0 := keep_cell hb3 p0; have a1 := keep_cell hb3 p1; have a2 := keep_cell hb3 p2; have a3 := keep_cell hb3 p3; have a4 := keep_cell hb3 p4; have a5 := keep_cell hb3 d3; have a6 := keep_cell hb3 d5; have hL2 := hLF w3 hb3; have hL20 := hL2 0)
  go_quiet (fail)
  go_wp2_with (go_at_call 154; refine (hC _ (H1.out.below (hD2 _ _ hb3)) (HS1.out.below (hD2 _ _ hb3))).mono ?_; rintro e w4 ⟨rfl, x', cv', hst⟩)
  first | go_end0 | refine bodyPost_ret (results_none rfl _ _ _) rfl ?_
  exact ⟨rfl, x', cv', (hst.ahead (hD2 _ _ hb3)).ahead BX.out.bel⟩

set_option maxHeartbeats 8000000 in
theorem do_none (W : World) (R s K : Nat) (k : RdK) (srcs : List At) (x : RdV) (opn : List (List UInt8)) (r : Rd) (cv : Value) (cs : List CondP) (fb tb wb rb : ByteArray) (no : Nat) (w : World) (h : RdIs W R k srcs x K opn r w) (hs : SrcIs W R s fb.data.toList cv cs w) (hwz : wb.size ≤ maxLen) (n1 : ¬ wb.data.toList = wIf) (n2 : ¬ wb.data.toList = wElse) (n3 : ¬ wb.data.toList = wEnd) (hcl : cs.length ≤ 1000000) (hf : forceL cs = true) (n4 : ¬ wb.data.toList = wInclude) (n5 : ¬ wb.data.toList = wSet) (n6 : ¬ wb.data.toList = wUnset) (n7 : ¬ wb.data.toList = []) (hd : r.diags.length ≤ 1000000) :
    Calls Tryz.prog 198 #[.pointer (some ⟨s, 0, none⟩), lineV fb no tb wb rb] w (Deed W R s k srcs fb.data.toList x cv w K opn (cs, r.tell fb.data.toList no 3 tb.data.toList)) := by
  obtain ⟨W1, hW1, bx⟩ := boxed w fb no tb wb rb
  have h1 := h.below bx.bel
  have hs1 := hs.below bx.bel
  have p0 := bx.p0
  have p1 := bx.p1
  have p2 := bx.p2
  have p3 := bx.p3
  have p4 := bx.p4
  have d3 : W1.cell? ⟨s, 0, none⟩ = some (.pointer (some ⟨R, 0, none⟩)) := cell_at (j := 0) hs1.blk rfl
  have d4 : W1.cell? ⟨R, 2, none⟩ = some (.map (some k.d1)) := h1.cells 2 _ rfl
  have d5 : W1.cell? ⟨R, 3, none⟩ = some (.map (some k.d2)) := h1.cells 3 _ rfl
  have hm1 : ∀ n, (W1.drewN n).ownsMap Tryz.prog 9 heldR k.d1 3 anyD := fun n => keep_map h1.m1 rfl
  have hDr : ∀ n, Below W1.heap.size W1 (W1.drewN n) := fun n => below_drewN (Below.refl _ _) n
  have BX := Lib.hid bx
  have H1 := Lib.hid h1
  have HS1 := Lib.hid hs1
  have hL : ∀ n, (Instr.lookup 112 (.map (some k.d1)) (.string wb) true).run Tryz.prog (W1.drewN n) = .ok (.tuple #[.nilFunc, .bool false]) (W1.drewN n) := fun n =>
    look_deed (hm1 n) wb hwz .nilFunc false (any_other n1 n2 n3).1 (any_other n1 n2 n3).2
  have hL0 := hL 0
  have hF := fun w2 (hb : Below W1.heap.size W1 w2) => force_c W w2 R s fb.data.toList cv cs (HS1.out.below hb) hcl
  rw [hf] at hF
  have hD2 : ∀ w2 q, Below W1.heap.size W1 w2 → Below W1.heap.size W1 (w2.drewN q) := fun w2 q hb => below_drewN hb q
  have hLF : ∀ w3, Below W1.heap.size W1 w3 → ∀ n, (Instr.lookup 112 (.map (some k.d2)) (.string wb) true).run Tryz.prog (w3.drewN n) = .ok (.tuple #[.nilFunc, .bool false]) (w3.drewN n) := fun w3 hb n =>
    look_deed (w := w3.drewN n) (keep_map (w' := w3.drewN n) (H1.out.below hb).m2 rfl) wb hwz .nilFunc false (force_other n4 n5 n6 n7).1 (force_other n4 n5 n6 n7).2
  clear h hs h1 hs1 bx hm1
  unfold lineV
  go_enter Tryz.func198, Tryz.ntmps198
  go_wp2
  go_quiet (fail)
  go_wp2_with (go_at_call 165; refine (hF _ (hDr _)).mono ?_; rintro e w3 ⟨rfl, q, hq⟩; have hb3 : Below W1.heap.size W1 w3 := (by rw [hq]; exact hD2 _ q (hDr _)); clear hq; have a0 := keep_cell hb3 p0; have a1 := keep_cell hb3 p1; have a2 := keep_cell hb3 p2; have a3 := keep_cell hb3 p3; have a4 := keep_cell hb3 p4; have a5 := keep_cell hb3 d3; have a6 := keep_cell hb3 d5; have hL2 := hLF w3 hb3; have hL20 := hL2 0)
  go_quiet (fail)
  go_wp2
  generalize hw5 : w3.drewN _ = w5
  have hb5 : Below W1.heap.size W1 w5 := by rw [← hw5]; exact hD2 _ _ hb3
  clear hw5
  have b0 := keep_cell hb5 p0
  have b1 := keep_cell hb5 p1
  have b2 := keep_cell hb5 p2
  have b3 := keep_cell hb5 d3
  have z5 := hb5.size
  go_still_tail 8, (by kernel_rfl)
  change wpList _ _ _ _ _ w5.drew
  have hT := tell_c W R K k srcs x opn r fb tb no 3 w5.drew (H1.out.below (behind hb5 (Below.refl _ _).drew)) hd
  go_wp2_with (go_at_call 168; refine hT.mono ?_; rintro e w6 ⟨rfl, x', hst⟩)
  go_end0
  exact ⟨rfl, x', cv, (((hst.ahead (behind hb5 (Below.refl _ _).drew)).deed H1.out HS1.out).ahead BX.out.bel)⟩
end Go.Proofs.YtbhlnemahhndoaaGreatDoor
namespace Go.Proofs.YtbhlnemahhndoaaGreatDoor
open Go.RowKit Go.Maps
set_option maxRecDepth 100000

/-! ### a line -/
theorem get_in {l : List At} {n v : ByteArray} (h : getL l n = some v) : ∃ a ∈ l, a.2 = v := by
  unfold getL at h
  cases hf : l.find? (fun a => a.1.toList == n.toList) with
  | none => rw [hf] at h; cases h
  | some a => rw [hf] at h; simp only [Option.map_some, Option.some.injEq] at h; exact ⟨a, List.mem_of_find?_eq_some hf, h⟩
theorem go_size (l : List At) (M : Nat) (hv : ∀ a ∈ l, a.2.size ≤ M) : ∀ (n : Nat) (s out : List UInt8) (asked : List (List UInt8)), s.length ≤ n → (goL l s out asked).1.length ≤ out.length + (M + 100) * s.length
  | n, s, out, asked, hn => by
    cases h : nextL s with
    | none =>
      rw [go_none l _ _ _ h]
      have : s.length ≤ (M + 100) * s.length := Nat.le_mul_of_pos_left _ (by omega)
      simp only [List.length_append]; omega
    | some t =>
      obtain ⟨a, nm, b⟩ := t
      have hlen := next_parts h
      rw [go_some l _ _ _ h]
      have hval : (valueL l nm).length ≤ M + nm.length + 2 := by
        unfold valueL
        cases hg : getL l (bT nm) with
        | none => simp
        | some v =>
          obtain ⟨a, ha, e⟩ := get_in hg
          have := hv a ha
          rw [e] at this
          have e2 : v.data.toList.length = v.size := by simp
          simp only [e2]; omega
      match n, hn with
      | 0, hn => omega
      | n + 1, hn =>
        have ih := go_size l M hv n b (out ++ a ++ valueL l nm) (if nm ∈ asked then asked else asked ++ [nm]) (by omega)
        have e : (M + 100) * s.length = (M + 100) * a.length + (M + 100) * nm.length + (M + 100) * 2 + (M + 100) * b.length := by rw [hlen.2]; simp only [Nat.mul_add]
        have f1 : a.length ≤ (M + 100) * a.length := Nat.le_mul_of_pos_left _ (by omega)
        have f2 : nm.length ≤ (M + 100) * nm.length := Nat.le_mul_of_pos_left _ (by omega)
        simp only [List.length_append] at ih
        omega
theorem fill_size (r : Rd) (s : List UInt8) (hs : s.length ≤ 100000) (hv : ∀ a ∈ r.attrs, a.2.size ≤ 100000) : (r.fill s).1.length ≤ 140737488351232 := by
  have := go_size r.attrs 100000 hv _ s [] [] (Nat.le_refl _)
  have h2 : (100000 + 100) * s.length ≤ 100100 * 100000 := Nat.mul_le_mul (by omega) hs
  show (goL r.attrs s [] []).1.length ≤ _
  simp only [List.length_nil] at this
  omega

/-- a line's word and what is behind it; none, if it does not begin with '@' -/
def wordR (line : List UInt8) : List UInt8 × List UInt8 := if line.head? = some 64 then cutW line else ([], [])
theorem cutW_short (s : List UInt8) : (cutW s).1.length ≤ s.length ∧ (cutW s).2.length ≤ s.length := by
  refine ⟨(List.takeWhile_sublist _).length_le, ?_⟩
  unfold cutW trimL
  simp only [List.length_reverse]
  refine Nat.le_trans (List.dropWhile_sublist _).length_le ?_
  rw [List.length_reverse]
  exact Nat.le_trans (List.dropWhile_sublist _).length_le (List.dropWhile_sublist _).length_le
theorem cutW_other {s : List UInt8} (h : ¬ s.head? = some 64) (t : List UInt8) : ¬ (cutW s).1 = 64 :: t := by
  intro e
  unfold cutW at e
  cases s with
  | nil => cases e
  | cons c s =>
    simp only at e
    by_cases hb : blankB c = true
    · rw [List.takeWhile_cons_of_neg (by rw [hb]; decide)] at e; cases e
    · rw [List.takeWhile_cons_of_pos (by simpa using hb)] at e
      injection e with e1 e2
      exact h (by rw [e1]; rfl)
theorem lineL_eq (rec : List UInt8 → List UInt8 → Rd → Rd) (srcs : List At) (opn : List (List UInt8)) (file : List UInt8) (no : Nat) (line : List UInt8) (cs : List CondP) (r : Rd) : lineL rec srcs opn file no line cs r =
  if (cutW line).1 = wIf then beginsL r cs file no line (cutW line).2
  else if (cutW line).1 = wElse then elseL file no line cs r
  else if (cutW line).1 = wEnd then endL file no line cs r
  else if forceL cs = true then (cs, doesL rec srcs opn file no line r) else (cs, r) := rfl
theorem line_m (W : World) (R s K K' : Nat) (k : RdK) (srcs : List At) (x : RdV) (opn : List (List UInt8)) (r : Rd) (cv : Value) (cs : List CondP) (fb tb wb rb : ByteArray) (no : Nat) (w : World) (h : RdIs W R k srcs x K opn r w) (hs : SrcIs W R s fb.data.toList cv cs w)
    (hwb : wb.data.toList = (wordR tb.data.toList).1) (hrb : rb.data.toList = (wordR tb.data.toList).2) (ht : tb.size ≤ 100000) (hok : tb.data.toList.head? = some 64 → CutOk rb) (hv : ∀ a ∈ r.attrs, a.2.size ≤ 100000)
    (hKK : K + 100001 ≤ K') (hK : K' < maxLen) (ho : opn.length ≤ 1000000) (hl : r.lines.length ≤ 1000000) (hd : r.diags.length ≤ 1000000) (hc : cs.length ≤ 1000000)
    (rec : List UInt8 → List UInt8 → Rd → Rd) (hrec : RecOk W R k srcs K x opn rec rb r)
    (hlong : (lineL rec srcs opn fb.data.toList no tb.data.toList cs r).2.long = false) (hK2 : 100100 * (lineL rec srcs opn fb.data.toList no tb.data.toList cs r).2.count + 1000 ≤ K') :
    Calls Tryz.prog 198 #[.pointer (some ⟨s, 0, none⟩), lineV fb no tb wb rb] w (Deed W R s k srcs fb.data.toList x cv w K' opn (lineL rec srcs opn fb.data.toList no tb.data.toList cs r)) := by
  have hcw := cutW_short tb.data.toList
  have htz : tb.data.toList.length = tb.size := by simp
  have hwz0 : wb.data.toList.length = wb.size := by simp
  have hrz0 : rb.data.toList.length = rb.size := by simp
  have hwz : wb.size ≤ maxLen := by
    rw [← hwz0, hwb]; unfold wordR maxLen; split
    · omega
    · simp
  have hrz : rb.size ≤ 100000 := by
    rw [← hrz0, hrb]; unfold wordR; split
    · omega
    · simp
  have wide : ∀ {K1 : Nat} {p : List CondP × Rd} {w : World} {e : Ending} {w' : World}, K1 ≤ K' → Deed W R s k srcs fb.data.toList x cv w K1 opn p e w' → Deed W R s k srcs fb.data.toList x cv w K' opn p e w' := fun hk ⟨e, x', cv', hst⟩ => ⟨e, x', cv', hst.mono hk⟩
  have hLU := lineL_eq rec srcs opn fb.data.toList no tb.data.toList cs r
  rw [hLU]
  by_cases h64 : tb.data.toList.head? = some 64
  · have e1 : (cutW tb.data.toList).1 = wb.data.toList := by rw [hwb]; unfold wordR; rw [if_pos h64]
    have e2 : (cutW tb.data.toList).2 = rb.data.toList := by rw [hrb]; unfold wordR; rw [if_pos h64]
    simp only [e1, e2]
    by_cases n1 : wb.data.toList = wIf
    · rw [if_pos n1]
      exact do_if W R s K K' k srcs x opn r cv cs fb tb wb rb no w h hs hwz n1 _ fun w2 h2 hs2 => (begin_m W R s K k srcs x opn r cv cs fb tb wb rb no w2 h2 hs2 hrz hv (by omega) hd hc).mono fun _ _ => wide (by omega)
    · rw [if_neg n1]
      by_cases n2 : wb.data.toList = wElse
      · rw [if_pos n2]
        exact do_else W R s K K' k srcs x opn r cv cs fb tb wb rb no w h hs hwz n2 _ fun w2 h2 hs2 => (else_m W R s K k srcs x opn r cv cs fb tb wb rb no w2 h2 hs2 hc hd).mono fun _ _ => wide (by omega)
      · rw [if_neg n2]
        by_cases n3 : wb.data.toList = wEnd
        · rw [if_pos n3]
          exact do_end W R s K K' k srcs x opn r cv cs fb tb wb rb no w h hs hwz n3 _ fun w2 h2 hs2 => (end_m W R s K k srcs x opn r cv cs fb tb wb rb no w2 h2 hs2 hc hd).mono fun _ _ => wide (by omega)
        · rw [if_neg n3]
          cases hf : forceL cs with
          | false =>
            rw [if_neg (by decide)]
            exact (do_off W R s K k srcs x opn r cv cs fb tb wb rb no w h hs hwz n1 n2 n3 hc hf).mono fun _ _ => wide (by omega)
          | true =>
            rw [if_pos rfl]
            unfold doesL
            rw [if_neg (fun e => e h64)]
            simp only [e1, e2]
            by_cases n4 : wb.data.toList = wInclude
            · rw [if_pos n4]
              have hI : (lineL rec srcs opn fb.data.toList no tb.data.toList cs r).2 = inclL rec srcs opn fb.data.toList no tb.data.toList rb.data.toList r := by
                unfold lineL doesL
                simp only [e1, e2]
                rw [if_neg n1, if_neg n2, if_neg n3, if_pos hf, if_neg (fun e => e h64), if_pos n4]; rfl
              rw [hI] at hlong hK2
              exact do_include W R s K K' k srcs x opn r cv cs fb tb wb rb no w h hs hwz n1 n2 n3 hc hf n4 _ fun w2 h2 hs2 => include_m W R s K K' k srcs x opn r cv cs fb tb wb rb no w2 h2 hs2 ho hd (by omega) rec hrec hlong hK2
            · rw [if_neg n4]
              by_cases n5 : wb.data.toList = wSet
              · rw [if_pos n5]
                exact do_set W R s K K' k srcs x opn r cv cs fb tb wb rb no w h hs hwz n1 n2 n3 hc hf n5 _ fun w2 h2 hs2 => (set_m W R s K k srcs x opn r cv cs fb tb wb rb no w2 h2 hs2 hrz (hok h64) hv (by omega) hd (fill_size r _ (by have := (cutW_short rb.data.toList).2; omega) hv)).mono fun _ _ => wide (by omega)
              · rw [if_neg n5]
                by_cases n6 : wb.data.toList = wUnset
                · rw [if_pos n6]
                  exact do_unset W R s K K' k srcs x opn r cv cs fb tb wb rb no w h hs hwz n1 n2 n3 hc hf n6 _ fun w2 h2 hs2 => (unset_m W R s K k srcs x opn r cv cs fb tb wb rb no w2 h2 hs2 hrz (by omega) hd).mono fun _ _ => wide (by omega)
                · rw [if_neg n6]
                  have n7 : ¬ wb.data.toList = [] := by
                    rw [← e1]
                    unfold cutW
                    cases ht2 : tb.data.toList with
                    | nil => rw [ht2] at h64; cases h64
                    | cons a t =>
                      rw [ht2] at h64
                      simp only [List.head?_cons, Option.some.injEq] at h64
                      subst h64
                      simp [blankB]
                  exact (do_none W R s K k srcs x opn r cv cs fb tb wb rb no w h hs hwz n1 n2 n3 hc hf n4 n5 n6 n7 hd).mono fun _ _ => wide (by omega)
  · have e1 : wb.data.toList = [] := by rw [hwb]; unfold wordR; rw [if_neg h64]
    have q1 : ¬ (cutW tb.data.toList).1 = wIf := cutW_other h64 _
    have q2 : ¬ (cutW tb.data.toList).1 = wElse := cutW_other h64 _
    have q3 : ¬ (cutW tb.data.toList).1 = wEnd := cutW_other h64 _
    simp only [q1, q2, q3, if_false]
    have n1 : ¬ wb.data.toList = wIf := by rw [e1]; decide
    have n2 : ¬ wb.data.toList = wElse := by rw [e1]; decide
    have n3 : ¬ wb.data.toList = wEnd := by rw [e1]; decide
    cases hf : forceL cs with
    | false =>
      rw [if_neg (by decide)]
      exact (do_off W R s K k srcs x opn r cv cs fb tb wb rb no w h hs hwz n1 n2 n3 hc hf).mono fun _ _ => wide (by omega)
    | true =>
      rw [if_pos rfl]
      unfold doesL
      rw [if_pos h64]
      exact do_say W R s K K' k srcs x opn r cv cs fb tb wb rb no w h hs hwz n1 n2 n3 hc hf e1 _ fun w2 h2 hs2 => (say_m W R s K k srcs x opn r cv cs fb tb wb rb no w2 h2 hs2 ht hv (by omega) hl).mono fun _ _ ⟨e, x', hst⟩ => ⟨e, x', cv, (hst.deed h2 hs2).mono (by omega)⟩
end Go.Proofs.YtbhlnemahhndoaaGreatDoor
