/- Merged: SayC. -/
import Derived.Test.YtbhlnemahhndoaaGreatDoorU20
import Derived.Test.YtbhlnemahhndoaaGreatDoorShelf
import Derived.Lib.Strings
namespace Go.Proofs.YtbhlnemahhndoaaGreatDoor
open Go.RowKit Go.Maps
set_option maxRecDepth 100000

/-! ### a line of the chapter -/
theorem bare_yes (t : List UInt8) (h : Lib.hasPrefix t [92, 64] = true) : bareL t = t.drop 1 := by
  unfold Lib.hasPrefix at h
  match t, h with
  | [], h => cases h
  | [a], h => simp [List.isPrefixOf] at h
  | a :: b :: t, h =>
    simp only [List.isPrefixOf, Bool.and_eq_true, beq_iff_eq, and_true] at h
    obtain ⟨h1, h2⟩ := h
    subst h1; subst h2; rfl
theorem bare_no (t : List UInt8) (h : Lib.hasPrefix t [92, 64] = false) : bareL t = t := by
  unfold bareL
  split
  · exfalso
    revert h
    simp [Lib.hasPrefix, List.isPrefixOf]
  · rfl
/-- a line as it is handed on -/
def lineV (fb : ByteArray) (no : Nat) (tb wb rb : ByteArray) : Value := .agg #[.string fb, .int .i64 (no : Int), .string tb, .string wb, .string rb]
section
variable {W w w1 : World} {R s K : Nat} {k : RdK} {srcs : List At} {x : RdV} {opn : List (List UInt8)} {r : Rd} {file : List UInt8} {cv : Value} {cs : List CondP}
theorem src_not_mine (h : RdIs W R k srcs x K opn r w) (hs : SrcIs W R s file cv cs w) : ¬ Mine R k x s ∧ s ≠ k.d1 ∧ s ≠ k.d2 := by
  obtain ⟨D, n, hm, _⟩ := h.map
  refine ⟨?_, fun e => map_cells h.m1 hs.blk e.symm, fun e => map_cells h.m2 hs.blk e.symm⟩
  rintro (e | e | e | e | e | e)
  · subst e; exact absurd (cells_kind hs.blk h.blk) (by decide)
  · exact map_cells hm hs.blk e.symm
  · exact row_cells h.rop hs.blk (by decide) e
  · exact row_cells h.rln hs.blk (by decide) e
  · exact row_cells h.rdg hs.blk (by decide) e
  · exact row_cells h.rfl' hs.blk (by decide) e
theorem cv_not_mine (h : RdIs W R k srcs x K opn r w) (hs : SrcIs W R s file cv cs w) : ∀ g, cv.ownBlock = some g → ¬ Mine R k x g ∧ g ≠ s ∧ g ≠ k.d1 ∧ g ≠ k.d2 := by
  intro g hg
  obtain ⟨D, n, hm, _⟩ := h.map
  refine ⟨?_, fun e => row_cells hs.row hs.blk (by decide) (e ▸ hg), fun e => row_map hs.row h.m1 (e ▸ hg), fun e => row_map hs.row h.m2 (e ▸ hg)⟩
  rintro (e | e | e | e | e | e)
  · exact row_cells hs.row h.blk (by decide) (e ▸ hg)
  · exact row_map hs.row hm (e ▸ hg)
  · exact row_row hs.row h.rop (by decide) g hg e
  · exact row_row hs.row h.rln (by decide) g hg e
  · exact row_row hs.row h.rdg (by decide) g hg e
  · exact row_row hs.row h.rfl' (by decide) g hg e
/-- a step of the Read leaves a source as it was -/
theorem SrcIs.step (hs : SrcIs W R s file cv cs w) (h : RdIs W R k srcs x K opn r w) {S : Nat → Prop} (hk : KeptBut S w w1) (hS : ∀ b, S b → Mine R k x b) : SrcIs W R s file cv cs w1 :=
  ⟨(hk.block s (heap_lt hs.blk) (fun e => (src_not_mine h hs).1 (hS s e))).trans hs.blk, keep_row hs.row (fun g hg => hk.block g (hs.row.lt g hg).2 (fun e => (cv_not_mine h hs g hg).1 (hS g e))), hs.good, hs.hB⟩
theorem SrcIs.below (hs : SrcIs W R s file cv cs w) (hb : Below w.heap.size w w1) : SrcIs W R s file cv cs w1 :=
  ⟨(hb.block s (heap_lt hs.blk)).trans hs.blk, keep_row hs.row (fun g hg => hb.block g (hs.row.lt g hg).2), hs.good, hs.hB⟩
end
/-- what a line of the chapter makes -/
def sayR (r : Rd) (file : List UInt8) (no : Nat) (t : List UInt8) : Rd := { (r.fill t).2 with lines := (r.fill t).2.lines ++ [(file, no, (r.fill t).1)] }

set_option maxHeartbeats 8000000 in
theorem say_m (W : World) (R s K : Nat) (k : RdK) (srcs : List At) (x : RdV) (opn : List (List UInt8)) (r : Rd) (cv : Value) (cs : List CondP) (fb tb wb rb : ByteArray) (no : Nat) (w : World) (h : RdIs W R k srcs x K opn r w) (hs : SrcIs W R s fb.data.toList cv cs w)
    (ht : tb.size ≤ 100000) (hv : ∀ a ∈ r.attrs, a.2.size ≤ 100000) (hK : K + 100000 < maxLen) (hl : r.lines.length ≤ 1000000) :
    Calls Tryz.prog 154 #[.pointer (some ⟨s, 0, none⟩), lineV fb no tb wb rb] w (Told W R k srcs x (K + 100000) opn (sayR r fb.data.toList no (bareL tb.data.toList)) w) := by
  obtain ⟨i0, hi, hz0, hz1, hz2⟩ := info_parts lnInfo
  obtain ⟨p, c, hxv⟩ := row_slice h.rln
  have hR := (h.lt R (.inl rfl)).2
  have hsl := heap_lt hs.blk
  have hsR : s ≠ R := fun e => (src_not_mine h hs).1 (.inl e)
  have hsn := (src_not_mine h hs).1
  have HP := fun w => (Tryz.strings_HasPrefix tb ⟨#[92, 64]⟩ w).mono fun e w' h => (⟨h.1, h.2.symm⟩ : e = _ ∧ w = w')
  obtain ⟨ub, hub1, hub2⟩ : ∃ ub : ByteArray, ub.data.toList = bareL tb.data.toList ∧ (if Lib.hasPrefix tb.data.toList [92, 64] = true then tb.extract 1 tb.size = ub else ub = tb) := by
    by_cases e : Lib.hasPrefix tb.data.toList [92, 64] = true
    · exact ⟨tb.extract 1 tb.size, by rw [bare_yes _ e, extract_list], by rw [if_pos e]⟩
    · exact ⟨tb, by rw [bare_no _ (by simpa using e)], by rw [if_neg e]⟩
  obtain ⟨W1, hW1⟩ : ∃ W1, w.alloc (.cells #[.string fb, .int .i64 (no : Int), .string tb, .string wb, .string rb] 234) = W1 := ⟨_, rfl⟩
  have b1 : Below w.heap.size w W1 := by rw [← hW1]; exact laidNew _ _
  have z1 : W1.heap.size = w.heap.size + 1 := by rw [← hW1]; simp
  have p0 : W1.cell? ⟨w.heap.size, 0, none⟩ = some (.string fb) := by rw [← hW1, World.cell?_alloc_new]; rfl
  have p1 : W1.cell? ⟨w.heap.size, 1, none⟩ = some (.int .i64 (no : Int)) := by rw [← hW1, World.cell?_alloc_new]; rfl
  have p2 : W1.cell? ⟨w.heap.size, 2, none⟩ = some (.string tb) := by rw [← hW1, World.cell?_alloc_new]; rfl
  have h1 := h.below b1
  have s0 : W1.cell? ⟨s, 0, none⟩ = some (.pointer (some ⟨R, 0, none⟩)) := cell_at (hs.below b1).blk rfl
  have c6 : W1.cell? ⟨R, 6, none⟩ = some (.slice p r.lines.length c) := h1.cells 6 _ (by rw [← hxv]; rfl)
  have hR1 : R < W1.heap.size := by omega
  have hq1 : w.heap.size < W1.heap.size := by omega
  have hs1 : s < W1.heap.size := by omega
  have hRw : R ≠ w.heap.size := by omega
  have hsw : s ≠ w.heap.size := by omega
  have hRs : R ≠ s := fun e => hsR e.symm
  have HLV : Hid (∀ b, ¬ Mine R k x b → some b ≠ (Value.slice p r.lines.length c).ownBlock) := Lib.hid (fun b hb e => hb (.inr (.inr (.inr (.inl (by rw [hxv]; exact e.symm))))))
  have HLR : Hid ((Value.slice p r.lines.length c).ownBlock ≠ some R) := Lib.hid (by rw [← hxv]; exact h.lv_R)
  have hnm : ∀ b, b < w.heap.size → True := fun _ _ => trivial
  have hbl : ¬ Mine R k x w.heap.size := fun e => by have := (h.lt _ e).2; omega
  have hfl : (r.fill (bareL tb.data.toList)).2.lines = r.lines := (ask_fold _ r).2.1
  have hut : ub.size ≤ 100000 := by
    have e1 : ub.data.toList.length = ub.size := by simp
    have e2 : tb.data.toList.length = tb.size := by simp
    rw [hub1] at e1
    have : (bareL tb.data.toList).length ≤ tb.data.toList.length := by
      by_cases e : Lib.hasPrefix tb.data.toList [92, 64] = true
      · rw [bare_yes _ e, List.length_drop]; omega
      · rw [bare_no _ (by simpa using e)]; exact Nat.le_refl _
    omega
  have hFI := fill_m W R K k srcs x opn r ub W1.drew (h1.below (Below.refl _ _).drew) hut hv (Nat.lt_of_le_of_lt (Nat.add_le_add_left hut K) hK)
  rw [hub1] at hFI
  generalize hfr : r.fill (bareL tb.data.toList) = fr at hFI hfl
  have HSAY : Hid (sayR r fb.data.toList no (bareL tb.data.toList) = { fr.2 with lines := fr.2.lines ++ [(fb.data.toList, no, fr.1)] }) := Lib.hid (by unfold sayR; rw [hfr])
  rw [HSAY.out]
  clear hfr HSAY
  obtain ⟨f1, f2⟩ := fr
  simp only at hFI hfl ⊢
  obtain ⟨vb, hvb⟩ : ∃ vb, bT f1 = vb := ⟨_, rfl⟩
  have HVB : Hid (f1 = vb.data.toList) := Lib.hid (by rw [← hvb]; rfl)
  rw [hvb] at hFI
  clear hvb
  have HH := Lib.hid h1
  have HX := Lib.hid hxv
  have HS := Lib.hid hs
  have Z1 := Lib.hid z1
  have B1 := Lib.hid b1
  have HFL := Lib.hid hfl
  have HNS := Lib.hid hsn
  have HBL := Lib.hid hbl
  have HU := Lib.hid hub2
  clear h h1 hs hxv z1 b1 hub1 hub2 hnm hfl hsn hbl
  unfold lineV
  cases hpf : Lib.hasPrefix tb.data.toList [92, 64] with
  | true =>
    have hu : tb.extract 1 tb.size = ub := by have := HU.out; rw [hpf] at this; simpa using this
    have hpf' : Lib.hasPrefix tb.data.toList (⟨#[92, 64]⟩ : ByteArray).data.toList = true := hpf
    rw [hpf'] at HP
    have h1z : (1 : Int) ≤ (tb.size : Int) := by
      have : tb.data.toList.length = tb.size := by simp
      cases e : tb.data.toList with
      | nil => rw [e] at hpf; cases hpf
      | cons a t => rw [e] at this; simp at this; omega
    clear hpf hpf'
    go_enter Tryz.func154, Tryz.ntmps154
    go_wp2_with (go_at_call 176; refine (HP _).mono ?_; rintro e w2 ⟨rfl, rfl⟩)
    refine wp_region_noPanic ?_
    refine wp_region_held_drew (S := (fun w' => w'.cell? ⟨s, 0, none⟩ = some (.pointer (some ⟨R, 0, none⟩)) ∧ w'.cell? ⟨w.heap.size, 0, none⟩ = some (.string fb) ∧ w'.cell? ⟨w.heap.size, 1, none⟩ = some (.int .i64 (no : Int)))) (by kernel_rfl) ?hsa (fun hHeld => ?hra)
    case hsa => ((try dsimp only); try (first | go_keep | (refine ⟨?_, ?_, ?_⟩ <;> first | assumption | (simp; assumption))))
    refine wpAnyH_take (i := 0) (oi := ?o1) (v := ?v1) ?g1 (by kernel_rfl) (by kernel_rfl) (by kernel_rfl) ?q1 (Or.inl ⟨?w1, ?y1⟩) hHeld ?r1
    case g1 => (simp only [List.getElem?_toArray, List.getElem?_cons_zero]; try rfl)
    case q1 => exact fun _ _ _ h => h
    case w1 => rfl
    case y1 => (intro w hSw; (try dsimp only at hSw); go_simp; try with_reducible rfl)
    (try simp only [Act.put, List.setIfInBounds_toArray, List.set_cons_zero, List.set_cons_succ])
    refine wpAnyH_take (i := 1) (oi := ?o2) (v := ?v2) ?g2 (by kernel_rfl) (by kernel_rfl) (by kernel_rfl) ?q2 (Or.inl ⟨?w2, ?y2⟩) hHeld ?r2
    case g2 => (simp only [List.getElem?_toArray, List.getElem?_cons_succ, List.getElem?_cons_zero]; try rfl)
    case q2 => exact fun _ _ _ h => h
    case w2 => rfl
    case y2 => (intro w hSw; (try dsimp only at hSw); go_simp; try with_reducible rfl)
    (try simp only [Act.put, List.setIfInBounds_toArray, List.set_cons_zero, List.set_cons_succ])
    refine wpAnyH_take (i := 2) (oi := ?o3) (v := ?v3) ?g3 (by kernel_rfl) (by kernel_rfl) (by kernel_rfl) ?q3 (Or.inl ⟨?w3, ?y3⟩) hHeld ?r3
    case g3 => (simp only [List.getElem?_toArray, List.getElem?_cons_succ, List.getElem?_cons_zero]; try rfl)
    case q3 => exact fun _ _ _ h => h
    case w3 => rfl
    case y3 => (intro w hSw; (try dsimp only at hSw); go_simp; try with_reducible rfl)
    (try simp only [Act.put, List.setIfInBounds_toArray, List.set_cons_zero, List.set_cons_succ])
    refine wpAnyH_take (i := 3) (oi := ?o4) (v := ?v4) ?g4 (by kernel_rfl) (by kernel_rfl) (by kernel_rfl) ?q4 (Or.inl ⟨?w4, ?y4⟩) hHeld ?r4
    case g4 => (simp only [List.getElem?_toArray, List.getElem?_cons_succ, List.getElem?_cons_zero]; try rfl)
    case q4 => exact fun _ _ _ h => h
    case w4 => rfl
    case y4 => (intro w hSw; (try dsimp only at hSw); go_simp; try with_reducible rfl)
    (try simp only [Act.put, List.setIfInBounds_toArray, List.set_cons_zero, List.set_cons_succ])
    refine wpAnyH_take (i := 4) (oi := ?o5) (v := ?v5) ?g5 (by kernel_rfl) (by kernel_rfl) (by kernel_rfl) ?q5 (Or.inl ⟨?w5, ?y5⟩) hHeld ?r5
    case g5 => (simp only [List.getElem?_toArray, List.getElem?_cons_succ, List.getElem?_cons_zero]; try rfl)
    case q5 => exact fun _ _ _ h => h
    case w5 => rfl
    case y5 => (intro w hSw; (try dsimp only at hSw); go_simp; try with_reducible rfl)
    (try simp only [Act.put, List.setIfInBounds_toArray, List.set_cons_zero, List.set_cons_succ])
    refine wpAnyH_take (i := 5) (oi := ?o6) (v := ?v6) ?g6 (by kernel_rfl) (by kernel_rfl) (by kernel_rfl) ?q6 (Or.inl ⟨?w6, ?y6⟩) hHeld ?r6
    case g6 => (simp only [List.getElem?_toArray, List.getElem?_cons_succ, List.getElem?_cons_zero]; try rfl)
    case q6 => exact fun _ _ _ h => h
    case w6 => rfl
    case y6 => (intro w hSw; (try dsimp only at hSw); go_simp; try with_reducible rfl)
    (try simp only [Act.put, List.setIfInBounds_toArray, List.set_cons_zero, List.set_cons_succ])
    refine wpAnyH_take (i := 6) (oi := ?o7) (v := ?v7) ?g7 (by kernel_rfl) (by kernel_rfl) (by kernel_rfl) ?q7 (Or.inl ⟨?w7, ?y7⟩) hHeld ?r7
    case g7 => (simp only [List.getElem?_toArray, List.getElem?_cons_succ, List.getElem?_cons_zero]; try rfl)
    case q7 => exact fun _ _ _ h => h
    case w7 => rfl
    case y7 => (intro w hSw; (try dsimp only at hSw); go_simp; try with_reducible rfl)
    (try simp only [Act.put, List.setIfInBounds_toArray, List.set_cons_zero, List.set_cons_succ])
    refine wpAnyH_take (i := 7) (oi := ?o8) (v := ?v8) ?g8 (by kernel_rfl) (by kernel_rfl) (by kernel_rfl) ?q8 (Or.inl ⟨?w8, ?y8⟩) hHeld ?r8
    case g8 => (simp only [List.getElem?_toArray, List.getElem?_cons_succ, List.getElem?_cons_zero]; try rfl)
    case q8 => exact fun _ _ _ h => h
    case w8 => rfl
    case y8 => (intro w hSw; (try dsimp only at hSw); go_simp; try with_reducible rfl)
    (try simp only [Act.put, List.setIfInBounds_toArray, List.set_cons_zero, List.set_cons_succ])
    refine wpAnyH_take (i := 8) (oi := ?o9) (v := ?v9) ?g9 (by kernel_rfl) (by kernel_rfl) (by kernel_rfl) ?q9 (Or.inl ⟨?w9, ?y9⟩) hHeld ?r9
    case g9 => (simp only [List.getElem?_toArray, List.getElem?_cons_succ, List.getElem?_cons_zero]; try rfl)
    case q9 => exact fun _ _ _ h => h
    case w9 => rfl
    case y9 => (intro w hSw; (try dsimp only at hSw); go_simp; try with_reducible rfl)
    (try simp only [Act.put, List.setIfInBounds_toArray, List.set_cons_zero, List.set_cons_succ])
    refine wpAnyH_take (i := 9) (oi := ?o10) (v := ?v10) ?g10 (by kernel_rfl) (by kernel_rfl) (by kernel_rfl) ?q10 (Or.inl ⟨?w10, ?y10⟩) hHeld ?r10
    case g10 => (simp only [List.getElem?_toArray, List.getElem?_cons_succ, List.getElem?_cons_zero]; try rfl)
    case q10 => exact fun _ _ _ h => h
    case w10 => rfl
    case y10 => (intro w hSw; (try dsimp only at hSw); go_simp; try with_reducible rfl)
    (try simp only [Act.put, List.setIfInBounds_toArray, List.set_cons_zero, List.set_cons_succ])
    refine wpAnyH_take (i := 11) (oi := ?o11) (v := ?v11) ?g11 (by kernel_rfl) (by kernel_rfl) (by kernel_rfl) ?q11 (Or.inl ⟨?w11, ?y11⟩) hHeld ?r11
    case g11 => (simp only [List.getElem?_toArray, List.getElem?_cons_succ, List.getElem?_cons_zero]; try rfl)
    case q11 => exact fun _ _ _ h => h
    case w11 => rfl
    case y11 => (intro w hSw; (try dsimp only at hSw); go_simp; try with_reducible rfl)
    (try simp only [Act.put, List.setIfInBounds_toArray, List.set_cons_zero, List.set_cons_succ])
    refine wpAnyH_take (i := 12) (oi := ?o12) (v := ?v12) ?g12 (by kernel_rfl) (by kernel_rfl) (by kernel_rfl) ?q12 (Or.inl ⟨?w12, ?y12⟩) hHeld ?r12
    case g12 => (simp only [List.getElem?_toArray, List.getElem?_cons_succ, List.getElem?_cons_zero]; try rfl)
    case q12 => exact fun _ _ _ h => h
    case w12 => rfl
    case y12 => (intro w hSw; (try dsimp only at hSw); go_simp; try with_reducible rfl)
    (try simp only [Act.put, List.setIfInBounds_toArray, List.set_cons_zero, List.set_cons_succ])
    refine wpAnyH_take (i := 13) (oi := ?o13) (v := ?v13) ?g13 (by kernel_rfl) (by kernel_rfl) (by kernel_rfl) ?q13 (Or.inl ⟨?w13, ?y13⟩) hHeld ?r13
    case g13 => (simp only [List.getElem?_toArray, List.getElem?_cons_succ, List.getElem?_cons_zero]; try rfl)
    case q13 => exact fun _ _ _ h => h
    case w13 => rfl
    case y13 => (intro w hSw; (try dsimp only at hSw); go_simp; try with_reducible rfl)
    (try simp only [Act.put, List.setIfInBounds_toArray, List.set_cons_zero, List.set_cons_succ])
    refine wpAnyH_take (i := 14) (oi := ?o14) (v := ?v14) ?g14 (by kernel_rfl) (by kernel_rfl) (by kernel_rfl) ?q14 (Or.inl ⟨?w14, ?y14⟩) hHeld ?r14
    case g14 => (simp only [List.getElem?_toArray, List.getElem?_cons_succ, List.getElem?_cons_zero]; try rfl)
    case q14 => exact fun _ _ _ h => h
    case w14 => rfl
    case y14 => (intro w hSw; (try dsimp only at hSw); go_simp; try with_reducible rfl)
    (try simp only [Act.put, List.setIfInBounds_toArray, List.set_cons_zero, List.set_cons_succ])
    refine wpAnyH_take (i := 15) (oi := ?o15) (v := ?v15) ?g15 (by kernel_rfl) (by kernel_rfl) (by kernel_rfl) ?q15 (Or.inl ⟨?w15, ?y15⟩) hHeld ?r15
    case g15 => (simp only [List.getElem?_toArray, List.getElem?_cons_succ, List.getElem?_cons_zero]; try rfl)
    case q15 => exact fun _ _ _ h => h
    case w15 => rfl
    case y15 => (intro w hSw; (try dsimp only at hSw); go_simp; try with_reducible rfl)
    (try simp only [Act.put, List.setIfInBounds_toArray, List.set_cons_zero, List.set_cons_succ])
    refine wpAnyH_take (i := 16) (oi := ?o16) (v := ?v16) ?g16 (by kernel_rfl) (by kernel_rfl) (by kernel_rfl) ?q16 (Or.inl ⟨?w16, ?y16⟩) hHeld ?r16
    case g16 => (simp only [List.getElem?_toArray, List.getElem?_cons_succ, List.getElem?_cons_zero]; try rfl)
    case q16 => exact fun _ _ _ h => h
    case w16 => rfl
    case y16 => (intro w hSw; (try dsimp only at hSw); go_simp; try with_reducible rfl)
    (try simp only [Act.put, List.setIfInBounds_toArray, List.set_cons_zero, List.set_cons_succ])
    refine wpAnyH_take (i := 17) (oi := ?o17) (v := ?v17) ?g17 (by kernel_rfl) (by kernel_rfl) (by kernel_rfl) ?q17 (Or.inl ⟨?w17, ?y17⟩) hHeld ?r17
    case g17 => (simp only [List.getElem?_toArray, List.getElem?_cons_succ, List.getElem?_cons_zero]; try rfl)
    case q17 => exact fun _ _ _ h => h
    case w17 => rfl
    case y17 => (intro w hSw; (try dsimp only at hSw); go_simp; try with_reducible rfl)
    (try simp only [Act.put, List.setIfInBounds_toArray, List.set_cons_zero, List.set_cons_succ])
    refine wpAnyH_take (i := 18) (oi := ?o18) (v := ?v18) ?g18 (by kernel_rfl) (by kernel_rfl) (by kernel_rfl) ?q18 (Or.inl ⟨?w18, ?y18⟩) hHeld ?r18
    case g18 => (simp only [List.getElem?_toArray, List.getElem?_cons_succ, List.getElem?_cons_zero]; try rfl)
    case q18 => exact fun _ _ _ h => h
    case w18 => rfl
    case y18 => (intro w hSw; (try dsimp only at hSw); go_simp; try with_reducible rfl)
    (try simp only [Act.put, List.setIfInBounds_toArray, List.set_cons_zero, List.set_cons_succ])
    refine wpAnyH_take (i := 19) (oi := ?o19) (v := ?v19) ?g19 (by kernel_rfl) (by kernel_rfl) (by kernel_rfl) ?q19 (Or.inl ⟨?w19, ?y19⟩) hHeld ?r19
    case g19 => (simp only [List.getElem?_toArray, List.getElem?_cons_succ, List.getElem?_cons_zero]; try rfl)
    case q19 => exact fun _ _ _ h => h
    case w19 => rfl
    case y19 => (intro w hSw; (try dsimp only at hSw); go_simp; try with_reducible rfl)
    (try simp only [Act.put, List.setIfInBounds_toArray, List.set_cons_zero, List.set_cons_succ])
    refine wpAnyH_take (i := 20) (oi := ?o20) (v := ?v20) ?g20 (by kernel_rfl) (by kernel_rfl) (by kernel_rfl) ?q20 (Or.inl ⟨?w20, ?y20⟩) hHeld ?r20
    case g20 => (simp only [List.getElem?_toArray, List.getElem?_cons_succ, List.getElem?_cons_zero]; try rfl)
    case q20 => exact fun _ _ _ h => h
    case w20 => rfl
    case y20 => (intro w hSw; (try dsimp only at hSw); go_simp; try with_reducible rfl)
    (try simp only [Act.put, List.setIfInBounds_toArray, List.set_cons_zero, List.set_cons_succ])
    refine wpAnyH_take (i := 21) (oi := ?o21) (v := ?v21) ?g21 (by kernel_rfl) (by kernel_rfl) (by kernel_rfl) ?q21 (Or.inl ⟨?w21, ?y21⟩) hHeld ?r21
    case g21 => (simp only [List.getElem?_toArray, List.getElem?_cons_succ, List.getElem?_cons_zero]; try rfl)
    case q21 => exact fun _ _ _ h => h
    case w21 => rfl
    case y21 => (intro w hSw; (try dsimp only at hSw); go_simp; try with_reducible rfl)
    (try simp only [Act.put, List.setIfInBounds_toArray, List.set_cons_zero, List.set_cons_succ])
    refine wpAnyH_ready (rs := [10, 22]) (by kernel_rfl) (by simp) ?_
    refine AllReadyH.cons (o := ?o22) ?g22 (fun K hK => ?s22) ?m22
    case g22 => (simp only [List.getElem?_toArray, List.getElem?_cons_succ, List.getElem?_cons_zero]; try rfl)
    case s22 =>
      go_simp
      refine hK.out _ _ ?t22 (fun hHeld => ?u22)
      case t22 => ((try dsimp only); try (first | go_keep | (refine ⟨?_, ?_, ?_⟩ <;> first | assumption | (simp; assumption))))
      case u22 =>
        clear hK K
        (try simp only [Act.put, List.setIfInBounds_toArray, List.set_cons_zero, List.set_cons_succ])
        refine wpAnyH_ready (rs := [22]) (by kernel_rfl) (by simp) ?_
        refine AllReadyH.cons (o := ?o23) ?g23 (fun K hK => ?s23) ?m23
        case g23 => (simp only [List.getElem?_toArray, List.getElem?_cons_succ, List.getElem?_cons_zero]; try rfl)
        case s23 =>
          go_simp
          (go_at_call 172; refine hFI.mono ?_; rintro e w3 ⟨rfl, hst⟩; have q0 := (hst.kept.cell (p := ⟨s, 0, none⟩) hs1 HNS.out).trans s0; have q1 := (hst.kept.cell (p := ⟨w.heap.size, 0, none⟩) hq1 HBL.out).trans p0; have q2 := (hst.kept.cell (p := ⟨w.heap.size, 1, none⟩) hq1 HBL.out).trans p1; have q3 : W1.heap.size ≤ w3.heap.size := hst.kept.size; have q4 : w3.cell? ⟨R, 6, none⟩ = some (.slice p r.lines.length c) := hst.rd.cells 6 _ (by rw [← HX.out]; rfl); have q5 : R < w3.heap.size := by omega)
          try go_wp2_with fail
          refine hK.out _ _ ?t23 (fun hHeld => ?u23)
          case t23 => ((try dsimp only); try (first | go_keep | (refine ⟨?_, ?_, ?_⟩ <;> first | assumption | (simp; assumption))))
          case u23 =>
            clear hK K
            (try simp only [Act.put, List.setIfInBounds_toArray, List.set_cons_zero, List.set_cons_succ])
            refine wpAnyH_take (i := 23) (oi := ?o24) (v := ?v24) ?g24 (by kernel_rfl) (by kernel_rfl) (by kernel_rfl) ?q24 (Or.inl ⟨?w24, ?y24⟩) hHeld ?r24
            case g24 => (simp only [List.getElem?_toArray, List.getElem?_cons_succ, List.getElem?_cons_zero]; try rfl)
            case q24 => exact fun _ _ _ h => h
            case w24 => rfl
            case y24 => (intro w hSw; (try dsimp only at hSw); go_simp; try with_reducible rfl)
            (try simp only [Act.put, List.setIfInBounds_toArray, List.set_cons_zero, List.set_cons_succ])
            refine wpAnyH_ready (rs := [24]) (by kernel_rfl) (by simp) ?_
            refine AllReadyH.cons (o := ?o25) ?g25 (fun K hK => ?s25) ?m25
            case g25 => (simp only [List.getElem?_toArray, List.getElem?_cons_succ, List.getElem?_cons_zero]; try rfl)
            case s25 =>
              go_simp
              refine hK.out _ _ ?t25 (fun hHeld => ?u25)
              case t25 => ((try dsimp only); try (first | go_keep | (refine ⟨?_, ?_, ?_⟩ <;> first | assumption | (simp; assumption))))
              case u25 =>
                clear hK K
                (try simp only [Act.put, List.setIfInBounds_toArray, List.set_cons_zero, List.set_cons_succ])
                refine wpAnyH_ready (rs := [25]) (by kernel_rfl) (by simp) ?_
                refine AllReadyH.cons (o := ?o26) ?g26 (fun K hK => ?s26) ?m26
                case g26 => (simp only [List.getElem?_toArray, List.getElem?_cons_succ, List.getElem?_cons_zero]; try rfl)
                case s26 =>
                  (refine step_append_lies _ rfl (.tmp 21) (.tmp 35) 64 rfl W.heap.size 82 i0 (.agg #[.string ⟨#[]⟩, .int .i64 0, .string ⟨#[]⟩]) 3 40 Tryz.underlying64 hi hz0 hz1 hz2 rfl (by decide) (.slice p r.lines.length c) r.lines.length (lnCells r.lines) rfl (by have := hst.rd.rln; rw [HX.out, HFL.out] at this; exact this.alloc _) ⟨w3.heap.size, 0, none⟩ 1 1 [.string fb, .int .i64 (no : Int), .string vb] rfl rfl (by exact World.news_of_block (cs := #[.string fb, .int .i64 (no : Int), .string vb]) (t := 82) (fr := (0, 0)) (heap_alloc_new w3 _)) (by simp [Value.oneCell']) (by omega) (by unfold maxLen; omega) (by omega) (by have := hst.rd.bel.size; simp; omega) (w3.heap.size + 1) (by simp) ?_; intro g cap w4 r1 r2 hat hlt; have hB4 : w4.heap[R]? = some (.cells (rdCells k x f2.count) 115 (0, 0)) := heap_old r2 (heap_alloc (o' := .cells #[.string fb, .int .i64 (no : Int), .string vb] 82) hst.rd.blk) HLR.out; have d6 : w4.cell? ⟨R, 6, none⟩ = some x.lv := cell_at hB4 rfl; have e6 := froz_at (j := 6) hB4; have t0 := (r2.cell_far ⟨s, 0, none⟩ (by simp; omega) (HLV.out s HNS.out)).trans (keep_cell (laidNew w3 _) q0); have t1 := (r2.cell_far ⟨w.heap.size, 0, none⟩ (by simp; omega) (HLV.out _ HBL.out)).trans (keep_cell (laidNew w3 _) q1); have t2 := (r2.cell_far ⟨w.heap.size, 1, none⟩ (by simp; omega) (HLV.out _ HBL.out)).trans (keep_cell (laidNew w3 _) q2))
                  refine hK.out _ _ ?t26 (fun hHeld => ?u26)
                  case t26 => ((try dsimp only); try (first | go_keep | (refine ⟨?_, ?_, ?_⟩ <;> first | assumption | (simp; assumption))))
                  case u26 =>
                    clear hK K
                    (try simp only [Act.put, List.setIfInBounds_toArray, List.set_cons_zero, List.set_cons_succ])
                    refine wpAnyH_take (i := 26) (oi := ?o27) (v := ?v27) ?g27 (by kernel_rfl) (by kernel_rfl) (by kernel_rfl) ?q27 (Or.inl ⟨?w27, ?y27⟩) hHeld ?r27
                    case g27 => (simp only [List.getElem?_toArray, List.getElem?_cons_succ, List.getElem?_cons_zero]; try rfl)
                    case q27 => exact fun _ _ _ h => h
                    case w27 => rfl
                    case y27 => (intro w hSw; (try dsimp only at hSw); go_simp; try with_reducible rfl)
                    (try simp only [Act.put, List.setIfInBounds_toArray, List.set_cons_zero, List.set_cons_succ])
                    refine wpAnyH_take (i := 27) (oi := ?o28) (v := ?v28) ?g28 (by kernel_rfl) (by kernel_rfl) (by kernel_rfl) ?q28 (Or.inl ⟨?w28, ?y28⟩) hHeld ?r28
                    case g28 => (simp only [List.getElem?_toArray, List.getElem?_cons_succ, List.getElem?_cons_zero]; try rfl)
                    case q28 => exact fun _ _ _ h => h
                    case w28 => rfl
                    case y28 => (intro w hSw; (try dsimp only at hSw); go_simp; try with_reducible rfl)
                    (try simp only [Act.put, List.setIfInBounds_toArray, List.set_cons_zero, List.set_cons_succ])
                    refine wpAnyH_ready (rs := [28]) (by kernel_rfl) (by simp) ?_
                    refine AllReadyH.cons (o := ?o29) ?g29 (fun K hK => ?s29) ?m29
                    case g29 => (simp only [List.getElem?_toArray, List.getElem?_cons_succ, List.getElem?_cons_zero]; try rfl)
                    case s29 =>
                      go_simp
                      refine hK.out _ _ ?t29 (fun hHeld => ?u29)
                      case t29 => ((try dsimp only); try (first | go_keep | (refine ⟨?_, ?_, ?_⟩ <;> first | assumption | (simp; assumption))))
                      case u29 =>
                        clear hK K
                        (try simp only [Act.put, List.setIfInBounds_toArray, List.set_cons_zero, List.set_cons_succ])
                        refine wpAnyH_done (by kernel_rfl) ?_ _
                        refine NoPanic.normal ?_
                        go_end0
                        have hat2 : x.lv.ownBlock = some g ∨ w3.heap.size ≤ g := by
                          rcases hat with e | e
                          · exact .inl (by rw [HX.out]; exact e)
                          · right; omega
                        have hE := hst.rd.said (laidNew w3 (.cells #[.string fb, .int .i64 (no : Int), .string vb] 82)) (w2 := w4) (file := fb.data.toList) (no := no) (text := f1) (g := g) (cap := cap) (by rw [HFL.out, bT_data, HVB.out, bT_data]; exact r1) (by rw [HX.out]; exact r2) hat2
                        refine ⟨rfl, ?_⟩
                        rw [← HFL.out]
                        exact ⟨_, ((hst.trans hE).ahead (behind B1.out (Below.refl _ _).drew)).mono (by omega)⟩
                    exact AllReadyH.nil
                exact AllReadyH.nil
            exact AllReadyH.nil
        exact AllReadyH.nil
    refine AllReadyH.cons (o := ?o30) ?g30 (fun K hK => ?s30) ?m30
    case g30 => (simp only [List.getElem?_toArray, List.getElem?_cons_succ, List.getElem?_cons_zero]; try rfl)
    case s30 =>
      go_simp
      (go_at_call 172; refine hFI.mono ?_; rintro e w3 ⟨rfl, hst⟩; have q0 := (hst.kept.cell (p := ⟨s, 0, none⟩) hs1 HNS.out).trans s0; have q1 := (hst.kept.cell (p := ⟨w.heap.size, 0, none⟩) hq1 HBL.out).trans p0; have q2 := (hst.kept.cell (p := ⟨w.heap.size, 1, none⟩) hq1 HBL.out).trans p1; have q3 : W1.heap.size ≤ w3.heap.size := hst.kept.size; have q4 : w3.cell? ⟨R, 6, none⟩ = some (.slice p r.lines.length c) := hst.rd.cells 6 _ (by rw [← HX.out]; rfl); have q5 : R < w3.heap.size := by omega)
      try go_wp2_with fail
      refine hK.out _ _ ?t30 (fun hHeld => ?u30)
      case t30 => ((try dsimp only); try (first | go_keep | (refine ⟨?_, ?_, ?_⟩ <;> first | assumption | (simp; assumption))))
      case u30 =>
        clear hK K
        (try simp only [Act.put, List.setIfInBounds_toArray, List.set_cons_zero, List.set_cons_succ])
        refine wpAnyH_take (i := 23) (oi := ?o31) (v := ?v31) ?g31 (by kernel_rfl) (by kernel_rfl) (by kernel_rfl) ?q31 (Or.inl ⟨?w31, ?y31⟩) hHeld ?r31
        case g31 => (simp only [List.getElem?_toArray, List.getElem?_cons_succ, List.getElem?_cons_zero]; try rfl)
        case q31 => exact fun _ _ _ h => h
        case w31 => rfl
        case y31 => (intro w hSw; (try dsimp only at hSw); go_simp; try with_reducible rfl)
        (try simp only [Act.put, List.setIfInBounds_toArray, List.set_cons_zero, List.set_cons_succ])
        refine wpAnyH_ready (rs := [10, 24]) (by kernel_rfl) (by simp) ?_
        refine AllReadyH.cons (o := ?o32) ?g32 (fun K hK => ?s32) ?m32
        case g32 => (simp only [List.getElem?_toArray, List.getElem?_cons_succ, List.getElem?_cons_zero]; try rfl)
        case s32 =>
          go_simp
          refine hK.out _ _ ?t32 (fun hHeld => ?u32)
          case t32 => ((try dsimp only); try (first | go_keep | (refine ⟨?_, ?_, ?_⟩ <;> first | assumption | (simp; assumption))))
          case u32 =>
            clear hK K
            (try simp only [Act.put, List.setIfInBounds_toArray, List.set_cons_zero, List.set_cons_succ])
            refine wpAnyH_ready (rs := [24]) (by kernel_rfl) (by simp) ?_
            refine AllReadyH.cons (o := ?o33) ?g33 (fun K hK => ?s33) ?m33
            case g33 => (simp only [List.getElem?_toArray, List.getElem?_cons_succ, List.getElem?_cons_zero]; try rfl)
            case s33 =>
              go_simp
              refine hK.out _ _ ?t33 (fun hHeld => ?u33)
              case t33 => ((try dsimp only); try (first | go_keep | (refine ⟨?_, ?_, ?_⟩ <;> first | assumption | (simp; assumption))))
              case u33 =>
                clear hK K
                (try simp only [Act.put, List.setIfInBounds_toArray, List.set_cons_zero, List.set_cons_succ])
                refine wpAnyH_ready (rs := [25]) (by kernel_rfl) (by simp) ?_
                refine AllReadyH.cons (o := ?o34) ?g34 (fun K hK => ?s34) ?m34
                case g34 => (simp only [List.getElem?_toArray, List.getElem?_cons_succ, List.getElem?_cons_zero]; try rfl)
                case s34 =>
                  (refine step_append_lies _ rfl (.tmp 21) (.tmp 35) 64 rfl W.heap.size 82 i0 (.agg #[.string ⟨#[]⟩, .int .i64 0, .string ⟨#[]⟩]) 3 40 Tryz.underlying64 hi hz0 hz1 hz2 rfl (by decide) (.slice p r.lines.length c) r.lines.length (lnCells r.lines) rfl (by have := hst.rd.rln; rw [HX.out, HFL.out] at this; exact this.alloc _) ⟨w3.heap.size, 0, none⟩ 1 1 [.string fb, .int .i64 (no : Int), .string vb] rfl rfl (by exact World.news_of_block (cs := #[.string fb, .int .i64 (no : Int), .string vb]) (t := 82) (fr := (0, 0)) (heap_alloc_new w3 _)) (by simp [Value.oneCell']) (by omega) (by unfold maxLen; omega) (by omega) (by have := hst.rd.bel.size; simp; omega) (w3.heap.size + 1) (by simp) ?_; intro g cap w4 r1 r2 hat hlt; have hB4 : w4.heap[R]? = some (.cells (rdCells k x f2.count) 115 (0, 0)) := heap_old r2 (heap_alloc (o' := .cells #[.string fb, .int .i64 (no : Int), .string vb] 82) hst.rd.blk) HLR.out; have d6 : w4.cell? ⟨R, 6, none⟩ = some x.lv := cell_at hB4 rfl; have e6 := froz_at (j := 6) hB4; have t0 := (r2.cell_far ⟨s, 0, none⟩ (by simp; omega) (HLV.out s HNS.out)).trans (keep_cell (laidNew w3 _) q0); have t1 := (r2.cell_far ⟨w.heap.size, 0, none⟩ (by simp; omega) (HLV.out _ HBL.out)).trans (keep_cell (laidNew w3 _) q1); have t2 := (r2.cell_far ⟨w.heap.size, 1, none⟩ (by simp; omega) (HLV.out _ HBL.out)).trans (keep_cell (laidNew w3 _) q2))
                  refine hK.out _ _ ?t34 (fun hHeld => ?u34)
                  case t34 => ((try dsimp only); try (first | go_keep | (refine ⟨?_, ?_, ?_⟩ <;> first | assumption | (simp; assumption))))
                  case u34 =>
                    clear hK K
                    (try simp only [Act.put, List.setIfInBounds_toArray, List.set_cons_zero, List.set_cons_succ])
                    refine wpAnyH_take (i := 26) (oi := ?o35) (v := ?v35) ?g35 (by kernel_rfl) (by kernel_rfl) (by kernel_rfl) ?q35 (Or.inl ⟨?w35, ?y35⟩) hHeld ?r35
                    case g35 => (simp only [List.getElem?_toArray, List.getElem?_cons_succ, List.getElem?_cons_zero]; try rfl)
                    case q35 => exact fun _ _ _ h => h
                    case w35 => rfl
                    case y35 => (intro w hSw; (try dsimp only at hSw); go_simp; try with_reducible rfl)
                    (try simp only [Act.put, List.setIfInBounds_toArray, List.set_cons_zero, List.set_cons_succ])
                    refine wpAnyH_take (i := 27) (oi := ?o36) (v := ?v36) ?g36 (by kernel_rfl) (by kernel_rfl) (by kernel_rfl) ?q36 (Or.inl ⟨?w36, ?y36⟩) hHeld ?r36
                    case g36 => (simp only [List.getElem?_toArray, List.getElem?_cons_succ, List.getElem?_cons_zero]; try rfl)
                    case q36 => exact fun _ _ _ h => h
                    case w36 => rfl
                    case y36 => (intro w hSw; (try dsimp only at hSw); go_simp; try with_reducible rfl)
                    (try simp only [Act.put, List.setIfInBounds_toArray, List.set_cons_zero, List.set_cons_succ])
                    refine wpAnyH_ready (rs := [28]) (by kernel_rfl) (by simp) ?_
                    refine AllReadyH.cons (o := ?o37) ?g37 (fun K hK => ?s37) ?m37
                    case g37 => (simp only [List.getElem?_toArray, List.getElem?_cons_succ, List.getElem?_cons_zero]; try rfl)
                    case s37 =>
                      go_simp
                      refine hK.out _ _ ?t37 (fun hHeld => ?u37)
                      case t37 => ((try dsimp only); try (first | go_keep | (refine ⟨?_, ?_, ?_⟩ <;> first | assumption | (simp; assumption))))
                      case u37 =>
                        clear hK K
                        (try simp only [Act.put, List.setIfInBounds_toArray, List.set_cons_zero, List.set_cons_succ])
                        refine wpAnyH_done (by kernel_rfl) ?_ _
                        refine NoPanic.normal ?_
                        go_end0
                        have hat2 : x.lv.ownBlock = some g ∨ w3.heap.size ≤ g := by
                          rcases hat with e | e
                          · exact .inl (by rw [HX.out]; exact e)
                          · right; omega
                        have hE := hst.rd.said (laidNew w3 (.cells #[.string fb, .int .i64 (no : Int), .string vb] 82)) (w2 := w4) (file := fb.data.toList) (no := no) (text := f1) (g := g) (cap := cap) (by rw [HFL.out, bT_data, HVB.out, bT_data]; exact r1) (by rw [HX.out]; exact r2) hat2
                        refine ⟨rfl, ?_⟩
                        rw [← HFL.out]
                        exact ⟨_, ((hst.trans hE).ahead (behind B1.out (Below.refl _ _).drew)).mono (by omega)⟩
                    exact AllReadyH.nil
                exact AllReadyH.nil
            exact AllReadyH.nil
        refine AllReadyH.cons (o := ?o38) ?g38 (fun K hK => ?s38) ?m38
        case g38 => (simp only [List.getElem?_toArray, List.getElem?_cons_succ, List.getElem?_cons_zero]; try rfl)
        case s38 =>
          go_simp
          refine hK.out _ _ ?t38 (fun hHeld => ?u38)
          case t38 => ((try dsimp only); try (first | go_keep | (refine ⟨?_, ?_, ?_⟩ <;> first | assumption | (simp; assumption))))
          case u38 =>
            clear hK K
            (try simp only [Act.put, List.setIfInBounds_toArray, List.set_cons_zero, List.set_cons_succ])
            refine wpAnyH_ready (rs := [10]) (by kernel_rfl) (by simp) ?_
            refine AllReadyH.cons (o := ?o39) ?g39 (fun K hK => ?s39) ?m39
            case g39 => (simp only [List.getElem?_toArray, List.getElem?_cons_succ, List.getElem?_cons_zero]; try rfl)
            case s39 =>
              go_simp
              refine hK.out _ _ ?t39 (fun hHeld => ?u39)
              case t39 => ((try dsimp only); try (first | go_keep | (refine ⟨?_, ?_, ?_⟩ <;> first | assumption | (simp; assumption))))
              case u39 =>
                clear hK K
                (try simp only [Act.put, List.setIfInBounds_toArray, List.set_cons_zero, List.set_cons_succ])
                refine wpAnyH_ready (rs := [25]) (by kernel_rfl) (by simp) ?_
                refine AllReadyH.cons (o := ?o40) ?g40 (fun K hK => ?s40) ?m40
                case g40 => (simp only [List.getElem?_toArray, List.getElem?_cons_succ, List.getElem?_cons_zero]; try rfl)
                case s40 =>
                  (refine step_append_lies _ rfl (.tmp 21) (.tmp 35) 64 rfl W.heap.size 82 i0 (.agg #[.string ⟨#[]⟩, .int .i64 0, .string ⟨#[]⟩]) 3 40 Tryz.underlying64 hi hz0 hz1 hz2 rfl (by decide) (.slice p r.lines.length c) r.lines.length (lnCells r.lines) rfl (by have := hst.rd.rln; rw [HX.out, HFL.out] at this; exact this.alloc _) ⟨w3.heap.size, 0, none⟩ 1 1 [.string fb, .int .i64 (no : Int), .string vb] rfl rfl (by exact World.news_of_block (cs := #[.string fb, .int .i64 (no : Int), .string vb]) (t := 82) (fr := (0, 0)) (heap_alloc_new w3 _)) (by simp [Value.oneCell']) (by omega) (by unfold maxLen; omega) (by omega) (by have := hst.rd.bel.size; simp; omega) (w3.heap.size + 1) (by simp) ?_; intro g cap w4 r1 r2 hat hlt; have hB4 : w4.heap[R]? = some (.cells (rdCells k x f2.count) 115 (0, 0)) := heap_old r2 (heap_alloc (o' := .cells #[.string fb, .int .i64 (no : Int), .string vb] 82) hst.rd.blk) HLR.out; have d6 : w4.cell? ⟨R, 6, none⟩ = some x.lv := cell_at hB4 rfl; have e6 := froz_at (j := 6) hB4; have t0 := (r2.cell_far ⟨s, 0, none⟩ (by simp; omega) (HLV.out s HNS.out)).trans (keep_cell (laidNew w3 _) q0); have t1 := (r2.cell_far ⟨w.heap.size, 0, none⟩ (by simp; omega) (HLV.out _ HBL.out)).trans (keep_cell (laidNew w3 _) q1); have t2 := (r2.cell_far ⟨w.heap.size, 1, none⟩ (by simp; omega) (HLV.out _ HBL.out)).trans (keep_cell (laidNew w3 _) q2))
                  refine hK.out _ _ ?t40 (fun hHeld => ?u40)
                  case t40 => ((try dsimp only); try (first | go_keep | (refine ⟨?_, ?_, ?_⟩ <;> first | assumption | (simp; assumption))))
                  case u40 =>
                    clear hK K
                    (try simp only [Act.put, List.setIfInBounds_toArray, List.set_cons_zero, List.set_cons_succ])
                    refine wpAnyH_take (i := 26) (oi := ?o41) (v := ?v41) ?g41 (by kernel_rfl) (by kernel_rfl) (by kernel_rfl) ?q41 (Or.inl ⟨?w41, ?y41⟩) hHeld ?r41
                    case g41 => (simp only [List.getElem?_toArray, List.getElem?_cons_succ, List.getElem?_cons_zero]; try rfl)
                    case q41 => exact fun _ _ _ h => h
                    case w41 => rfl
                    case y41 => (intro w hSw; (try dsimp only at hSw); go_simp; try with_reducible rfl)
                    (try simp only [Act.put, List.setIfInBounds_toArray, List.set_cons_zero, List.set_cons_succ])
                    refine wpAnyH_take (i := 27) (oi := ?o42) (v := ?v42) ?g42 (by kernel_rfl) (by kernel_rfl) (by kernel_rfl) ?q42 (Or.inl ⟨?w42, ?y42⟩) hHeld ?r42
                    case g42 => (simp only [List.getElem?_toArray, List.getElem?_cons_succ, List.getElem?_cons_zero]; try rfl)
                    case q42 => exact fun _ _ _ h => h
                    case w42 => rfl
                    case y42 => (intro w hSw; (try dsimp only at hSw); go_simp; try with_reducible rfl)
                    (try simp only [Act.put, List.setIfInBounds_toArray, List.set_cons_zero, List.set_cons_succ])
                    refine wpAnyH_ready (rs := [28]) (by kernel_rfl) (by simp) ?_
                    refine AllReadyH.cons (o := ?o43) ?g43 (fun K hK => ?s43) ?m43
                    case g43 => (simp only [List.getElem?_toArray, List.getElem?_cons_succ, List.getElem?_cons_zero]; try rfl)
                    case s43 =>
                      go_simp
                      refine hK.out _ _ ?t43 (fun hHeld => ?u43)
                      case t43 => ((try dsimp only); try (first | go_keep | (refine ⟨?_, ?_, ?_⟩ <;> first | assumption | (simp; assumption))))
                      case u43 =>
                        clear hK K
                        (try simp only [Act.put, List.setIfInBounds_toArray, List.set_cons_zero, List.set_cons_succ])
                        refine wpAnyH_done (by kernel_rfl) ?_ _
                        refine NoPanic.normal ?_
                        go_end0
                        have hat2 : x.lv.ownBlock = some g ∨ w3.heap.size ≤ g := by
                          rcases hat with e | e
                          · exact .inl (by rw [HX.out]; exact e)
                          · right; omega
                        have hE := hst.rd.said (laidNew w3 (.cells #[.string fb, .int .i64 (no : Int), .string vb] 82)) (w2 := w4) (file := fb.data.toList) (no := no) (text := f1) (g := g) (cap := cap) (by rw [HFL.out, bT_data, HVB.out, bT_data]; exact r1) (by rw [HX.out]; exact r2) hat2
                        refine ⟨rfl, ?_⟩
                        rw [← HFL.out]
                        exact ⟨_, ((hst.trans hE).ahead (behind B1.out (Below.refl _ _).drew)).mono (by omega)⟩
                    exact AllReadyH.nil
                exact AllReadyH.nil
            exact AllReadyH.nil
        exact AllReadyH.nil
    exact AllReadyH.nil
  | false =>
    have hu : ub = tb := by have := HU.out; rw [hpf] at this; simpa using this
    have hpf' : Lib.hasPrefix tb.data.toList (⟨#[92, 64]⟩ : ByteArray).data.toList = false := hpf
    rw [hpf'] at HP
    subst hu
    clear hpf hpf'
    go_enter Tryz.func154, Tryz.ntmps154
    go_wp2_with (go_at_call 176; refine (HP _).mono ?_; rintro e w2 ⟨rfl, rfl⟩)
    refine wp_region_noPanic ?_
    refine wp_region_held_drew (S := (fun w' => w'.cell? ⟨s, 0, none⟩ = some (.pointer (some ⟨R, 0, none⟩)) ∧ w'.cell? ⟨w.heap.size, 0, none⟩ = some (.string fb) ∧ w'.cell? ⟨w.heap.size, 1, none⟩ = some (.int .i64 (no : Int)))) (by kernel_rfl) ?hsb (fun hHeld => ?hrb)
    case hsb => ((try dsimp only); try (first | go_keep | (refine ⟨?_, ?_, ?_⟩ <;> first | assumption | (simp; assumption))))
    refine wpAnyH_take (i := 0) (oi := ?o44) (v := ?v44) ?g44 (by kernel_rfl) (by kernel_rfl) (by kernel_rfl) ?q44 (Or.inl ⟨?w44, ?y44⟩) hHeld ?r44
    case g44 => (simp only [List.getElem?_toArray, List.getElem?_cons_zero]; try rfl)
    case q44 => exact fun _ _ _ h => h
    case w44 => rfl
    case y44 => (intro w hSw; (try dsimp only at hSw); go_simp; try with_reducible rfl)
    (try simp only [Act.put, List.setIfInBounds_toArray, List.set_cons_zero, List.set_cons_succ])
    refine wpAnyH_take (i := 1) (oi := ?o45) (v := ?v45) ?g45 (by kernel_rfl) (by kernel_rfl) (by kernel_rfl) ?q45 (Or.inl ⟨?w45, ?y45⟩) hHeld ?r45
    case g45 => (simp only [List.getElem?_toArray, List.getElem?_cons_succ, List.getElem?_cons_zero]; try rfl)
    case q45 => exact fun _ _ _ h => h
    case w45 => rfl
    case y45 => (intro w hSw; (try dsimp only at hSw); go_simp; try with_reducible rfl)
    (try simp only [Act.put, List.setIfInBounds_toArray, List.set_cons_zero, List.set_cons_succ])
    refine wpAnyH_take (i := 2) (oi := ?o46) (v := ?v46) ?g46 (by kernel_rfl) (by kernel_rfl) (by kernel_rfl) ?q46 (Or.inl ⟨?w46, ?y46⟩) hHeld ?r46
    case g46 => (simp only [List.getElem?_toArray, List.getElem?_cons_succ, List.getElem?_cons_zero]; try rfl)
    case q46 => exact fun _ _ _ h => h
    case w46 => rfl
    case y46 => (intro w hSw; (try dsimp only at hSw); go_simp; try with_reducible rfl)
    (try simp only [Act.put, List.setIfInBounds_toArray, List.set_cons_zero, List.set_cons_succ])
    refine wpAnyH_take (i := 3) (oi := ?o47) (v := ?v47) ?g47 (by kernel_rfl) (by kernel_rfl) (by kernel_rfl) ?q47 (Or.inl ⟨?w47, ?y47⟩) hHeld ?r47
    case g47 => (simp only [List.getElem?_toArray, List.getElem?_cons_succ, List.getElem?_cons_zero]; try rfl)
    case q47 => exact fun _ _ _ h => h
    case w47 => rfl
    case y47 => (intro w hSw; (try dsimp only at hSw); go_simp; try with_reducible rfl)
    (try simp only [Act.put, List.setIfInBounds_toArray, List.set_cons_zero, List.set_cons_succ])
    refine wpAnyH_take (i := 4) (oi := ?o48) (v := ?v48) ?g48 (by kernel_rfl) (by kernel_rfl) (by kernel_rfl) ?q48 (Or.inl ⟨?w48, ?y48⟩) hHeld ?r48
    case g48 => (simp only [List.getElem?_toArray, List.getElem?_cons_succ, List.getElem?_cons_zero]; try rfl)
    case q48 => exact fun _ _ _ h => h
    case w48 => rfl
    case y48 => (intro w hSw; (try dsimp only at hSw); go_simp; try with_reducible rfl)
    (try simp only [Act.put, List.setIfInBounds_toArray, List.set_cons_zero, List.set_cons_succ])
    refine wpAnyH_take (i := 5) (oi := ?o49) (v := ?v49) ?g49 (by kernel_rfl) (by kernel_rfl) (by kernel_rfl) ?q49 (Or.inl ⟨?w49, ?y49⟩) hHeld ?r49
    case g49 => (simp only [List.getElem?_toArray, List.getElem?_cons_succ, List.getElem?_cons_zero]; try rfl)
    case q49 => exact fun _ _ _ h => h
    case w49 => rfl
    case y49 => (intro w hSw; (try dsimp only at hSw); go_simp; try with_reducible rfl)
    (try simp only [Act.put, List.setIfInBounds_toArray, List.set_cons_zero, List.set_cons_succ])
    refine wpAnyH_take (i := 6) (oi := ?o50) (v := ?v50) ?g50 (by kernel_rfl) (by kernel_rfl) (by kernel_rfl) ?q50 (Or.inl ⟨?w50, ?y50⟩) hHeld ?r50
    case g50 => (simp only [List.getElem?_toArray, List.getElem?_cons_succ, List.getElem?_cons_zero]; try rfl)
    case q50 => exact fun _ _ _ h => h
    case w50 => rfl
    case y50 => (intro w hSw; (try dsimp only at hSw); go_simp; try with_reducible rfl)
    (try simp only [Act.put, List.setIfInBounds_toArray, List.set_cons_zero, List.set_cons_succ])
    refine wpAnyH_take (i := 7) (oi := ?o51) (v := ?v51) ?g51 (by kernel_rfl) (by kernel_rfl) (by kernel_rfl) ?q51 (Or.inl ⟨?w51, ?y51⟩) hHeld ?r51
    case g51 => (simp only [List.getElem?_toArray, List.getElem?_cons_succ, List.getElem?_cons_zero]; try rfl)
    case q51 => exact fun _ _ _ h => h
    case w51 => rfl
    case y51 => (intro w hSw; (try dsimp only at hSw); go_simp; try with_reducible rfl)
    (try simp only [Act.put, List.setIfInBounds_toArray, List.set_cons_zero, List.set_cons_succ])
    refine wpAnyH_take (i := 8) (oi := ?o52) (v := ?v52) ?g52 (by kernel_rfl) (by kernel_rfl) (by kernel_rfl) ?q52 (Or.inl ⟨?w52, ?y52⟩) hHeld ?r52
    case g52 => (simp only [List.getElem?_toArray, List.getElem?_cons_succ, List.getElem?_cons_zero]; try rfl)
    case q52 => exact fun _ _ _ h => h
    case w52 => rfl
    case y52 => (intro w hSw; (try dsimp only at hSw); go_simp; try with_reducible rfl)
    (try simp only [Act.put, List.setIfInBounds_toArray, List.set_cons_zero, List.set_cons_succ])
    refine wpAnyH_take (i := 9) (oi := ?o53) (v := ?v53) ?g53 (by kernel_rfl) (by kernel_rfl) (by kernel_rfl) ?q53 (Or.inl ⟨?w53, ?y53⟩) hHeld ?r53
    case g53 => (simp only [List.getElem?_toArray, List.getElem?_cons_succ, List.getElem?_cons_zero]; try rfl)
    case q53 => exact fun _ _ _ h => h
    case w53 => rfl
    case y53 => (intro w hSw; (try dsimp only at hSw); go_simp; try with_reducible rfl)
    (try simp only [Act.put, List.setIfInBounds_toArray, List.set_cons_zero, List.set_cons_succ])
    refine wpAnyH_take (i := 11) (oi := ?o54) (v := ?v54) ?g54 (by kernel_rfl) (by kernel_rfl) (by kernel_rfl) ?q54 (Or.inl ⟨?w54, ?y54⟩) hHeld ?r54
    case g54 => (simp only [List.getElem?_toArray, List.getElem?_cons_succ, List.getElem?_cons_zero]; try rfl)
    case q54 => exact fun _ _ _ h => h
    case w54 => rfl
    case y54 => (intro w hSw; (try dsimp only at hSw); go_simp; try with_reducible rfl)
    (try simp only [Act.put, List.setIfInBounds_toArray, List.set_cons_zero, List.set_cons_succ])
    refine wpAnyH_take (i := 12) (oi := ?o55) (v := ?v55) ?g55 (by kernel_rfl) (by kernel_rfl) (by kernel_rfl) ?q55 (Or.inl ⟨?w55, ?y55⟩) hHeld ?r55
    case g55 => (simp only [List.getElem?_toArray, List.getElem?_cons_succ, List.getElem?_cons_zero]; try rfl)
    case q55 => exact fun _ _ _ h => h
    case w55 => rfl
    case y55 => (intro w hSw; (try dsimp only at hSw); go_simp; try with_reducible rfl)
    (try simp only [Act.put, List.setIfInBounds_toArray, List.set_cons_zero, List.set_cons_succ])
    refine wpAnyH_take (i := 13) (oi := ?o56) (v := ?v56) ?g56 (by kernel_rfl) (by kernel_rfl) (by kernel_rfl) ?q56 (Or.inl ⟨?w56, ?y56⟩) hHeld ?r56
    case g56 => (simp only [List.getElem?_toArray, List.getElem?_cons_succ, List.getElem?_cons_zero]; try rfl)
    case q56 => exact fun _ _ _ h => h
    case w56 => rfl
    case y56 => (intro w hSw; (try dsimp only at hSw); go_simp; try with_reducible rfl)
    (try simp only [Act.put, List.setIfInBounds_toArray, List.set_cons_zero, List.set_cons_succ])
    refine wpAnyH_take (i := 14) (oi := ?o57) (v := ?v57) ?g57 (by kernel_rfl) (by kernel_rfl) (by kernel_rfl) ?q57 (Or.inl ⟨?w57, ?y57⟩) hHeld ?r57
    case g57 => (simp only [List.getElem?_toArray, List.getElem?_cons_succ, List.getElem?_cons_zero]; try rfl)
    case q57 => exact fun _ _ _ h => h
    case w57 => rfl
    case y57 => (intro w hSw; (try dsimp only at hSw); go_simp; try with_reducible rfl)
    (try simp only [Act.put, List.setIfInBounds_toArray, List.set_cons_zero, List.set_cons_succ])
    refine wpAnyH_take (i := 15) (oi := ?o58) (v := ?v58) ?g58 (by kernel_rfl) (by kernel_rfl) (by kernel_rfl) ?q58 (Or.inl ⟨?w58, ?y58⟩) hHeld ?r58
    case g58 => (simp only [List.getElem?_toArray, List.getElem?_cons_succ, List.getElem?_cons_zero]; try rfl)
    case q58 => exact fun _ _ _ h => h
    case w58 => rfl
    case y58 => (intro w hSw; (try dsimp only at hSw); go_simp; try with_reducible rfl)
    (try simp only [Act.put, List.setIfInBounds_toArray, List.set_cons_zero, List.set_cons_succ])
    refine wpAnyH_take (i := 16) (oi := ?o59) (v := ?v59) ?g59 (by kernel_rfl) (by kernel_rfl) (by kernel_rfl) ?q59 (Or.inl ⟨?w59, ?y59⟩) hHeld ?r59
    case g59 => (simp only [List.getElem?_toArray, List.getElem?_cons_succ, List.getElem?_cons_zero]; try rfl)
    case q59 => exact fun _ _ _ h => h
    case w59 => rfl
    case y59 => (intro w hSw; (try dsimp only at hSw); go_simp; try with_reducible rfl)
    (try simp only [Act.put, List.setIfInBounds_toArray, List.set_cons_zero, List.set_cons_succ])
    refine wpAnyH_take (i := 17) (oi := ?o60) (v := ?v60) ?g60 (by kernel_rfl) (by kernel_rfl) (by kernel_rfl) ?q60 (Or.inl ⟨?w60, ?y60⟩) hHeld ?r60
    case g60 => (simp only [List.getElem?_toArray, List.getElem?_cons_succ, List.getElem?_cons_zero]; try rfl)
    case q60 => exact fun _ _ _ h => h
    case w60 => rfl
    case y60 => (intro w hSw; (try dsimp only at hSw); go_simp; try with_reducible rfl)
    (try simp only [Act.put, List.setIfInBounds_toArray, List.set_cons_zero, List.set_cons_succ])
    refine wpAnyH_take (i := 18) (oi := ?o61) (v := ?v61) ?g61 (by kernel_rfl) (by kernel_rfl) (by kernel_rfl) ?q61 (Or.inl ⟨?w61, ?y61⟩) hHeld ?r61
    case g61 => (simp only [List.getElem?_toArray, List.getElem?_cons_succ, List.getElem?_cons_zero]; try rfl)
    case q61 => exact fun _ _ _ h => h
    case w61 => rfl
    case y61 => (intro w hSw; (try dsimp only at hSw); go_simp; try with_reducible rfl)
    (try simp only [Act.put, List.setIfInBounds_toArray, List.set_cons_zero, List.set_cons_succ])
    refine wpAnyH_take (i := 19) (oi := ?o62) (v := ?v62) ?g62 (by kernel_rfl) (by kernel_rfl) (by kernel_rfl) ?q62 (Or.inl ⟨?w62, ?y62⟩) hHeld ?r62
    case g62 => (simp only [List.getElem?_toArray, List.getElem?_cons_succ, List.getElem?_cons_zero]; try rfl)
    case q62 => exact fun _ _ _ h => h
    case w62 => rfl
    case y62 => (intro w hSw; (try dsimp only at hSw); go_simp; try with_reducible rfl)
    (try simp only [Act.put, List.setIfInBounds_toArray, List.set_cons_zero, List.set_cons_succ])
    refine wpAnyH_take (i := 20) (oi := ?o63) (v := ?v63) ?g63 (by kernel_rfl) (by kernel_rfl) (by kernel_rfl) ?q63 (Or.inl ⟨?w63, ?y63⟩) hHeld ?r63
    case g63 => (simp only [List.getElem?_toArray, List.getElem?_cons_succ, List.getElem?_cons_zero]; try rfl)
    case q63 => exact fun _ _ _ h => h
    case w63 => rfl
    case y63 => (intro w hSw; (try dsimp only at hSw); go_simp; try with_reducible rfl)
    (try simp only [Act.put, List.setIfInBounds_toArray, List.set_cons_zero, List.set_cons_succ])
    refine wpAnyH_take (i := 21) (oi := ?o64) (v := ?v64) ?g64 (by kernel_rfl) (by kernel_rfl) (by kernel_rfl) ?q64 (Or.inl ⟨?w64, ?y64⟩) hHeld ?r64
    case g64 => (simp only [List.getElem?_toArray, List.getElem?_cons_succ, List.getElem?_cons_zero]; try rfl)
    case q64 => exact fun _ _ _ h => h
    case w64 => rfl
    case y64 => (intro w hSw; (try dsimp only at hSw); go_simp; try with_reducible rfl)
    (try simp only [Act.put, List.setIfInBounds_toArray, List.set_cons_zero, List.set_cons_succ])
    refine wpAnyH_ready (rs := [10, 22]) (by kernel_rfl) (by simp) ?_
    refine AllReadyH.cons (o := ?o65) ?g65 (fun K hK => ?s65) ?m65
    case g65 => (simp only [List.getElem?_toArray, List.getElem?_cons_succ, List.getElem?_cons_zero]; try rfl)
    case s65 =>
      go_simp
      refine hK.out _ _ ?t65 (fun hHeld => ?u65)
      case t65 => ((try dsimp only); try (first | go_keep | (refine ⟨?_, ?_, ?_⟩ <;> first | assumption | (simp; assumption))))
      case u65 =>
        clear hK K
        (try simp only [Act.put, List.setIfInBounds_toArray, List.set_cons_zero, List.set_cons_succ])
        refine wpAnyH_ready (rs := [22]) (by kernel_rfl) (by simp) ?_
        refine AllReadyH.cons (o := ?o66) ?g66 (fun K hK => ?s66) ?m66
        case g66 => (simp only [List.getElem?_toArray, List.getElem?_cons_succ, List.getElem?_cons_zero]; try rfl)
        case s66 =>
          go_simp
          (go_at_call 172; refine hFI.mono ?_; rintro e w3 ⟨rfl, hst⟩; have q0 := (hst.kept.cell (p := ⟨s, 0, none⟩) hs1 HNS.out).trans s0; have q1 := (hst.kept.cell (p := ⟨w.heap.size, 0, none⟩) hq1 HBL.out).trans p0; have q2 := (hst.kept.cell (p := ⟨w.heap.size, 1, none⟩) hq1 HBL.out).trans p1; have q3 : W1.heap.size ≤ w3.heap.size := hst.kept.size; have q4 : w3.cell? ⟨R, 6, none⟩ = some (.slice p r.lines.length c) := hst.rd.cells 6 _ (by rw [← HX.out]; rfl); have q5 : R < w3.heap.size := by omega)
          try go_wp2_with fail
          refine hK.out _ _ ?t66 (fun hHeld => ?u66)
          case t66 => ((try dsimp only); try (first | go_keep | (refine ⟨?_, ?_, ?_⟩ <;> first | assumption | (simp; assumption))))
          case u66 =>
            clear hK K
            (try simp only [Act.put, List.setIfInBounds_toArray, List.set_cons_zero, List.set_cons_succ])
            refine wpAnyH_take (i := 23) (oi := ?o67) (v := ?v67) ?g67 (by kernel_rfl) (by kernel_rfl) (by kernel_rfl) ?q67 (Or.inl ⟨?w67, ?y67⟩) hHeld ?r67
            case g67 => (simp only [List.getElem?_toArray, List.getElem?_cons_succ, List.getElem?_cons_zero]; try rfl)
            case q67 => exact fun _ _ _ h => h
            case w67 => rfl
            case y67 => (intro w hSw; (try dsimp only at hSw); go_simp; try with_reducible rfl)
            (try simp only [Act.put, List.setIfInBounds_toArray, List.set_cons_zero, List.set_cons_succ])
            refine wpAnyH_ready (rs := [24]) (by kernel_rfl) (by simp) ?_
            refine AllReadyH.cons (o := ?o68) ?g68 (fun K hK => ?s68) ?m68
            case g68 => (simp only [List.getElem?_toArray, List.getElem?_cons_succ, List.getElem?_cons_zero]; try rfl)
            case s68 =>
              go_simp
              refine hK.out _ _ ?t68 (fun hHeld => ?u68)
              case t68 => ((try dsimp only); try (first | go_keep | (refine ⟨?_, ?_, ?_⟩ <;> first | assumption | (simp; assumption))))
              case u68 =>
                clear hK K
                (try simp only [Act.put, List.setIfInBounds_toArray, List.set_cons_zero, List.set_cons_succ])
                refine wpAnyH_ready (rs := [25]) (by kernel_rfl) (by simp) ?_
                refine AllReadyH.cons (o := ?o69) ?g69 (fun K hK => ?s69) ?m69
                case g69 => (simp only [List.getElem?_toArray, List.getElem?_cons_succ, List.getElem?_cons_zero]; try rfl)
                case s69 =>
                  (refine step_append_lies _ rfl (.tmp 21) (.tmp 35) 64 rfl W.heap.size 82 i0 (.agg #[.string ⟨#[]⟩, .int .i64 0, .string ⟨#[]⟩]) 3 40 Tryz.underlying64 hi hz0 hz1 hz2 rfl (by decide) (.slice p r.lines.length c) r.lines.length (lnCells r.lines) rfl (by have := hst.rd.rln; rw [HX.out, HFL.out] at this; exact this.alloc _) ⟨w3.heap.size, 0, none⟩ 1 1 [.string fb, .int .i64 (no : Int), .string vb] rfl rfl (by exact World.news_of_block (cs := #[.string fb, .int .i64 (no : Int), .string vb]) (t := 82) (fr := (0, 0)) (heap_alloc_new w3 _)) (by simp [Value.oneCell']) (by omega) (by unfold maxLen; omega) (by omega) (by have := hst.rd.bel.size; simp; omega) (w3.heap.size + 1) (by simp) ?_; intro g cap w4 r1 r2 hat hlt; have hB4 : w4.heap[R]? = some (.cells (rdCells k x f2.count) 115 (0, 0)) := heap_old r2 (heap_alloc (o' := .cells #[.string fb, .int .i64 (no : Int), .string vb] 82) hst.rd.blk) HLR.out; have d6 : w4.cell? ⟨R, 6, none⟩ = some x.lv := cell_at hB4 rfl; have e6 := froz_at (j := 6) hB4; have t0 := (r2.cell_far ⟨s, 0, none⟩ (by simp; omega) (HLV.out s HNS.out)).trans (keep_cell (laidNew w3 _) q0); have t1 := (r2.cell_far ⟨w.heap.size, 0, none⟩ (by simp; omega) (HLV.out _ HBL.out)).trans (keep_cell (laidNew w3 _) q1); have t2 := (r2.cell_far ⟨w.heap.size, 1, none⟩ (by simp; omega) (HLV.out _ HBL.out)).trans (keep_cell (laidNew w3 _) q2))
                  refine hK.out _ _ ?t69 (fun hHeld => ?u69)
                  case t69 => ((try dsimp only); try (first | go_keep | (refine ⟨?_, ?_, ?_⟩ <;> first | assumption | (simp; assumption))))
                  case u69 =>
                    clear hK K
                    (try simp only [Act.put, List.setIfInBounds_toArray, List.set_cons_zero, List.set_cons_succ])
                    refine wpAnyH_take (i := 26) (oi := ?o70) (v := ?v70) ?g70 (by kernel_rfl) (by kernel_rfl) (by kernel_rfl) ?q70 (Or.inl ⟨?w70, ?y70⟩) hHeld ?r70
                    case g70 => (simp only [List.getElem?_toArray, List.getElem?_cons_succ, List.getElem?_cons_zero]; try rfl)
                    case q70 => exact fun _ _ _ h => h
                    case w70 => rfl
                    case y70 => (intro w hSw; (try dsimp only at hSw); go_simp; try with_reducible rfl)
                    (try simp only [Act.put, List.setIfInBounds_toArray, List.set_cons_zero, List.set_cons_succ])
                    refine wpAnyH_take (i := 27) (oi := ?o71) (v := ?v71) ?g71 (by kernel_rfl) (by kernel_rfl) (by kernel_rfl) ?q71 (Or.inl ⟨?w71, ?y71⟩) hHeld ?r71
                    case g71 => (simp only [List.getElem?_toArray, List.getElem?_cons_succ, List.getElem?_cons_zero]; try rfl)
                    case q71 => exact fun _ _ _ h => h
                    case w71 => rfl
                    case y71 => (intro w hSw; (try dsimp only at hSw); go_simp; try with_reducible rfl)
                    (try simp only [Act.put, List.setIfInBounds_toArray, List.set_cons_zero, List.set_cons_succ])
                    refine wpAnyH_ready (rs := [28]) (by kernel_rfl) (by simp) ?_
                    refine AllReadyH.cons (o := ?o72) ?g72 (fun K hK => ?s72) ?m72
                    case g72 => (simp only [List.getElem?_toArray, List.getElem?_cons_succ, List.getElem?_cons_zero]; try rfl)
                    case s72 =>
                      go_simp
                      refine hK.out _ _ ?t72 (fun hHeld => ?u72)
                      case t72 => ((try dsimp only); try (first | go_keep | (refine ⟨?_, ?_, ?_⟩ <;> first | assumption | (simp; assumption))))
                      case u72 =>
                        clear hK K
                        (try simp only [Act.put, List.setIfInBounds_toArray, List.set_cons_zero, List.set_cons_succ])
                        refine wpAnyH_done (by kernel_rfl) ?_ _
                        refine NoPanic.normal ?_
                        go_end0
                        have hat2 : x.lv.ownBlock = some g ∨ w3.heap.size ≤ g := by
                          rcases hat with e | e
                          · exact .inl (by rw [HX.out]; exact e)
                          · right; omega
                        have hE := hst.rd.said (laidNew w3 (.cells #[.string fb, .int .i64 (no : Int), .string vb] 82)) (w2 := w4) (file := fb.data.toList) (no := no) (text := f1) (g := g) (cap := cap) (by rw [HFL.out, bT_data, HVB.out, bT_data]; exact r1) (by rw [HX.out]; exact r2) hat2
                        refine ⟨rfl, ?_⟩
                        rw [← HFL.out]
                        exact ⟨_, ((hst.trans hE).ahead (behind B1.out (Below.refl _ _).drew)).mono (by omega)⟩
                    exact AllReadyH.nil
                exact AllReadyH.nil
            exact AllReadyH.nil
        exact AllReadyH.nil
    refine AllReadyH.cons (o := ?o73) ?g73 (fun K hK => ?s73) ?m73
    case g73 => (simp only [List.getElem?_toArray, List.getElem?_cons_succ, List.getElem?_cons_zero]; try rfl)
    case s73 =>
      go_simp
      (go_at_call 172; refine hFI.mono ?_; rintro e w3 ⟨rfl, hst⟩; have q0 := (hst.kept.cell (p := ⟨s, 0, none⟩) hs1 HNS.out).trans s0; have q1 := (hst.kept.cell (p := ⟨w.heap.size, 0, none⟩) hq1 HBL.out).trans p0; have q2 := (hst.kept.cell (p := ⟨w.heap.size, 1, none⟩) hq1 HBL.out).trans p1; have q3 : W1.heap.size ≤ w3.heap.size := hst.kept.size; have q4 : w3.cell? ⟨R, 6, none⟩ = some (.slice p r.lines.length c) := hst.rd.cells 6 _ (by rw [← HX.out]; rfl); have q5 : R < w3.heap.size := by omega)
      try go_wp2_with fail
      refine hK.out _ _ ?t73 (fun hHeld => ?u73)
      case t73 => ((try dsimp only); try (first | go_keep | (refine ⟨?_, ?_, ?_⟩ <;> first | assumption | (simp; assumption))))
      case u73 =>
        clear hK K
        (try simp only [Act.put, List.setIfInBounds_toArray, List.set_cons_zero, List.set_cons_succ])
        refine wpAnyH_take (i := 23) (oi := ?o74) (v := ?v74) ?g74 (by kernel_rfl) (by kernel_rfl) (by kernel_rfl) ?q74 (Or.inl ⟨?w74, ?y74⟩) hHeld ?r74
        case g74 => (simp only [List.getElem?_toArray, List.getElem?_cons_succ, List.getElem?_cons_zero]; try rfl)
        case q74 => exact fun _ _ _ h => h
        case w74 => rfl
        case y74 => (intro w hSw; (try dsimp only at hSw); go_simp; try with_reducible rfl)
        (try simp only [Act.put, List.setIfInBounds_toArray, List.set_cons_zero, List.set_cons_succ])
        refine wpAnyH_ready (rs := [10, 24]) (by kernel_rfl) (by simp) ?_
        refine AllReadyH.cons (o := ?o75) ?g75 (fun K hK => ?s75) ?m75
        case g75 => (simp only [List.getElem?_toArray, List.getElem?_cons_succ, List.getElem?_cons_zero]; try rfl)
        case s75 =>
          go_simp
          refine hK.out _ _ ?t75 (fun hHeld => ?u75)
          case t75 => ((try dsimp only); try (first | go_keep | (refine ⟨?_, ?_, ?_⟩ <;> first | assumption | (simp; assumption))))
          case u75 =>
            clear hK K
            (try simp only [Act.put, List.setIfInBounds_toArray, List.set_cons_zero, List.set_cons_succ])
            refine wpAnyH_ready (rs := [24]) (by kernel_rfl) (by simp) ?_
            refine AllReadyH.cons (o := ?o76) ?g76 (fun K hK => ?s76) ?m76
            case g76 => (simp only [List.getElem?_toArray, List.getElem?_cons_succ, List.getElem?_cons_zero]; try rfl)
            case s76 =>
              go_simp
              refine hK.out _ _ ?t76 (fun hHeld => ?u76)
              case t76 => ((try dsimp only); try (first | go_keep | (refine ⟨?_, ?_, ?_⟩ <;> first | assumption | (simp; assumption))))
              case u76 =>
                clear hK K
                (try simp only [Act.put, List.setIfInBounds_toArray, List.set_cons_zero, List.set_cons_succ])
                refine wpAnyH_ready (rs := [25]) (by kernel_rfl) (by simp) ?_
                refine AllReadyH.cons (o := ?o77) ?g77 (fun K hK => ?s77) ?m77
                case g77 => (simp only [List.getElem?_toArray, List.getElem?_cons_succ, List.getElem?_cons_zero]; try rfl)
                case s77 =>
                  (refine step_append_lies _ rfl (.tmp 21) (.tmp 35) 64 rfl W.heap.size 82 i0 (.agg #[.string ⟨#[]⟩, .int .i64 0, .string ⟨#[]⟩]) 3 40 Tryz.underlying64 hi hz0 hz1 hz2 rfl (by decide) (.slice p r.lines.length c) r.lines.length (lnCells r.lines) rfl (by have := hst.rd.rln; rw [HX.out, HFL.out] at this; exact this.alloc _) ⟨w3.heap.size, 0, none⟩ 1 1 [.string fb, .int .i64 (no : Int), .string vb] rfl rfl (by exact World.news_of_block (cs := #[.string fb, .int .i64 (no : Int), .string vb]) (t := 82) (fr := (0, 0)) (heap_alloc_new w3 _)) (by simp [Value.oneCell']) (by omega) (by unfold maxLen; omega) (by omega) (by have := hst.rd.bel.size; simp; omega) (w3.heap.size + 1) (by simp) ?_; intro g cap w4 r1 r2 hat hlt; have hB4 : w4.heap[R]? = some (.cells (rdCells k x f2.count) 115 (0, 0)) := heap_old r2 (heap_alloc (o' := .cells #[.string fb, .int .i64 (no : Int), .string vb] 82) hst.rd.blk) HLR.out; have d6 : w4.cell? ⟨R, 6, none⟩ = some x.lv := cell_at hB4 rfl; have e6 := froz_at (j := 6) hB4; have t0 := (r2.cell_far ⟨s, 0, none⟩ (by simp; omega) (HLV.out s HNS.out)).trans (keep_cell (laidNew w3 _) q0); have t1 := (r2.cell_far ⟨w.heap.size, 0, none⟩ (by simp; omega) (HLV.out _ HBL.out)).trans (keep_cell (laidNew w3 _) q1); have t2 := (r2.cell_far ⟨w.heap.size, 1, none⟩ (by simp; omega) (HLV.out _ HBL.out)).trans (keep_cell (laidNew w3 _) q2))
                  refine hK.out _ _ ?t77 (fun hHeld => ?u77)
                  case t77 => ((try dsimp only); try (first | go_keep | (refine ⟨?_, ?_, ?_⟩ <;> first | assumption | (simp; assumption))))
                  case u77 =>
                    clear hK K
                    (try simp only [Act.put, List.setIfInBounds_toArray, List.set_cons_zero, List.set_cons_succ])
                    refine wpAnyH_take (i := 26) (oi := ?o78) (v := ?v78) ?g78 (by kernel_rfl) (by kernel_rfl) (by kernel_rfl) ?q78 (Or.inl ⟨?w78, ?y78⟩) hHeld ?r78
                    case g78 => (simp only [List.getElem?_toArray, List.getElem?_cons_succ, List.getElem?_cons_zero]; try rfl)
                    case q78 => exact fun _ _ _ h => h
                    case w78 => rfl
                    case y78 => (intro w hSw; (try dsimp only at hSw); go_simp; try with_reducible rfl)
                    (try simp only [Act.put, List.setIfInBounds_toArray, List.set_cons_zero, List.set_cons_succ])
                    refine wpAnyH_take (i := 27) (oi := ?o79) (v := ?v79) ?g79 (by kernel_rfl) (by kernel_rfl) (by kernel_rfl) ?q79 (Or.inl ⟨?w79, ?y79⟩) hHeld ?r79
                    case g79 => (simp only [List.getElem?_toArray, List.getElem?_cons_succ, List.getElem?_cons_zero]; try rfl)
                    case q79 => exact fun _ _ _ h => h
                    case w79 => rfl
                    case y79 => (intro w hSw; (try dsimp only at hSw); go_simp; try with_reducible rfl)
                    (try simp only [Act.put, List.setIfInBounds_toArray, List.set_cons_zero, List.set_cons_succ])
                    refine wpAnyH_ready (rs := [28]) (by kernel_rfl) (by simp) ?_
                    refine AllReadyH.cons (o := ?o80) ?g80 (fun K hK => ?s80) ?m80
                    case g80 => (simp only [List.getElem?_toArray, List.getElem?_cons_succ, List.getElem?_cons_zero]; try rfl)
                    case s80 =>
                      go_simp
                      refine hK.out _ _ ?t80 (fun hHeld => ?u80)
                      case t80 => ((try dsimp only); try (first | go_keep | (refine ⟨?_, ?_, ?_⟩ <;> first | assumption | (simp; assumption))))
                      case u80 =>
                        clear hK K
                        (try simp only [Act.put, List.setIfInBounds_toArray, List.set_cons_zero, List.set_cons_succ])
                        refine wpAnyH_done (by kernel_rfl) ?_ _
                        refine NoPanic.normal ?_
                        go_end0
                        have hat2 : x.lv.ownBlock = some g ∨ w3.heap.size ≤ g := by
                          rcases hat with e | e
                          · exact .inl (by rw [HX.out]; exact e)
                          · right; omega
                        have hE := hst.rd.said (laidNew w3 (.cells #[.string fb, .int .i64 (no : Int), .string vb] 82)) (w2 := w4) (file := fb.data.toList) (no := no) (text := f1) (g := g) (cap := cap) (by rw [HFL.out, bT_data, HVB.out, bT_data]; exact r1) (by rw [HX.out]; exact r2) hat2
                        refine ⟨rfl, ?_⟩
                        rw [← HFL.out]
                        exact ⟨_, ((hst.trans hE).ahead (behind B1.out (Below.refl _ _).drew)).mono (by omega)⟩
                    exact AllReadyH.nil
                exact AllReadyH.nil
            exact AllReadyH.nil
        refine AllReadyH.cons (o := ?o81) ?g81 (fun K hK => ?s81) ?m81
        case g81 => (simp only [List.getElem?_toArray, List.getElem?_cons_succ, List.getElem?_cons_zero]; try rfl)
        case s81 =>
          go_simp
          refine hK.out _ _ ?t81 (fun hHeld => ?u81)
          case t81 => ((try dsimp only); try (first | go_keep | (refine ⟨?_, ?_, ?_⟩ <;> first | assumption | (simp; assumption))))
          case u81 =>
            clear hK K
            (try simp only [Act.put, List.setIfInBounds_toArray, List.set_cons_zero, List.set_cons_succ])
            refine wpAnyH_ready (rs := [10]) (by kernel_rfl) (by simp) ?_
            refine AllReadyH.cons (o := ?o82) ?g82 (fun K hK => ?s82) ?m82
            case g82 => (simp only [List.getElem?_toArray, List.getElem?_cons_succ, List.getElem?_cons_zero]; try rfl)
            case s82 =>
              go_simp
              refine hK.out _ _ ?t82 (fun hHeld => ?u82)
              case t82 => ((try dsimp only); try (first | go_keep | (refine ⟨?_, ?_, ?_⟩ <;> first | assumption | (simp; assumption))))
              case u82 =>
                clear hK K
                (try simp only [Act.put, List.setIfInBounds_toArray, List.set_cons_zero, List.set_cons_succ])
                refine wpAnyH_ready (rs := [25]) (by kernel_rfl) (by simp) ?_
                refine AllReadyH.cons (o := ?o83) ?g83 (fun K hK => ?s83) ?m83
                case g83 => (simp only [List.getElem?_toArray, List.getElem?_cons_succ, List.getElem?_cons_zero]; try rfl)
                case s83 =>
                  (refine step_append_lies _ rfl (.tmp 21) (.tmp 35) 64 rfl W.heap.size 82 i0 (.agg #[.string ⟨#[]⟩, .int .i64 0, .string ⟨#[]⟩]) 3 40 Tryz.underlying64 hi hz0 hz1 hz2 rfl (by decide) (.slice p r.lines.length c) r.lines.length (lnCells r.lines) rfl (by have := hst.rd.rln; rw [HX.out, HFL.out] at this; exact this.alloc _) ⟨w3.heap.size, 0, none⟩ 1 1 [.string fb, .int .i64 (no : Int), .string vb] rfl rfl (by exact World.news_of_block (cs := #[.string fb, .int .i64 (no : Int), .string vb]) (t := 82) (fr := (0, 0)) (heap_alloc_new w3 _)) (by simp [Value.oneCell']) (by omega) (by unfold maxLen; omega) (by omega) (by have := hst.rd.bel.size; simp; omega) (w3.heap.size + 1) (by simp) ?_; intro g cap w4 r1 r2 hat hlt; have hB4 : w4.heap[R]? = some (.cells (rdCells k x f2.count) 115 (0, 0)) := heap_old r2 (heap_alloc (o' := .cells #[.string fb, .int .i64 (no : Int), .string vb] 82) hst.rd.blk) HLR.out; have d6 : w4.cell? ⟨R, 6, none⟩ = some x.lv := cell_at hB4 rfl; have e6 := froz_at (j := 6) hB4; have t0 := (r2.cell_far ⟨s, 0, none⟩ (by simp; omega) (HLV.out s HNS.out)).trans (keep_cell (laidNew w3 _) q0); have t1 := (r2.cell_far ⟨w.heap.size, 0, none⟩ (by simp; omega) (HLV.out _ HBL.out)).trans (keep_cell (laidNew w3 _) q1); have t2 := (r2.cell_far ⟨w.heap.size, 1, none⟩ (by simp; omega) (HLV.out _ HBL.out)).trans (keep_cell (laidNew w3 _) q2))
                  refine hK.out _ _ ?t83 (fun hHeld => ?u83)
                  case t83 => ((try dsimp only); try (first | go_keep | (refine ⟨?_, ?_, ?_⟩ <;> first | assumption | (simp; assumption))))
                  case u83 =>
                    clear hK K
                    (try simp only [Act.put, List.setIfInBounds_toArray, List.set_cons_zero, List.set_cons_succ])
                    refine wpAnyH_take (i := 26) (oi := ?o84) (v := ?v84) ?g84 (by kernel_rfl) (by kernel_rfl) (by kernel_rfl) ?q84 (Or.inl ⟨?w84, ?y84⟩) hHeld ?r84
                    case g84 => (simp only [List.getElem?_toArray, List.getElem?_cons_succ, List.getElem?_cons_zero]; try rfl)
                    case q84 => exact fun _ _ _ h => h
                    case w84 => rfl
                    case y84 => (intro w hSw; (try dsimp only at hSw); go_simp; try with_reducible rfl)
                    (try simp only [Act.put, List.setIfInBounds_toArray, List.set_cons_zero, List.set_cons_succ])
                    refine wpAnyH_take (i := 27) (oi := ?o85) (v := ?v85) ?g85 (by kernel_rfl) (by kernel_rfl) (by kernel_rfl) ?q85 (Or.inl ⟨?w85, ?y85⟩) hHeld ?r85
                    case g85 => (simp only [List.getElem?_toArray, List.getElem?_cons_succ, List.getElem?_cons_zero]; try rfl)
                    case q85 => exact fun _ _ _ h => h
                    case w85 => rfl
                    case y85 => (intro w hSw; (try dsimp only at hSw); go_simp; try with_reducible rfl)
                    (try simp only [Act.put, List.setIfInBounds_toArray, List.set_cons_zero, List.set_cons_succ])
                    refine wpAnyH_ready (rs := [28]) (by kernel_rfl) (by simp) ?_
                    refine AllReadyH.cons (o := ?o86) ?g86 (fun K hK => ?s86) ?m86
                    case g86 => (simp only [List.getElem?_toArray, List.getElem?_cons_succ, List.getElem?_cons_zero]; try rfl)
                    case s86 =>
                      go_simp
                      refine hK.out _ _ ?t86 (fun hHeld => ?u86)
                      case t86 => ((try dsimp only); try (first | go_keep | (refine ⟨?_, ?_, ?_⟩ <;> first | assumption | (simp; assumption))))
                      case u86 =>
                        clear hK K
                        (try simp only [Act.put, List.setIfInBounds_toArray, List.set_cons_zero, List.set_cons_succ])
                        refine wpAnyH_done (by kernel_rfl) ?_ _
                        refine NoPanic.normal ?_
                        go_end0
                        have hat2 : x.lv.ownBlock = some g ∨ w3.heap.size ≤ g := by
                          rcases hat with e | e
                          · exact .inl (by rw [HX.out]; exact e)
                          · right; omega
                        have hE := hst.rd.said (laidNew w3 (.cells #[.string fb, .int .i64 (no : Int), .string vb] 82)) (w2 := w4) (file := fb.data.toList) (no := no) (text := f1) (g := g) (cap := cap) (by rw [HFL.out, bT_data, HVB.out, bT_data]; exact r1) (by rw [HX.out]; exact r2) hat2
                        refine ⟨rfl, ?_⟩
                        rw [← HFL.out]
                        exact ⟨_, ((hst.trans hE).ahead (behind B1.out (Below.refl _ _).drew)).mono (by omega)⟩
                    exact AllReadyH.nil
                exact AllReadyH.nil
            exact AllReadyH.nil
        exact AllReadyH.nil
    exact AllReadyH.nil
end Go.Proofs.YtbhlnemahhndoaaGreatDoor
