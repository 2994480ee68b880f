/- Merged: TakeM, FitL. -/
import Derived.Test.YtbhlnemahhndoaaGreatDoorU30
namespace Go.Proofs.YtbhlnemahhndoaaGreatDoor
open Go.RowKit Go.Maps
set_option maxRecDepth 100000

/-! ### a line is counted, and done -/
theorem pre_at (t : List UInt8) : Lib.hasPrefix t [64] = decide (t.head? = some 64) := by
  cases t with
  | nil => rfl
  | cons a t =>
    unfold Lib.hasPrefix
    by_cases h : a = 64
    · subst h; simp [List.isPrefixOf]
    · have : (64 == a) = false := by rw [beq_eq_false_iff_ne]; exact fun e => h e.symm
      simp [List.isPrefixOf, this, h]
def Rd.more (r : Rd) : Rd := { r with count := r.count + 1 }

set_option maxHeartbeats 8000000 in
theorem take_m (W : World) (R s K K' : Nat) (k : RdK) (srcs : List At) (x : RdV) (opn : List (List UInt8)) (r : Rd) (cv : Value) (cs : List CondP) (fb tb : ByteArray) (no : Nat) (w : World) (h : RdIs W R k srcs x K opn r w) (hs : SrcIs W R s fb.data.toList cv cs w)
    (ht : tb.size ≤ 100000) (hok : tb.data.toList.head? = some 64 → CutOk tb ∧ CutOk (bT (cutW tb.data.toList).2)) (hv : ∀ a ∈ r.attrs, a.2.size ≤ 100000)
    (hKK : K + 100001 ≤ K') (hK : K' < maxLen) (ho : opn.length ≤ 1000000) (hl : r.lines.length ≤ 1000000) (hd : r.diags.length ≤ 1000000) (hc : cs.length ≤ 1000000) (hn : r.count < 16384)
    (rec : List UInt8 → List UInt8 → Rd → Rd) (hrec : RecOk W R k srcs K x opn rec (bT (wordR tb.data.toList).2) r.more)
    (hlong : (lineL rec srcs opn fb.data.toList no tb.data.toList cs r.more).2.long = false) (hK2 : 100100 * (lineL rec srcs opn fb.data.toList no tb.data.toList cs r.more).2.count + 1000 ≤ K') :
    Calls Tryz.prog 177 #[.pointer (some ⟨s, 0, none⟩), .agg #[.string fb, .int .i64 (no : Int)], .string tb] w (Deed W R s k srcs fb.data.toList x cv w K' opn (lineL rec srcs opn fb.data.toList no tb.data.toList cs r.more)) := by
  obtain ⟨W1, hW1⟩ : ∃ W1, w.alloc (.cells #[.string fb, .int .i64 (no : Int)] 232) = W1 := ⟨_, rfl⟩
  have b1 : Below w.heap.size w W1 := by rw [← hW1]; exact laidNew _ _
  have z1 : W1.heap.size = w.heap.size + 1 := by rw [← hW1]; simp
  have p0 : W1.cell? ⟨w.heap.size, 0, none⟩ = some (.string fb) := by rw [← hW1, World.cell?_alloc_new]; rfl
  have p1 : W1.cell? ⟨w.heap.size, 1, none⟩ = some (.int .i64 (no : Int)) := by rw [← hW1, World.cell?_alloc_new]; rfl
  have h1 := h.below b1
  have hs1 := hs.below b1
  have d0 : W1.cell? ⟨s, 0, none⟩ = some (.pointer (some ⟨R, 0, none⟩)) := cell_at (j := 0) hs1.blk rfl
  have d5 : W1.cell? ⟨R, 5, none⟩ = some (.int .i64 (r.count : Int)) := h1.cells 5 _ rfl
  have e5 : W1.frozen? ⟨R, 5, none⟩ = false := h1.frozen 5
  have hR := (h.lt R (.inl rfl)).2
  have hRs : s ≠ R := fun e => (src_not_mine h hs).1 (.inl e)
  have q1 : ((r.count : Int) == 16384) = false := by rw [beq_eq_false_iff_ne]; omega
  have q2 : IntKind.i64.wrap ((r.count : Int) + 1) = (r.count : Int) + 1 := by rw [IntKind.wrap_i64]; omega
  obtain ⟨W2, hW2⟩ : ∃ W2, W1.setCell ⟨R, 5, none⟩ (.int .i64 ((r.count : Int) + 1)) = W2 := ⟨_, rfl⟩
  have hst : StepTo W R k srcs x W1 x K opn r.more W2 := by rw [← hW2]; exact h1.counted
  have p0' : W2.cell? ⟨w.heap.size, 0, none⟩ = some (.string fb) := (hst.kept.cell (p := ⟨w.heap.size, 0, none⟩) (by show w.heap.size < _; omega) (fun e => by have := (h.lt _ e).2; simp at this)).trans p0
  have p1' : W2.cell? ⟨w.heap.size, 1, none⟩ = some (.int .i64 (no : Int)) := (hst.kept.cell (p := ⟨w.heap.size, 1, none⟩) (by show w.heap.size < _; omega) (fun e => by have := (h.lt _ e).2; simp at this)).trans p1
  have z2 : W2.heap.size = w.heap.size + 1 := by rw [← hW2]; show (W1.heap.modify _ _).size = _; rw [Array.size_modify, z1]
  have hD := hst.deed h1 hs1
  have HP := fun w => (Tryz.strings_HasPrefix tb ⟨#[64]⟩ w).mono fun e w' h => (⟨h.1, h.2.symm⟩ : e = _ ∧ w = w')
  have hpre : Lib.hasPrefix tb.data.toList (⟨#[64]⟩ : ByteArray).data.toList = decide (tb.data.toList.head? = some 64) := pre_at _
  have B1 := Lib.hid b1
  have HST := Lib.hid hst
  have H1 := Lib.hid h1
  have HS1 := Lib.hid hs1
  have HQ : Hid (¬ Mine R k x (w.heap.size + 1)) := Lib.hid (fun e => by have := (h.lt _ e).2; omega)
  have HD := Lib.hid hD
  have H0 := Lib.hid h
  unfold lineV at *
  by_cases h64 : tb.data.toList.head? = some 64
  · have hw : wordR tb.data.toList = cutW tb.data.toList := by unfold wordR; rw [if_pos h64]
    rw [hpre, decide_eq_true h64] at HP
    obtain ⟨hok1, hok2⟩ := hok h64
    have hC := fun w2 => cut_c tb w2 (by omega) hok1
    unfold cutV at hC
    rw [hw] at hrec
    obtain ⟨wb, hwb⟩ : ∃ wb, bT (cutW tb.data.toList).1 = wb := ⟨_, rfl⟩
    obtain ⟨rb, hrb⟩ : ∃ rb, bT (cutW tb.data.toList).2 = rb := ⟨_, rfl⟩
    rw [hwb, hrb] at hC
    rw [hrb] at hrec hok2
    have hLI := fun w2 (h2 : RdIs W R k srcs x K opn r.more w2) (hs2 : SrcIs W R s fb.data.toList cv cs w2) => line_m W R s K K' k srcs x opn r.more cv cs fb tb wb rb no w2 h2 hs2 (by rw [hw, ← hwb]; rfl) (by rw [hw, ← hrb]; rfl) ht (fun _ => hok2) hv hKK hK ho hl hd hc rec hrec hlong hK2
    unfold lineV at hLI
    clear h hs h1 hs1 b1 hst hD hpre h64 hw hrec hok hlong hK2 hok1 hok2 hwb hrb
    go_enter Tryz.func177, Tryz.ntmps177
    go_wp2_with (first
      | (go_at_call 176; refine (HP _).mono ?_; rintro e w3 ⟨rfl, rfl⟩)
      | (go_at_call 171; refine (hC _).mono ?_; rintro e w4 ⟨rfl, hb4⟩; have aq := (hb4.block W2.heap.size (by simp)).trans (heap_new W2 _); rw [z2] at aq; have c0 := cell_at (j := 0) aq rfl; have c1 := cell_at (j := 1) aq rfl; have c2 := cell_at (j := 2) aq rfl; have c3 := cell_at (j := 3) aq rfl; have c4 := cell_at (j := 4) aq rfl; have f3 := froz_at (j := 3) aq; have f4 := froz_at (j := 4) aq)
      | (go_at_call 198; have hS5 := (((HST.out.below (behind (laidNew W2 _) hb4)).scratch H1.out (by omega) HQ.out 3 (.string wb)).scratch H1.out (by omega) HQ.out 4 (.string rb)).deed H1.out HS1.out; refine (hLI _ hS5.rd hS5.src).mono ?_; rintro e w6 ⟨rfl, x', cv', hst⟩))
    go_end0
    exact ⟨rfl, x', cv', ((hS5.trans hst).ahead B1.out)⟩
  · have hw : wordR tb.data.toList = ([], []) := by unfold wordR; rw [if_neg h64]
    rw [hpre, decide_eq_false h64] at HP
    have hLI := fun w2 (h2 : RdIs W R k srcs x K opn r.more w2) (hs2 : SrcIs W R s fb.data.toList cv cs w2) => line_m W R s K K' k srcs x opn r.more cv cs fb tb ⟨#[]⟩ ⟨#[]⟩ no w2 h2 hs2 (by rw [hw]) (by rw [hw]) ht (fun e => absurd e h64) hv hKK hK ho hl hd hc rec (by rw [hw] at hrec; exact hrec) hlong hK2
    unfold lineV at hLI
    clear h hs h1 hs1 b1 hst hD hpre h64 hw hrec hok hlong hK2
    go_enter Tryz.func177, Tryz.ntmps177
    go_wp2_with (first
      | (go_at_call 176; refine (HP _).mono ?_; rintro e w3 ⟨rfl, rfl⟩)
      | (go_at_call 198; refine (hLI _ (HD.out.rd.below (laidNew _ _)) (HD.out.src.below (laidNew _ _))).mono ?_; rintro e w4 ⟨rfl, x', cv', hst⟩))
    go_end0
    exact ⟨rfl, x', cv', ((HD.out.trans (hst.ahead (laidNew _ _))).ahead B1.out)⟩
end Go.Proofs.YtbhlnemahhndoaaGreatDoor
namespace Go.Proofs.YtbhlnemahhndoaaGreatDoor
open Go.RowKit

/-! ### how much there is, while sources are read -/
structure Fit (m f a : Nat) (r : Rd) : Prop where
  vals : ∀ x ∈ r.attrs, x.2.size ≤ 100000
  lns : r.lines.length + a ≤ r.count
  dgs : r.diags.length + m ≤ 2 * r.count
  fls : r.files.length ≤ r.count + f
  cnt : r.count ≤ 16384
section
variable {m f a : Nat} {r : Rd}
theorem Fit.weak (h : Fit m f a r) {m' f' a' : Nat} (h1 : m' ≤ m) (h2 : f ≤ f') (h3 : a' ≤ a) : Fit m' f' a' r := ⟨h.vals, by have := h.lns; omega, by have := h.dgs; omega, by have := h.fls; omega, h.cnt⟩
theorem Fit.more (h : Fit m 1 a r) (hc : r.count < 16384) : Fit (m + 2) 0 (a + 1) r.more := ⟨h.vals, by have := h.lns; show _ ≤ r.count + 1; show r.lines.length + _ ≤ _; omega, by have := h.dgs; show r.diags.length + _ ≤ 2 * (r.count + 1); omega, by have := h.fls; show r.files.length ≤ r.count + 1 + 0; omega, hc⟩
theorem Fit.tell (h : Fit (m + 1) f a r) (file : List UInt8) (no kd : Nat) (text : List UInt8) : Fit m f a (r.tell file no kd text) := ⟨h.vals, h.lns, by have := h.dgs; show (r.diags ++ [_]).length + _ ≤ 2 * r.count; simp; omega, h.fls, h.cnt⟩
theorem Fit.asks (h : Fit m f a r) (ns : List (List UInt8)) : Fit m f a (ns.foldl Rd.ask r) := by
  obtain ⟨e1, e2, e3, e4, e5, _, _⟩ := ask_fold ns r
  exact ⟨by rw [e1]; exact h.vals, by rw [e2, e5]; exact h.lns, by rw [e3, e5]; exact h.dgs, by rw [e4, e5]; exact h.fls, by rw [e5]; exact h.cnt⟩
theorem Fit.ask (h : Fit m f a r) (n : List UInt8) : Fit m f a (r.ask n) := h.asks [n]
theorem Fit.fill (h : Fit m f a r) (s : List UInt8) : Fit m f a (r.fill s).2 := h.asks _
theorem fill_cnt (r : Rd) (s : List UInt8) : (r.fill s).2.count = r.count := (ask_fold _ r).2.2.2.2.1
theorem Fit.turn (h : Fit m f a r) (n : List UInt8) {l : List At} (hl : ∀ x ∈ l, x.2.size ≤ 100000) : Fit m f a (r.turn n l) := by
  refine ⟨fun x hx => ?_, h.lns, h.dgs, h.fls, h.cnt⟩
  rcases List.mem_append.1 hx with hx | hx
  · exact hl x hx
  · exact h.vals x (List.mem_filter.1 hx).1
theorem set_vals {n v : ByteArray} (h : setE [] n v = 0) : ∀ x ∈ setL [] n v, x.2.size ≤ 100000 := by
  intro x hx
  unfold setL at hx
  rw [if_pos h] at hx
  have hx2 : x = (n, v) := by simpa [putL] using hx
  unfold setE at h
  split at h
  · rename_i h2
    simp only [Bool.and_eq_true, mayL, decide_eq_true_eq] at h2
    have e : v.data.toList.length = v.size := by simp
    rw [hx2]; show v.size ≤ _
    omega
  · cases h
/-- what a source that is taken in may do -/
def RecFit (rec : List UInt8 → List UInt8 → Rd → Rd) : Prop := ∀ file text r m, Fit m 0 0 r → (rec file text r).long = false → Fit m 1 0 (rec file text r) ∧ r.count ≤ (rec file text r).count
theorem fit_does {rec : List UInt8 → List UInt8 → Rd → Rd} (hrec : RecFit rec) (srcs : List At) (opn : List (List UInt8)) (file : List UInt8) (no : Nat) (line : List UInt8) (h : Fit (m + 1) 0 1 r) (hl : (doesL rec srcs opn file no line r).long = false) :
    Fit m 1 0 (doesL rec srcs opn file no line r) ∧ r.count ≤ (doesL rec srcs opn file no line r).count := by
  have ht : ∀ kd text, Fit m 1 0 (r.tell file no kd text) ∧ r.count ≤ (r.tell file no kd text).count := fun kd text => ⟨(h.tell file no kd text).weak (Nat.le_refl _) (by omega) (by omega), Nat.le_refl _⟩
  unfold doesL at hl ⊢
  by_cases h64 : line.head? ≠ some 64
  · rw [if_pos h64] at hl ⊢
    have h2 := h.fill (bareL line)
    have hc := fill_cnt r (bareL line)
    refine ⟨⟨h2.vals, ?_, by have := h2.dgs; show (r.fill (bareL line)).2.diags.length + m ≤ 2 * (r.fill (bareL line)).2.count; omega, by have := h2.fls; show (r.fill (bareL line)).2.files.length ≤ (r.fill (bareL line)).2.count + 1; omega, h2.cnt⟩, by show r.count ≤ (r.fill _).2.count; omega⟩
    have := h2.lns
    show ((r.fill (bareL line)).2.lines ++ [_]).length + 0 ≤ (r.fill (bareL line)).2.count
    simp; omega
  · rw [if_neg h64] at hl ⊢
    simp only at hl ⊢
    by_cases n4 : (cutW line).1 = wInclude
    · rw [if_pos n4] at hl ⊢
      by_cases c1 : checkB (cutW line).2 = false
      · rw [if_pos c1] at hl ⊢; exact ht _ _
      · rw [if_neg c1] at hl ⊢
        by_cases c2 : (cutW line).2 ∈ opn
        · rw [if_pos c2] at hl ⊢; exact ht _ _
        · rw [if_neg c2] at hl ⊢
          by_cases c3 : 16 ≤ opn.length
          · rw [if_pos c3] at hl ⊢; exact ht _ _
          · rw [if_neg c3] at hl ⊢
            cases hf : findL srcs (cutW line).2 with
            | none => rw [hf] at hl; exact ht _ _
            | some text =>
              rw [hf] at hl
              exact hrec _ _ _ m (h.weak (by omega) (by omega) (by omega)) hl
    · rw [if_neg n4] at hl ⊢
      by_cases n5 : (cutW line).1 = wSet
      · rw [if_pos n5] at hl ⊢
        have h2 := h.fill (cutW (cutW line).2).2
        have hc := fill_cnt r (cutW (cutW line).2).2
        split
        · rename_i e
          exact ⟨(h2.turn _ (set_vals e)).weak (by omega) (by omega) (by omega), by show r.count ≤ (r.fill _).2.count; omega⟩
        · exact ⟨(h2.tell _ _ _ _).weak (Nat.le_refl _) (by omega) (by omega), by show r.count ≤ (r.fill _).2.count; omega⟩
      · rw [if_neg n5] at hl ⊢
        by_cases n6 : (cutW line).1 = wUnset
        · rw [if_pos n6] at hl ⊢
          split
          · exact ⟨(h.turn _ (fun _ e => by cases e)).weak (by omega) (by omega) (by omega), Nat.le_refl _⟩
          · exact ht _ _
        · rw [if_neg n6] at hl ⊢; exact ht _ _
theorem fit_line {rec : List UInt8 → List UInt8 → Rd → Rd} (hrec : RecFit rec) (srcs : List At) (opn : List (List UInt8)) (file : List UInt8) (no : Nat) (line : List UInt8) (cs : List CondP) (h : Fit (m + cs.length) 1 0 r) (hc : r.count < 16384) (hl : (lineL rec srcs opn file no line cs r.more).2.long = false) :
    Fit (m + (lineL rec srcs opn file no line cs r.more).1.length) 1 0 (lineL rec srcs opn file no line cs r.more).2 ∧ r.count + 1 ≤ (lineL rec srcs opn file no line cs r.more).2.count := by
  have h2 := h.more hc
  have hcnt : r.more.count = r.count + 1 := rfl
  have ht : ∀ kd text, Fit (m + (cs.length + 1)) 0 1 (r.more.tell file no kd text) := fun kd text => (h2.weak (by omega) (by omega) (by omega)).tell file no kd text
  rw [lineL_eq] at hl ⊢
  by_cases n1 : (cutW line).1 = wIf
  · rw [if_pos n1] at hl ⊢
    rw [begins_eq]
    simp only [List.length_cons]
    by_cases hf : forceL cs = true
    · simp only [hf, if_true]
      unfold partsL
      cases askL r.more.attrs (cutW line).2 with
      | none => exact ⟨(ht _ _).weak (by omega) (by omega) (by omega), Nat.le_refl _⟩
      | some p =>
        obtain ⟨n, b⟩ := p
        by_cases h16 : 16 ≤ cs.length
        · simp only [h16, if_true]; exact ⟨(ht _ _).weak (by omega) (by omega) (by omega), Nat.le_refl _⟩
        · simp only [h16, if_false]
          refine ⟨(h2.ask n).weak (by omega) (by omega) (by omega), ?_⟩
          have : (r.more.ask n).count = r.more.count := (ask_lists r.more n).2.2.2
          omega
    · simp only [hf]; exact ⟨h2.weak (by omega) (by omega) (by omega), Nat.le_refl _⟩
  · rw [if_neg n1] at hl ⊢
    by_cases n2 : (cutW line).1 = wElse
    · rw [if_pos n2] at hl ⊢
      unfold elseL
      cases cs with
      | nil => exact ⟨(ht _ _).weak (by simp) (by omega) (by omega), Nat.le_refl _⟩
      | cons c t =>
        simp only
        split
        · exact ⟨(ht _ _).weak (by simp) (by omega) (by omega), Nat.le_refl _⟩
        · exact ⟨h2.weak (by simp) (by omega) (by omega), Nat.le_refl _⟩
    · rw [if_neg n2] at hl ⊢
      by_cases n3 : (cutW line).1 = wEnd
      · rw [if_pos n3] at hl ⊢
        unfold endL
        cases cs with
        | nil => exact ⟨(ht _ _).weak (by simp) (by omega) (by omega), Nat.le_refl _⟩
        | cons c t => exact ⟨h2.weak (by simp; omega) (by omega) (by omega), Nat.le_refl _⟩
      · rw [if_neg n3] at hl ⊢
        by_cases hf : forceL cs = true
        · rw [if_pos hf] at hl ⊢
          exact fit_does (m := m + cs.length) hrec srcs opn file no line (h2.weak (by omega) (Nat.le_refl _) (by omega)) hl
        · rw [if_neg hf] at hl ⊢
          exact ⟨h2.weak (m' := m + cs.length) (by omega) (by omega) (by omega), Nat.le_refl _⟩
theorem lines_long {rec : List UInt8 → List UInt8 → Rd → Rd} {srcs : List At} {opn : List (List UInt8)} {file : List UInt8} : ∀ {l : List (List UInt8)} {no : Nat} {cs : List CondP} {r : Rd}, (linesR rec srcs opn file l no cs r).2.long = false → r.long = false
  | [], _, _, _, h => h
  | x :: t, no, cs, r, h => by
    cases hl : r.long with
    | false => rfl
    | true =>
      unfold linesR at h
      rw [if_pos hl] at h
      rw [hl] at h; exact h
theorem lines_next {rec : List UInt8 → List UInt8 → Rd → Rd} {srcs : List At} {opn : List (List UInt8)} {file : List UInt8} {x : List UInt8} {t : List (List UInt8)} {no : Nat} {cs : List CondP} {r : Rd} (h : (linesR rec srcs opn file (x :: t) no cs r).2.long = false) :
    r.count ≠ 16384 ∧ linesR rec srcs opn file (x :: t) no cs r = linesR rec srcs opn file t (no + 1) (lineL rec srcs opn file no x cs r.more).1 (lineL rec srcs opn file no x cs r.more).2 := by
  have h0 := lines_long h
  by_cases hc : r.count = 16384
  · exfalso
    unfold linesR at h
    rw [if_neg (by rw [h0]; decide), if_pos hc] at h
    cases h
  · refine ⟨hc, ?_⟩
    rw [linesR, if_neg (by rw [h0]; decide), if_neg hc]; rfl
theorem fit_lines {rec : List UInt8 → List UInt8 → Rd → Rd} (hrec : RecFit rec) (srcs : List At) (opn : List (List UInt8)) (file : List UInt8) : ∀ (l : List (List UInt8)) (no : Nat) (cs : List CondP) (r : Rd), Fit (m + cs.length) 1 0 r → (linesR rec srcs opn file l no cs r).2.long = false →
    Fit (m + (linesR rec srcs opn file l no cs r).1.length) 1 0 (linesR rec srcs opn file l no cs r).2 ∧ r.count ≤ (linesR rec srcs opn file l no cs r).2.count
  | [], _, _, _, h, _ => ⟨h, Nat.le_refl _⟩
  | x :: t, no, cs, r, h, hl => by
    obtain ⟨hc, e⟩ := lines_next hl
    rw [e] at hl ⊢
    have h1 := fit_line hrec srcs opn file no x cs h (by have := h.cnt; omega) (lines_long hl)
    have h2 := fit_lines hrec srcs opn file t (no + 1) _ _ h1.1 hl
    exact ⟨h2.1, by omega⟩
theorem fit_tells (file : List UInt8) : ∀ (cs : List CondP) (r : Rd), Fit (m + cs.length) f a r → Fit m f a (cs.foldl (fun r c => r.tell file c.line 4 []) r) ∧ (cs.foldl (fun r c => r.tell file c.line 4 []) r).count = r.count ∧ (cs.foldl (fun r c => r.tell file c.line 4 []) r).long = r.long
  | [], _, h => ⟨h, rfl, rfl⟩
  | c :: t, r, h => by
    have := fit_tells file t (r.tell file c.line 4 []) ((h.weak (m' := m + t.length + 1) (by simp; omega) (Nat.le_refl _) (Nat.le_refl _)).tell _ _ _ _)
    exact ⟨this.1, this.2.1, this.2.2⟩
theorem tells_long (file : List UInt8) : ∀ (cs : List CondP) (r : Rd), (cs.foldl (fun r c => r.tell file c.line 4 []) r).long = r.long
  | [], _ => rfl
  | c :: t, r => tells_long file t (r.tell file c.line 4 [])
/-- the source's name among the files -/
def Rd.opens (r : Rd) (file : List UInt8) : Rd := if file ∈ r.files then r else { r with files := r.files ++ [file] }
theorem Fit.opens (h : Fit m 0 a r) (file : List UInt8) : Fit m 1 a (r.opens file) ∧ (r.opens file).count = r.count := by
  unfold Rd.opens
  split
  · exact ⟨h.weak (Nat.le_refl _) (by omega) (Nat.le_refl _), rfl⟩
  · exact ⟨⟨h.vals, h.lns, h.dgs, by have := h.fls; show (r.files ++ [file]).length ≤ r.count + 1; simp; omega, h.cnt⟩, rfl⟩
theorem read_eq (srcs : List At) (d : Nat) (opn : List (List UInt8)) (file text : List UInt8) (r : Rd) (hl : (readR srcs (d + 1) opn file text r).long = false) :
    (linesR (readR srcs d (opn ++ [file])) srcs (opn ++ [file]) file (linesL text) 1 [] (r.opens file)).2.long = false ∧
    readR srcs (d + 1) opn file text r = (linesR (readR srcs d (opn ++ [file])) srcs (opn ++ [file]) file (linesL text) 1 [] (r.opens file)).1.reverse.foldl (fun r c => r.tell file c.line 4 []) (linesR (readR srcs d (opn ++ [file])) srcs (opn ++ [file]) file (linesL text) 1 [] (r.opens file)).2 := by
  have e : readR srcs (d + 1) opn file text r = if (linesR (readR srcs d (opn ++ [file])) srcs (opn ++ [file]) file (linesL text) 1 [] (r.opens file)).2.long = true then (linesR (readR srcs d (opn ++ [file])) srcs (opn ++ [file]) file (linesL text) 1 [] (r.opens file)).2 else (linesR (readR srcs d (opn ++ [file])) srcs (opn ++ [file]) file (linesL text) 1 [] (r.opens file)).1.reverse.foldl (fun r c => r.tell file c.line 4 []) (linesR (readR srcs d (opn ++ [file])) srcs (opn ++ [file]) file (linesL text) 1 [] (r.opens file)).2 := rfl
  rw [e] at hl ⊢
  by_cases h : (linesR (readR srcs d (opn ++ [file])) srcs (opn ++ [file]) file (linesL text) 1 [] (r.opens file)).2.long = true
  · rw [if_pos h] at hl; rw [h] at hl; cases hl
  · exact ⟨by simpa using h, by rw [if_neg h]⟩
theorem fit_read (srcs : List At) : ∀ (d : Nat) (opn : List (List UInt8)), RecFit (readR srcs d opn)
  | 0, _ => fun _ _ _ _ h _ => ⟨h.weak (Nat.le_refl _) (by omega) (Nat.le_refl _), Nat.le_refl _⟩
  | d + 1, opn => fun file text r m h hl => by
    obtain ⟨h1, e⟩ := read_eq srcs d opn file text r hl
    rw [e]
    have h2 := h.opens file
    have h3 := fit_lines (m := m) (fit_read srcs d (opn ++ [file])) srcs (opn ++ [file]) file (linesL text) 1 [] (r.opens file) h2.1 h1
    have h4 := fit_tells (m := m) file (linesR (readR srcs d (opn ++ [file])) srcs (opn ++ [file]) file (linesL text) 1 [] (r.opens file)).1.reverse _ (by rw [List.length_reverse]; exact h3.1)
    exact ⟨h4.1, by rw [h4.2.1]; have := h2.2; omega⟩
end
end Go.Proofs.YtbhlnemahhndoaaGreatDoor
