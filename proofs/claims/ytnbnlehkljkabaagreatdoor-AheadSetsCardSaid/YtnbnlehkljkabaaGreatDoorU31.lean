/- Merged: TakeM, FitL, ReadM, AllM, SortM, AskedM. -/
import Derived.Test.YtnbnlehkljkabaaGreatDoorU30
import Derived.Deep.CutRange
import Derived.Tactics2
import Derived.Defers
import Derived.Recover
import Derived.Maps.RangeWalk
namespace Go.Proofs.YtnbnlehkljkabaaGreatDoor
open Go.RowKit Go.Maps
set_option maxRecDepth 100000

/-! ### a line is counted, and done -/
theorem pre_at (t : List UInt8) : Lib.hasPrefix t [64] = decide (t.head? = some 64) := by
  cases t with
  | nil => rfl
  | cons a t =>
    unfold Lib.hasPrefix
    by_cases h : a = 64
    · subst h; simp [List.isPrefixOf]
    · have : (64 == a) = false := by rw [beq_eq_false_iff_ne]; exact fun e => h e.symm
      simp [List.isPrefixOf, this, h]
def Rd.more (r : Rd) : Rd := { r with count := r.count + 1 }

set_option maxHeartbeats 8000000 in
theorem take_m (W : World) (R s K K' : Nat) (k : RdK) (srcs : List At) (x : RdV) (opn : List (List UInt8)) (r : Rd) (cv : Value) (cs : List CondP) (fb tb : ByteArray) (no : Nat) (w : World) (h : RdIs W R k srcs x K opn r w) (hs : SrcIs W R s fb.data.toList cv cs w)
    (ht : tb.size ≤ 100000) (hok : tb.data.toList.head? = some 64 → CutOk tb ∧ CutOk (bT (cutW tb.data.toList).2)) (hv : ∀ a ∈ r.attrs, a.2.size ≤ 100000)
    (hKK : K + 100001 ≤ K') (hK : K' < maxLen) (ho : opn.length ≤ 1000000) (hl : r.lines.length ≤ 1000000) (hd : r.diags.length ≤ 1000000) (hc : cs.length ≤ 1000000) (hn : r.count < 16384)
    (rec : List UInt8 → List UInt8 → Rd → Rd) (hrec : RecOk W R k srcs K x opn rec (bT (wordR tb.data.toList).2) r.more)
    (hlong : (lineL rec srcs opn fb.data.toList no tb.data.toList cs r.more).2.long = false) (hK2 : 100100 * (lineL rec srcs opn fb.data.toList no tb.data.toList cs r.more).2.count + 1000 ≤ K') :
    Calls Tryz.prog 177 #[.pointer (some ⟨s, 0, none⟩), .agg #[.string fb, .int .i64 (no : Int)], .string tb] w (Deed W R s k srcs fb.data.toList x cv w K' opn (lineL rec srcs opn fb.data.toList no tb.data.toList cs r.more)) := by
  obtain ⟨W1, hW1⟩ : ∃ W1, w.alloc (.cells #[.string fb, .int .i64 (no : Int)] 232) = W1 := ⟨_, rfl⟩
  have b1 : Below w.heap.size w W1 := by rw [← hW1]; exact laidNew _ _
  have z1 : W1.heap.size = w.heap.size + 1 := by rw [← hW1]; simp
  have p0 : W1.cell? ⟨w.heap.size, 0, none⟩ = some (.string fb) := by rw [← hW1, World.cell?_alloc_new]; rfl
  have p1 : W1.cell? ⟨w.heap.size, 1, none⟩ = some (.int .i64 (no : Int)) := by rw [← hW1, World.cell?_alloc_new]; rfl
  have h1 := h.below b1
  have hs1 := hs.below b1
  have d0 : W1.cell? ⟨s, 0, none⟩ = some (.pointer (some ⟨R, 0, none⟩)) := cell_at (j := 0) hs1.blk rfl
  have d5 : W1.cell? ⟨R, 5, none⟩ = some (.int .i64 (r.count : Int)) := h1.cells 5 _ rfl
  have e5 : W1.frozen? ⟨R, 5, none⟩ = false := h1.frozen 5
  have hR := (h.lt R (.inl rfl)).2
  have hRs : s ≠ R := fun e => (src_not_mine h hs).1 (.inl e)
  have q1 : ((r.count : Int) == 16384) = false := by rw [beq_eq_false_iff_ne]; omega
  have q2 : IntKind.i64.wrap ((r.count : Int) + 1) = (r.count : Int) + 1 := by rw [IntKind.wrap_i64]; omega
  obtain ⟨W2, hW2⟩ : ∃ W2, W1.setCell ⟨R, 5, none⟩ (.int .i64 ((r.count : Int) + 1)) = W2 := ⟨_, rfl⟩
  have hst : StepTo W R k srcs x W1 x K opn r.more W2 := by rw [← hW2]; exact h1.counted
  have p0' : W2.cell? ⟨w.heap.size, 0, none⟩ = some (.string fb) := (hst.kept.cell (p := ⟨w.heap.size, 0, none⟩) (by show w.heap.size < _; omega) (fun e => by have := (h.lt _ e).2; simp at this)).trans p0
  have p1' : W2.cell? ⟨w.heap.size, 1, none⟩ = some (.int .i64 (no : Int)) := (hst.kept.cell (p := ⟨w.heap.size, 1, none⟩) (by show w.heap.size < _; omega) (fun e => by have := (h.lt _ e).2; simp at this)).trans p1
  have z2 : W2.heap.size = w.heap.size + 1 := by rw [← hW2]; show (W1.heap.modify _ _).size = _; rw [Array.size_modify, z1]
  have hD := hst.deed h1 hs1
  have HP := fun w => (Tryz.strings_HasPrefix tb ⟨#[64]⟩ w).mono fun e w' h => (⟨h.1, h.2.symm⟩ : e = _ ∧ w = w')
  have hpre : Lib.hasPrefix tb.data.toList (⟨#[64]⟩ : ByteArray).data.toList = decide (tb.data.toList.head? = some 64) := pre_at _
  have B1 := Lib.hid b1
  have HST := Lib.hid hst
  have H1 := Lib.hid h1
  have HS1 := Lib.hid hs1
  have HQ : Hid (¬ Mine R k x (w.heap.size + 1)) := Lib.hid (fun e => by have := (h.lt _ e).2; omega)
  have HD := Lib.hid hD
  have H0 := Lib.hid h
  unfold lineV at *
  by_cases h64 : tb.data.toList.head? = some 64
  · have hw : wordR tb.data.toList = cutW tb.data.toList := by unfold wordR; rw [if_pos h64]
    rw [hpre, decide_eq_true h64] at HP
    obtain ⟨hok1, hok2⟩ := hok h64
    have hC := fun w2 => cut_c tb w2 (by omega) hok1
    unfold cutV at hC
    rw [hw] at hrec
    obtain ⟨wb, hwb⟩ : ∃ wb, bT (cutW tb.data.toList).1 = wb := ⟨_, rfl⟩
    obtain ⟨rb, hrb⟩ : ∃ rb, bT (cutW tb.data.toList).2 = rb := ⟨_, rfl⟩
    rw [hwb, hrb] at hC
    rw [hrb] at hrec hok2
    have hLI := fun w2 (h2 : RdIs W R k srcs x K opn r.more w2) (hs2 : SrcIs W R s fb.data.toList cv cs w2) => line_m W R s K K' k srcs x opn r.more cv cs fb tb wb rb no w2 h2 hs2 (by rw [hw, ← hwb]; rfl) (by rw [hw, ← hrb]; rfl) ht (fun _ => hok2) hv hKK hK ho hl hd hc rec hrec hlong hK2
    unfold lineV at hLI
    clear h hs h1 hs1 b1 hst hD hpre h64 hw hrec hok hlong hK2 hok1 hok2 hwb hrb
    go_enter Tryz.func177, Tryz.ntmps177
    go_wp2_with (first
      | (go_at_call 176; refine (HP _).mono ?_; rintro e w3 ⟨rfl, rfl⟩)
      | (go_at_call 171; refine (hC _).mono ?_; rintro e w4 ⟨rfl, hb4⟩; have aq := (hb4.block W2.heap.size (by simp)).trans (heap_new W2 _); rw [z2] at aq; have c0 := cell_at (j := 0) aq rfl; have c1 := cell_at (j := 1) aq rfl; have c2 := cell_at (j := 2) aq rfl; have c3 := cell_at (j := 3) aq rfl; have c4 := cell_at (j := 4) aq rfl; have f3 := froz_at (j := 3) aq; have f4 := froz_at (j := 4) aq)
      | (go_at_call 198; have hS5 := (((HST.out.below (behind (laidNew W2 _) hb4)).scratch H1.out (by omega) HQ.out 3 (.string wb)).scratch H1.out (by omega) HQ.out 4 (.string rb)).deed H1.out HS1.out; refine (hLI _ hS5.rd hS5.src).mono ?_; rintro e w6 ⟨rfl, x', cv', hst⟩))
    go_end0
    exact ⟨rfl, x', cv', ((hS5.trans hst).ahead B1.out)⟩
  · have hw : wordR tb.data.toList = ([], []) := by unfold wordR; rw [if_neg h64]
    rw [hpre, decide_eq_false h64] at HP
    have hLI := fun w2 (h2 : RdIs W R k srcs x K opn r.more w2) (hs2 : SrcIs W R s fb.data.toList cv cs w2) => line_m W R s K K' k srcs x opn r.more cv cs fb tb ⟨#[]⟩ ⟨#[]⟩ no w2 h2 hs2 (by rw [hw]) (by rw [hw]) ht (fun e => absurd e h64) hv hKK hK ho hl hd hc rec (by rw [hw] at hrec; exact hrec) hlong hK2
    unfold lineV at hLI
    clear h hs h1 hs1 b1 hst hD hpre h64 hw hrec hok hlong hK2
    go_enter Tryz.func177, Tryz.ntmps177
    go_wp2_with (first
      | (go_at_call 176; refine (HP _).mono ?_; rintro e w3 ⟨rfl, rfl⟩)
      | (go_at_call 198; refine (hLI _ (HD.out.rd.below (laidNew _ _)) (HD.out.src.below (laidNew _ _))).mono ?_; rintro e w4 ⟨rfl, x', cv', hst⟩))
    go_end0
    exact ⟨rfl, x', cv', ((HD.out.trans (hst.ahead (laidNew _ _))).ahead B1.out)⟩
end Go.Proofs.YtnbnlehkljkabaaGreatDoor
namespace Go.Proofs.YtnbnlehkljkabaaGreatDoor
open Go.RowKit

/-! ### how much there is, while sources are read -/
structure Fit (m f a : Nat) (r : Rd) : Prop where
  vals : ∀ x ∈ r.attrs, x.2.size ≤ 100000
  lns : r.lines.length + a ≤ r.count
  dgs : r.diags.length + m ≤ 2 * r.count
  fls : r.files.length ≤ r.count + f
  cnt : r.count ≤ 16384
section
variable {m f a : Nat} {r : Rd}
theorem Fit.weak (h : Fit m f a r) {m' f' a' : Nat} (h1 : m' ≤ m) (h2 : f ≤ f') (h3 : a' ≤ a) : Fit m' f' a' r := ⟨h.vals, by have := h.lns; omega, by have := h.dgs; omega, by have := h.fls; omega, h.cnt⟩
theorem Fit.more (h : Fit m 1 a r) (hc : r.count < 16384) : Fit (m + 2) 0 (a + 1) r.more := ⟨h.vals, by have := h.lns; show _ ≤ r.count + 1; show r.lines.length + _ ≤ _; omega, by have := h.dgs; show r.diags.length + _ ≤ 2 * (r.count + 1); omega, by have := h.fls; show r.files.length ≤ r.count + 1 + 0; omega, hc⟩
theorem Fit.tell (h : Fit (m + 1) f a r) (file : List UInt8) (no kd : Nat) (text : List UInt8) : Fit m f a (r.tell file no kd text) := ⟨h.vals, h.lns, by have := h.dgs; show (r.diags ++ [_]).length + _ ≤ 2 * r.count; simp; omega, h.fls, h.cnt⟩
theorem Fit.asks (h : Fit m f a r) (ns : List (List UInt8)) : Fit m f a (ns.foldl Rd.ask r) := by
  obtain ⟨e1, e2, e3, e4, e5, _, _⟩ := ask_fold ns r
  exact ⟨by rw [e1]; exact h.vals, by rw [e2, e5]; exact h.lns, by rw [e3, e5]; exact h.dgs, by rw [e4, e5]; exact h.fls, by rw [e5]; exact h.cnt⟩
theorem Fit.ask (h : Fit m f a r) (n : List UInt8) : Fit m f a (r.ask n) := h.asks [n]
theorem Fit.fill (h : Fit m f a r) (s : List UInt8) : Fit m f a (r.fill s).2 := h.asks _
theorem fill_cnt (r : Rd) (s : List UInt8) : (r.fill s).2.count = r.count := (ask_fold _ r).2.2.2.2.1
theorem Fit.turn (h : Fit m f a r) (n : List UInt8) {l : List At} (hl : ∀ x ∈ l, x.2.size ≤ 100000) : Fit m f a (r.turn n l) := by
  refine ⟨fun x hx => ?_, h.lns, h.dgs, h.fls, h.cnt⟩
  rcases List.mem_append.1 hx with hx | hx
  · exact hl x hx
  · exact h.vals x (List.mem_filter.1 hx).1
theorem set_vals {n v : ByteArray} (h : setE [] n v = 0) : ∀ x ∈ setL [] n v, x.2.size ≤ 100000 := by
  intro x hx
  unfold setL at hx
  rw [if_pos h] at hx
  have hx2 : x = (n, v) := by simpa [putL] using hx
  unfold setE at h
  split at h
  · rename_i h2
    simp only [Bool.and_eq_true, mayL, decide_eq_true_eq] at h2
    have e : v.data.toList.length = v.size := by simp
    rw [hx2]; show v.size ≤ _
    omega
  · cases h
/-- what a source that is taken in may do -/
def RecFit (rec : List UInt8 → List UInt8 → Rd → Rd) : Prop := ∀ file text r m, Fit m 0 0 r → (rec file text r).long = false → Fit m 1 0 (rec file text r) ∧ r.count ≤ (rec file text r).count
theorem fit_does {rec : List UInt8 → List UInt8 → Rd → Rd} (hrec : RecFit rec) (srcs : List At) (opn : List (List UInt8)) (file : List UInt8) (no : Nat) (line : List UInt8) (h : Fit (m + 1) 0 1 r) (hl : (doesL rec srcs opn file no line r).long = false) :
    Fit m 1 0 (doesL rec srcs opn file no line r) ∧ r.count ≤ (doesL rec srcs opn file no line r).count := by
  have ht : ∀ kd text, Fit m 1 0 (r.tell file no kd text) ∧ r.count ≤ (r.tell file no kd text).count := fun kd text => ⟨(h.tell file no kd text).weak (Nat.le_refl _) (by omega) (by omega), Nat.le_refl _⟩
  unfold doesL at hl ⊢
  by_cases h64 : line.head? ≠ some 64
  · rw [if_pos h64] at hl ⊢
    have h2 := h.fill (bareL line)
    have hc := fill_cnt r (bareL line)
    refine ⟨⟨h2.vals, ?_, by have := h2.dgs; show (r.fill (bareL line)).2.diags.length + m ≤ 2 * (r.fill (bareL line)).2.count; omega, by have := h2.fls; show (r.fill (bareL line)).2.files.length ≤ (r.fill (bareL line)).2.count + 1; omega, h2.cnt⟩, by show r.count ≤ (r.fill _).2.count; omega⟩
    have := h2.lns
    show ((r.fill (bareL line)).2.lines ++ [_]).length + 0 ≤ (r.fill (bareL line)).2.count
    simp; omega
  · rw [if_neg h64] at hl ⊢
    simp only at hl ⊢
    by_cases n4 : (cutW line).1 = wInclude
    · rw [if_pos n4] at hl ⊢
      by_cases c1 : checkB (cutW line).2 = false
      · rw [if_pos c1] at hl ⊢; exact ht _ _
      · rw [if_neg c1] at hl ⊢
        by_cases c2 : (cutW line).2 ∈ opn
        · rw [if_pos c2] at hl ⊢; exact ht _ _
        · rw [if_neg c2] at hl ⊢
          by_cases c3 : 16 ≤ opn.length
          · rw [if_pos c3] at hl ⊢; exact ht _ _
          · rw [if_neg c3] at hl ⊢
            cases hf : findL srcs (cutW line).2 with
            | none => rw [hf] at hl; exact ht _ _
            | some text =>
              rw [hf] at hl
              exact hrec _ _ _ m (h.weak (by omega) (by omega) (by omega)) hl
    · rw [if_neg n4] at hl ⊢
      by_cases n5 : (cutW line).1 = wSet
      · rw [if_pos n5] at hl ⊢
        have h2 := h.fill (cutW (cutW line).2).2
        have hc := fill_cnt r (cutW (cutW line).2).2
        split
        · rename_i e
          exact ⟨(h2.turn _ (set_vals e)).weak (by omega) (by omega) (by omega), by show r.count ≤ (r.fill _).2.count; omega⟩
        · exact ⟨(h2.tell _ _ _ _).weak (Nat.le_refl _) (by omega) (by omega), by show r.count ≤ (r.fill _).2.count; omega⟩
      · rw [if_neg n5] at hl ⊢
        by_cases n6 : (cutW line).1 = wUnset
        · rw [if_pos n6] at hl ⊢
          split
          · exact ⟨(h.turn _ (fun _ e => by cases e)).weak (by omega) (by omega) (by omega), Nat.le_refl _⟩
          · exact ht _ _
        · rw [if_neg n6] at hl ⊢; exact ht _ _
theorem fit_line {rec : List UInt8 → List UInt8 → Rd → Rd} (hrec : RecFit rec) (srcs : List At) (opn : List (List UInt8)) (file : List UInt8) (no : Nat) (line : List UInt8) (cs : List CondP) (h : Fit (m + cs.length) 1 0 r) (hc : r.count < 16384) (hl : (lineL rec srcs opn file no line cs r.more).2.long = false) :
    Fit (m + (lineL rec srcs opn file no line cs r.more).1.length) 1 0 (lineL rec srcs opn file no line cs r.more).2 ∧ r.count + 1 ≤ (lineL rec srcs opn file no line cs r.more).2.count := by
  have h2 := h.more hc
  have hcnt : r.more.count = r.count + 1 := rfl
  have ht : ∀ kd text, Fit (m + (cs.length + 1)) 0 1 (r.more.tell file no kd text) := fun kd text => (h2.weak (by omega) (by omega) (by omega)).tell file no kd text
  rw [lineL_eq] at hl ⊢
  by_cases n1 : (cutW line).1 = wIf
  · rw [if_pos n1] at hl ⊢
    rw [begins_eq]
    simp only [List.length_cons]
    by_cases hf : forceL cs = true
    · simp only [hf, if_true]
      unfold partsL
      cases askL r.more.attrs (cutW line).2 with
      | none => exact ⟨(ht _ _).weak (by omega) (by omega) (by omega), Nat.le_refl _⟩
      | some p =>
        obtain ⟨n, b⟩ := p
        by_cases h16 : 16 ≤ cs.length
        · simp only [h16, if_true]; exact ⟨(ht _ _).weak (by omega) (by omega) (by omega), Nat.le_refl _⟩
        · simp only [h16, if_false]
          refine ⟨(h2.ask n).weak (by omega) (by omega) (by omega), ?_⟩
          have : (r.more.ask n).count = r.more.count := (ask_lists r.more n).2.2.2
          omega
    · simp only [hf]; exact ⟨h2.weak (by omega) (by omega) (by omega), Nat.le_refl _⟩
  · rw [if_neg n1] at hl ⊢
    by_cases n2 : (cutW line).1 = wElse
    · rw [if_pos n2] at hl ⊢
      unfold elseL
      cases cs with
      | nil => exact ⟨(ht _ _).weak (by simp) (by omega) (by omega), Nat.le_refl _⟩
      | cons c t =>
        simp only
        split
        · exact ⟨(ht _ _).weak (by simp) (by omega) (by omega), Nat.le_refl _⟩
        · exact ⟨h2.weak (by simp) (by omega) (by omega), Nat.le_refl _⟩
    · rw [if_neg n2] at hl ⊢
      by_cases n3 : (cutW line).1 = wEnd
      · rw [if_pos n3] at hl ⊢
        unfold endL
        cases cs with
        | nil => exact ⟨(ht _ _).weak (by simp) (by omega) (by omega), Nat.le_refl _⟩
        | cons c t => exact ⟨h2.weak (by simp; omega) (by omega) (by omega), Nat.le_refl _⟩
      · rw [if_neg n3] at hl ⊢
        by_cases hf : forceL cs = true
        · rw [if_pos hf] at hl ⊢
          exact fit_does (m := m + cs.length) hrec srcs opn file no line (h2.weak (by omega) (Nat.le_refl _) (by omega)) hl
        · rw [if_neg hf] at hl ⊢
          exact ⟨h2.weak (m' := m + cs.length) (by omega) (by omega) (by omega), Nat.le_refl _⟩
theorem lines_long {rec : List UInt8 → List UInt8 → Rd → Rd} {srcs : List At} {opn : List (List UInt8)} {file : List UInt8} : ∀ {l : List (List UInt8)} {no : Nat} {cs : List CondP} {r : Rd}, (linesR rec srcs opn file l no cs r).2.long = false → r.long = false
  | [], _, _, _, h => h
  | x :: t, no, cs, r, h => by
    cases hl : r.long with
    | false => rfl
    | true =>
      unfold linesR at h
      rw [if_pos hl] at h
      rw [hl] at h; exact h
theorem lines_next {rec : List UInt8 → List UInt8 → Rd → Rd} {srcs : List At} {opn : List (List UInt8)} {file : List UInt8} {x : List UInt8} {t : List (List UInt8)} {no : Nat} {cs : List CondP} {r : Rd} (h : (linesR rec srcs opn file (x :: t) no cs r).2.long = false) :
    r.count ≠ 16384 ∧ linesR rec srcs opn file (x :: t) no cs r = linesR rec srcs opn file t (no + 1) (lineL rec srcs opn file no x cs r.more).1 (lineL rec srcs opn file no x cs r.more).2 := by
  have h0 := lines_long h
  by_cases hc : r.count = 16384
  · exfalso
    unfold linesR at h
    rw [if_neg (by rw [h0]; decide), if_pos hc] at h
    cases h
  · refine ⟨hc, ?_⟩
    rw [linesR, if_neg (by rw [h0]; decide), if_neg hc]; rfl
theorem fit_lines {rec : List UInt8 → List UInt8 → Rd → Rd} (hrec : RecFit rec) (srcs : List At) (opn : List (List UInt8)) (file : List UInt8) : ∀ (l : List (List UInt8)) (no : Nat) (cs : List CondP) (r : Rd), Fit (m + cs.length) 1 0 r → (linesR rec srcs opn file l no cs r).2.long = false →
    Fit (m + (linesR rec srcs opn file l no cs r).1.length) 1 0 (linesR rec srcs opn file l no cs r).2 ∧ r.count ≤ (linesR rec srcs opn file l no cs r).2.count
  | [], _, _, _, h, _ => ⟨h, Nat.le_refl _⟩
  | x :: t, no, cs, r, h, hl => by
    obtain ⟨hc, e⟩ := lines_next hl
    rw [e] at hl ⊢
    have h1 := fit_line hrec srcs opn file no x cs h (by have := h.cnt; omega) (lines_long hl)
    have h2 := fit_lines hrec srcs opn file t (no + 1) _ _ h1.1 hl
    exact ⟨h2.1, by omega⟩
theorem fit_tells (file : List UInt8) : ∀ (cs : List CondP) (r : Rd), Fit (m + cs.length) f a r → Fit m f a (cs.foldl (fun r c => r.tell file c.line 4 []) r) ∧ (cs.foldl (fun r c => r.tell file c.line 4 []) r).count = r.count ∧ (cs.foldl (fun r c => r.tell file c.line 4 []) r).long = r.long
  | [], _, h => ⟨h, rfl, rfl⟩
  | c :: t, r, h => by
    have := fit_tells file t (r.tell file c.line 4 []) ((h.weak (m' := m + t.length + 1) (by simp; omega) (Nat.le_refl _) (Nat.le_refl _)).tell _ _ _ _)
    exact ⟨this.1, this.2.1, this.2.2⟩
theorem tells_long (file : List UInt8) : ∀ (cs : List CondP) (r : Rd), (cs.foldl (fun r c => r.tell file c.line 4 []) r).long = r.long
  | [], _ => rfl
  | c :: t, r => tells_long file t (r.tell file c.line 4 [])
/-- the source's name among the files -/
def Rd.opens (r : Rd) (file : List UInt8) : Rd := if file ∈ r.files then r else { r with files := r.files ++ [file] }
theorem Fit.opens (h : Fit m 0 a r) (file : List UInt8) : Fit m 1 a (r.opens file) ∧ (r.opens file).count = r.count := by
  unfold Rd.opens
  split
  · exact ⟨h.weak (Nat.le_refl _) (by omega) (Nat.le_refl _), rfl⟩
  · exact ⟨⟨h.vals, h.lns, h.dgs, by have := h.fls; show (r.files ++ [file]).length ≤ r.count + 1; simp; omega, h.cnt⟩, rfl⟩
theorem read_eq (srcs : List At) (d : Nat) (opn : List (List UInt8)) (file text : List UInt8) (r : Rd) (hl : (readR srcs (d + 1) opn file text r).long = false) :
    (linesR (readR srcs d (opn ++ [file])) srcs (opn ++ [file]) file (linesL text) 1 [] (r.opens file)).2.long = false ∧
    readR srcs (d + 1) opn file text r = (linesR (readR srcs d (opn ++ [file])) srcs (opn ++ [file]) file (linesL text) 1 [] (r.opens file)).1.reverse.foldl (fun r c => r.tell file c.line 4 []) (linesR (readR srcs d (opn ++ [file])) srcs (opn ++ [file]) file (linesL text) 1 [] (r.opens file)).2 := by
  have e : readR srcs (d + 1) opn file text r = if (linesR (readR srcs d (opn ++ [file])) srcs (opn ++ [file]) file (linesL text) 1 [] (r.opens file)).2.long = true then (linesR (readR srcs d (opn ++ [file])) srcs (opn ++ [file]) file (linesL text) 1 [] (r.opens file)).2 else (linesR (readR srcs d (opn ++ [file])) srcs (opn ++ [file]) file (linesL text) 1 [] (r.opens file)).1.reverse.foldl (fun r c => r.tell file c.line 4 []) (linesR (readR srcs d (opn ++ [file])) srcs (opn ++ [file]) file (linesL text) 1 [] (r.opens file)).2 := rfl
  rw [e] at hl ⊢
  by_cases h : (linesR (readR srcs d (opn ++ [file])) srcs (opn ++ [file]) file (linesL text) 1 [] (r.opens file)).2.long = true
  · rw [if_pos h] at hl; rw [h] at hl; cases hl
  · exact ⟨by simpa using h, by rw [if_neg h]⟩
theorem fit_read (srcs : List At) : ∀ (d : Nat) (opn : List (List UInt8)), RecFit (readR srcs d opn)
  | 0, _ => fun _ _ _ _ h _ => ⟨h.weak (Nat.le_refl _) (by omega) (Nat.le_refl _), Nat.le_refl _⟩
  | d + 1, opn => fun file text r m h hl => by
    obtain ⟨h1, e⟩ := read_eq srcs d opn file text r hl
    rw [e]
    have h2 := h.opens file
    have h3 := fit_lines (m := m) (fit_read srcs d (opn ++ [file])) srcs (opn ++ [file]) file (linesL text) 1 [] (r.opens file) h2.1 h1
    have h4 := fit_tells (m := m) file (linesR (readR srcs d (opn ++ [file])) srcs (opn ++ [file]) file (linesL text) 1 [] (r.opens file)).1.reverse _ (by rw [List.length_reverse]; exact h3.1)
    exact ⟨h4.1, by rw [h4.2.1]; have := h2.2; omega⟩
end
end Go.Proofs.YtnbnlehkljkabaaGreatDoor
namespace Go.Proofs.YtnbnlehkljkabaaGreatDoor
open Go.RowKit Go.Maps
set_option maxRecDepth 100000

/-! ### a source is read -/
theorem stInfo : (Tryz.prog.info? 9).map (fun i => (i.zero, i.size, i.bytes)) = some (some (.string ⟨#[]⟩), 1, 16) := by kernel_rfl
def TextOk (t : ByteArray) : Prop := t.size ≤ 100000 ∧ ∀ l ∈ linesL t.data.toList, l.head? = some 64 → CutOk (bT l) ∧ CutOk (bT (cutW l).2)
def Kof (r : Rd) : Nat := 100100 * r.count + 1000
def ReadOk (W : World) (R : Nat) (k : RdK) (srcs : List At) (d : Nat) : Prop := ∀ (opn : List (List UInt8)) (x : RdV) (m : Nat) (r : Rd) (fb tb : ByteArray) (w : World), opn.length + d = 17 → 0 < d → RdIs W R k srcs x (Kof r) opn r w → Fit m 0 0 r → TextOk tb → (readR srcs d opn fb.data.toList tb.data.toList r).long = false →
  Calls Tryz.prog 156 #[.pointer (some ⟨R, 0, none⟩), .string fb, .string tb] w (fun e w' => e = .returned (.tuple #[]) ∧ ∃ x', StepTo W R k srcs x w x' (Kof (readR srcs d opn fb.data.toList tb.data.toList r)) opn (readR srcs d opn fb.data.toList tb.data.toList r) w')

theorem linesF_len : ∀ (s cur : List UInt8), ∀ l ∈ linesF cur s, l.length ≤ cur.length + s.length
  | [], cur, l, h => by
    unfold linesF at h
    split at h
    · cases h
    · simp only [List.mem_singleton] at h; subst h; simp
  | c :: s, cur, l, h => by
    unfold linesF at h
    split at h
    · rcases List.mem_cons.1 h with h | h
      · subst h; simp
      · have := linesF_len s [] l h; simp at this ⊢; omega
    · have := linesF_len s (cur ++ [c]) l h; simp at this ⊢; omega
theorem line_len (s : List UInt8) : ∀ l ∈ linesL s, l.length ≤ s.length := fun l h => by have := linesF_len s [] l h; simpa using this
section
variable {W w w5 w8 wc : World} {R s K0 K : Nat} {k : RdK} {srcs : List At} {file : List UInt8} {x xB x' : RdV} {cv' : Value} {opn' o2 : List (List UInt8)} {cs : List CondP} {r0 r' : Rd}
theorem StepTo.source (hO : StepTo W R k srcs x w xB K0 opn' r0 wc) (hb : Below wc.heap.size wc w5) (hS : SStep W R s k srcs file xB (.slice none 0 0) w5 x' cv' K o2 cs r' w8) (hs : wc.heap.size ≤ s) : StepTo W R k srcs x w x' K o2 r' w8 := by
  have hz := hO.kept.size
  have hz2 := hb.size
  refine ⟨hS.rd, kept_wide (hO.below hb).kept hS.kept ?_, fun b e => ?_⟩
  · rintro i (e | e | e)
    · exact hO.mine i e
    · right; omega
    · cases e
  · rcases hS.mine b (.inl e) with (e2 | e2 | e2) | e2
    · exact hO.mine b e2
    · right; omega
    · cases e2
    · right; omega
end

theorem cd_at (file : List UInt8) : ∀ (cs : List CondP) (kk : Nat) (c : CondP), cs.reverse[kk]? = some c → ∀ j, j < 5 → (cdCells file cs)[kk * 5 + j]? = (cdCell file c)[j]?
  | [], kk, c, h, j, hj => by simp at h
  | a :: t, kk, c, h, j, hj => by
    unfold cdCells
    rw [List.reverse_cons] at h
    by_cases hk : kk < t.length
    · rw [List.getElem?_append_left (by simpa using hk)] at h
      rw [List.getElem?_append_left (by rw [cdCells_length]; omega)]
      exact cd_at file t kk c h j hj
    · rw [List.getElem?_append_right (by simpa using hk)] at h
      have h0 : kk = t.length := by
        have := (List.getElem?_eq_some_iff.1 h).1
        simp at this; omega
      subst h0
      simp only [List.length_reverse, Nat.sub_self, List.getElem?_cons_zero, Option.some.injEq] at h
      subst h
      rw [List.getElem?_append_right (by rw [cdCells_length]; omega), cdCells_length, Nat.add_sub_cancel_left]
theorem tells_diags (file : List UInt8) : ∀ (l : List CondP) (r : Rd), (l.foldl (fun r c => r.tell file c.line 4 []) r).diags.length = r.diags.length + l.length
  | [], _ => rfl
  | c :: t, r => by rw [List.foldl_cons, tells_diags file t]; show (r.diags ++ [_]).length + _ = _; simp; omega
theorem tells_count (file : List UInt8) : ∀ (l : List CondP) (r : Rd), (l.foldl (fun r c => r.tell file c.line 4 []) r).count = r.count
  | [], _ => rfl
  | c :: t, r => by rw [List.foldl_cons, tells_count file t]; rfl

set_option maxHeartbeats 8000000 in
theorem read_step (W : World) (R : Nat) (k : RdK) (srcs : List At) (hsrc : ∀ a ∈ srcs, TextOk a.2) (d : Nat) (ih : ReadOk W R k srcs d) : ReadOk W R k srcs (d + 1) := by
  intro opn x m r fb tb w hod _ h hfit hT hlong
  obtain ⟨i0, hi, hz0, hz1, hz2⟩ := info_parts stInfo
  obtain ⟨p0, c0, hov⟩ := row_slice h.rop
  obtain ⟨p1, c1, hfv⟩ := row_slice h.rfl'
  have hrop := h.rop
  rw [hov] at hrop
  have hR := (h.lt R (.inl rfl)).2
  have d4 : w.cell? ⟨R, 4, none⟩ = some (.slice p0 opn.length c0) := h.cells 4 _ (by rw [← hov]; rfl)
  have hnR : (Value.slice p0 opn.length c0).ownBlock ≠ some R := by rw [← hov]; exact h.ov_R
  have hB : W.heap.size ≤ w.heap.size := h.bel.size
  have hOp : ∀ g cap w2, w2.ownsRow W.heap.size 9 1 (.slice (some ⟨g, 0, none⟩) (opn.length + 1) cap) (opn.length + 1) (opn.map strV ++ [.string fb]) → (w.alloc (.cells #[.string fb] 9)).grownBy w2 (Value.slice p0 opn.length c0).ownBlock → ((Value.slice p0 opn.length c0).ownBlock = some g ∨ g = w.heap.size + 1) →
      ∃ xA, xA.fv = x.fv ∧ StepTo W R k srcs x w xA (Kof r) (opn ++ [fb.data.toList]) r (w2.setCell ⟨R, 4, none⟩ (.slice (some ⟨g, 0, none⟩) (opn.length + 1) cap)) := fun g cap w2 r1 r2 hat =>
    ⟨{ x with ov := .slice (some ⟨g, 0, none⟩) (opn.length + 1) cap }, rfl, h.opened (file := fb.data.toList) (laidNew w (.cells #[.string fb] 9)) (by rw [bT_data]; exact r1) (by rw [hov]; exact r2) (by rcases hat with e | e; exact .inl (by rw [hov]; exact e); right; omega)⟩
  have HB := Lib.hid h.blk
  have HF := Lib.hid hfv
  have hfl : r.files.length ≤ 1000000 := by have := hfit.fls; have := hfit.cnt; omega
  have HH := Lib.hid h
  have HO := Lib.hid hov
  have HR0 := Lib.hid hrop
  have hol : opn.length ≤ 16 := by omega
  obtain ⟨hfl2, hre⟩ := read_eq srcs d opn fb.data.toList tb.data.toList r hlong
  have hfo := hfit.opens fb.data.toList
  have HRE := Lib.hid hre
  have HFL := Lib.hid hfl2
  have HFO := Lib.hid hfo
  have HT := Lib.hid hT
  have HSRC := Lib.hid hsrc
  have HIH := Lib.hid ih
  have htz := hT.1
  obtain ⟨rZ, hrZ⟩ : ∃ rZ, readR srcs (d + 1) opn fb.data.toList tb.data.toList r = rZ := ⟨_, rfl⟩
  have HRZ := Lib.hid hrZ
  rw [hrZ]
  clear h hrop hlong hfit hT hsrc ih hfl2 hre hfo hrZ
  go_enter Tryz.func156, Tryz.ntmps156
  go_upto_if 27 with (first
    | (at_builtin; refine wpList_append_lies _ rfl (.tmp 15) (.tmp 17) 25 rfl W.heap.size 9 i0 (.string ⟨#[]⟩) 1 16 Tryz.underlying25 hi hz0 hz1 hz2 rfl (by decide) (.slice p0 opn.length c0) opn.length (opn.map strV) rfl (by exact HR0.out.alloc _) ⟨w.heap.size, 0, none⟩ 1 1 [.string fb] rfl rfl (by exact World.news_of_block (cs := #[.string fb]) (t := 9) (fr := (0, 0)) (heap_alloc_new w _)) (by simp [Value.oneCell']) (by omega) (by unfold maxLen; omega) (by omega) (by simp; omega) (w.heap.size + 1) (by simp) ?_; intro g cap w2 r1 r2 hat hlt; have hB2 := heap_old r2 (heap_alloc (o' := .cells #[.string fb] 9) HB.out) hnR; have e4 := cell_at (j := 4) hB2 rfl; have f4 := froz_at (j := 4) hB2; have e8 : w2.cell? ⟨R, 8, none⟩ = some (.slice p1 r.files.length c1) := cell_at (j := 8) hB2 (by rw [← HF.out]; rfl); obtain ⟨xA, hxA, hO⟩ := hOp g cap w2 r1 r2 hat)
    | (go_at_call 170; refine (contains_c W.heap.size (.slice p1 r.files.length c1) r.files fb _ (by have := hO.rd.rfl'; rw [hxA, HF.out] at this; exact this) hfl).mono ?_; rintro e w4 ⟨rfl, hb4⟩; have hO4 := hO.below hb4; have j8 : w4.cell? ⟨R, 8, none⟩ = some (.slice p1 r.files.length c1) := hO4.rd.cells 8 _ (by rw [← HF.out, ← hxA]; rfl)))
  go_cut [] from 26 to 37 (fun wx => ∃ xB, StepTo W R k srcs x w xB (Kof r) (opn ++ [fb.data.toList]) (r.opens fb.data.toList) wx)
  case first =>
    by_cases hin : fb.data.toList ∈ r.files
    · have hb : decide (fb.data.toList ∈ r.files) = true := decide_eq_true hin
      have hop : r.opens fb.data.toList = r := by unfold Rd.opens; rw [if_pos hin]
      simp only [hb]
      go_wp2_with fail
      go_meet
      exact ⟨_, by rw [hop]; exact hO4⟩
    · have hb : decide (fb.data.toList ∈ r.files) = false := decide_eq_false hin
      have hop : r.opens fb.data.toList = { r with files := r.files ++ [fb.data.toList] } := by unfold Rd.opens; rw [if_neg hin]
      simp only [hb]
      have hRf : w4.ownsRow W.heap.size 9 1 (.slice p1 r.files.length c1) r.files.length (r.files.map strV) := by have := hO4.rd.rfl'; rw [hxA, HF.out] at this; exact this
      have hB4 := hO4.rd.bel.size
      have hBk := hO4.rd.blk
      have hR4 : R < w4.heap.size := heap_lt hBk
      have hnF : (Value.slice p1 r.files.length c1).ownBlock ≠ some R := by rw [← HF.out, ← hxA]; exact hO4.rd.fv_R
      have HBk := Lib.hid hBk
      clear hBk
      go_wp2_with (at_builtin; refine wpList_append_lies _ rfl (.tmp 32) (.tmp 34) 25 rfl W.heap.size 9 i0 (.string ⟨#[]⟩) 1 16 Tryz.underlying25 hi hz0 hz1 hz2 rfl (by decide) (.slice p1 r.files.length c1) r.files.length (r.files.map strV) rfl (by exact hRf.alloc _) ⟨w4.heap.size, 0, none⟩ 1 1 [.string fb] rfl rfl (by exact World.news_of_block (cs := #[.string fb]) (t := 9) (fr := (0, 0)) (heap_alloc_new w4 _)) (by simp [Value.oneCell']) (by omega) (by unfold maxLen; omega) (by omega) (by simp; omega) (w4.heap.size + 1) (by simp) ?_; intro g2 cap2 w5 r3 r4 hat2 hlt2; have hB5 := heap_old r4 (heap_alloc (o' := .cells #[.string fb] 9) HBk.out) hnF; have k8 : w5.cell? ⟨R, 8, none⟩ = some (.slice p1 r.files.length c1) := cell_at (j := 8) hB5 (by rw [← HF.out, ← hxA]; rfl); have f8 := froz_at (j := 8) hB5)
      go_meet
      have hS := hO4.rd.filed (file := fb.data.toList) (laidNew w4 (.cells #[.string fb] 9)) (by rw [bT_data]; exact r3) (by rw [hxA, HF.out]; exact r4) (by rcases hat2 with e | e; exact .inl (by rw [hxA, HF.out]; exact e); right; omega)
      exact ⟨_, by rw [hop]; exact hO4.trans hS⟩
  case rest =>
    obtain ⟨xB, hO⟩ := hcut
    have hOB := hO.rd.bel.size
    have HOB := Lib.hid hO
    obtain ⟨w3, hw3⟩ : ∃ w3, wc.alloc (.cells #[.pointer (some ⟨R, 0, none⟩), .slice none 0 0] 241) = w3 := ⟨_, rfl⟩
    have b3 : Below wc.heap.size wc w3 := by rw [← hw3]; exact laidNew _ _
    have z3 : w3.heap.size = wc.heap.size + 1 := by rw [← hw3]; simp
    have k3 : w3.heap[wc.heap.size]? = some (.cells #[.pointer (some ⟨R, 0, none⟩), .slice none 0 0] 241 (0, 0)) := by rw [← hw3]; exact heap_new _ _
    have hs3 : SrcIs W R wc.heap.size fb.data.toList (.slice none 0 0) [] w3 := ⟨k3, ⟨rfl, .inl ⟨rfl, rfl⟩⟩, trivial, hOB⟩
    have hLn := lines_c tb w3 (by omega)
    clear hO
    go_wp2_with (go_at_call 23; refine hLn.mono ?_; rintro e w5 ⟨lv, rfl, hrow, hb5⟩; obtain ⟨p2, c2, hlv⟩ := row_slice hrow; subst hlv)
    obtain ⟨ls, hls⟩ : ∃ ls, linesL tb.data.toList = ls := ⟨_, rfl⟩
    rw [hls] at hrow
    rw [hls]
    have hlen : ∀ l ∈ ls, l.length ≤ 100000 := fun l hl => by
      have h1 := line_len tb.data.toList l (by rw [hls]; exact hl)
      have h2 : tb.data.toList.length = tb.size := by simp
      omega
    have hln : ls.length ≤ 1000000 := by
      have h1 := lines_len [] tb.data.toList
      have h2 : tb.data.toList.length = tb.size := by simp
      rw [← hls]; show (linesF [] _).length ≤ _; omega
    have hok : ∀ l ∈ ls, l.head? = some 64 → CutOk (bT l) ∧ CutOk (bT (cutW l).2) := fun l hl => HT.out.2 l (by rw [hls]; exact hl)
    have HLS := Lib.hid hls
    have hcl : ∀ kk (hk : kk < ls.length), ∃ b, p2 = some ⟨b, 0, none⟩ ∧ w3.heap.size ≤ b ∧ b < w5.heap.size ∧ w5.cell? ⟨b, kk, none⟩ = some (.string (bT ls[kk])) := fun kk hk => by
      obtain ⟨b, cap, cur, hv, -, hbk, hlo, -⟩ := row_here hrow (by omega)
      simp only [Value.slice.injEq] at hv
      obtain ⟨rfl, -, rfl⟩ := hv
      exact ⟨b, rfl, hlo, heap_lt hbk, row_cell hrow kk _ (by rw [List.getElem?_map, List.getElem?_eq_getElem hk]; rfl)⟩
    have hb35 := behind b3 hb5
    have hS5 : SStep W R wc.heap.size k srcs fb.data.toList xB (.slice none 0 0) w5 xB (.slice none 0 0) (Kof (r.opens fb.data.toList)) (opn ++ [fb.data.toList]) [] (r.opens fb.data.toList) w5 :=
      SStep.refl (by have e : Kof (r.opens fb.data.toList) = Kof r := by unfold Kof; rw [HFO.out.2]
                     rw [e]; exact HOB.out.rd.below hb35) (hs3.below hb5)
    obtain ⟨fin, hfin⟩ : ∃ fin, linesR (readR srcs d (opn ++ [fb.data.toList])) srcs (opn ++ [fb.data.toList]) fb.data.toList ls 1 [] (r.opens fb.data.toList) = fin := ⟨_, rfl⟩
    have hfl := HFL.out
    have hre := HRE.out
    rw [hls, hfin] at hfl hre
    have HFI := Lib.hid hfin
    have HFL2 := Lib.hid hfl
    have HRE2 := Lib.hid hre
    have HS5 := Lib.hid hS5
    have HLEN := Lib.hid hlen
    have HOK := Lib.hid hok
    have hFO1 := HFO.out.1
    have HF1 : Hid (Fit (m + ([] : List CondP).length) 1 0 (r.opens fb.data.toList)) := Lib.hid (by simpa using hFO1)
    have hz5 : w3.heap.size ≤ w5.heap.size := hb5.size
    have HB35 := Lib.hid hb35
    have hol2 : (opn ++ [fb.data.toList]).length = opn.length + 1 := by simp
    have hnoT : ∀ b, w3.heap.size ≤ b → b < w5.heap.size → ¬ Touch R wc.heap.size k xB (.slice none 0 0) b := by
      rintro b h1 h2 (e | e | e)
      · have := (HOB.out.rd.lt b e).2; omega
      · omega
      · cases e
    have HNT := Lib.hid hnoT
    clear hfin hfl hre hS5 hlen hok hFO1 hb35 hnoT hs3 hls
    generalize hopn : opn ++ [fb.data.toList] = opn' at *
    go_loopw [44] (fun i wr => ∃ (kk : Nat) (cs : List CondP) (rk : Rd) (xk : RdV) (cvk : Value), kk ≤ ls.length ∧ i = .int .i64 kk ∧ linesR (readR srcs d opn') srcs opn' fb.data.toList (ls.drop kk) (kk + 1) cs rk = fin ∧ Fit (m + cs.length) 1 0 rk ∧ SStep W R wc.heap.size k srcs fb.data.toList xB (.slice none 0 0) w5 xk cvk (Kof rk) opn' cs rk wr) (fun i _ => ls.length - (intOf i).toNat)
    case atStart => exact ⟨0, [], r.opens fb.data.toList, xB, _, by omega, rfl, HFI.out, HF1.out, HS5.out⟩
    case round =>
      obtain ⟨kk, cs, rk, xk, cvk, hk, rfl, hlr, hft, hst⟩ := hrel
      by_cases hlk : kk < ls.length
      · obtain ⟨b, rfl, hb1, hb2, hc1⟩ := hcl kk hlk
        have hdr : ls.drop kk = ls[kk] :: ls.drop (kk + 1) := List.drop_eq_getElem_cons hlk
        have hfl := HFL2.out
        rw [← hlr, hdr] at hfl
        obtain ⟨hcn, hst2⟩ := lines_next hfl
        rw [hst2] at hfl
        rw [hdr, hst2] at hlr
        have hll := lines_long hfl
        have hcnt : rk.count < 16384 := by have := hft.cnt; omega
        have hfn := fit_line (fit_read srcs d opn') srcs opn' fb.data.toList (kk + 1) ls[kk] cs hft hcnt hll
        have hc2 : wr.cell? ⟨b, kk, none⟩ = some (.string (bT ls[kk])) := (hst.kept.cell (p := ⟨b, kk, none⟩) hb2 (HNT.out b hb1 hb2)).trans hc1
        have hlz := HLEN.out ls[kk] (List.getElem_mem hlk)
        have hlk2 := HOK.out ls[kk] (List.getElem_mem hlk)
        have hw1 : IntKind.i64.wrap ((kk : Int) + 1) = (kk : Int) + 1 := by rw [IntKind.wrap_i64]; omega
        have hTK := take_m W R wc.heap.size (Kof rk) (Kof (lineL (readR srcs d opn') srcs opn' fb.data.toList (kk + 1) ls[kk] cs rk.more).2) k srcs xk opn' rk cvk cs fb (bT ls[kk]) (kk + 1) wr hst.rd hst.src
          (by rw [bT_size]; exact hlz) hlk2 hft.vals (by unfold Kof; have := hfn.2; omega) (by unfold Kof maxLen; have := hfn.1.cnt; omega) (by omega) (by have := hft.lns; omega) (by have := hft.dgs; have := hft.cnt; omega) (by have := hft.dgs; have := hft.cnt; omega) hcnt
          (readR srcs d opn')
          (fun hck hni h16 text hf hlg w2 h2 => by
            obtain ⟨a, ha, ea⟩ := get_in (l := srcs) (n := bT (wordR (bT ls[kk]).data.toList).2) (v := bT text) (by
              unfold findL at hf
              cases hg : getL srcs (bT (bT (wordR (bT ls[kk]).data.toList).2).data.toList) with
              | none => rw [hg] at hf; cases hf
              | some v => rw [hg] at hf; simp only [Option.map_some, Option.some.injEq] at hf; rw [← hf, bT_data]; exact hg)
            have hTx : TextOk (bT text) := by rw [← ea]; exact HSRC.out a ha
            exact HIH.out opn' xk (m + cs.length) rk.more _ (bT text) w2 (by omega) (by omega) (h2.mono (by show 100100 * rk.count + 1000 ≤ 100100 * (rk.count + 1) + 1000; omega)) ((hft.more hcnt).weak (by omega) (Nat.le_refl _) (by omega)) hTx hlg)
          hll (by unfold Kof; exact Nat.le_refl _)
        have HLR := Lib.hid hlr
        have HFN := Lib.hid hfn
        have HSTT := Lib.hid hst
        clear hlr hft hst hfl hst2 hll hdr hfn hlk2
        simp only [Int.natCast_add] at hTK
        go_wp2_with (go_at_call 177; refine hTK.mono ?_; rintro e w6 ⟨rfl, x', cv', hst⟩)
        go_roundw
        case rel => exact ⟨kk + 1, _, _, x', cv', by omega, by go_num, HLR.out, HFN.out.1, HSTT.out.trans hst⟩
        case measure => simp [intOf]; omega
      · have hdr : ls.drop kk = [] := List.drop_eq_nil_of_le (by omega)
        rw [hdr] at hlr
        have hlr2 : (cs, rk) = fin := hlr
        subst hlr2
        have hre := HRE2.out
        have hsb := hst.src
        obtain ⟨p3, c3, hcv⟩ := row_slice hsb.row
        subst hcv
        have s1 : wr.cell? ⟨wc.heap.size, 1, none⟩ = some (.slice p3 cs.length c3) := cell_at (j := 1) hsb.blk rfl
        have hcsz : cs.length ≤ 1000000 := by have := hft.dgs; have := hft.cnt; omega
        have hrl : cs.reverse.length = cs.length := List.length_reverse
        have HST := Lib.hid hst
        have HFT := Lib.hid hft
        have HRE3 := Lib.hid hre
        have HSB := Lib.hid hsb
        clear hst hft hre hsb hlr
        go_wp2
        go_loopw [62] (fun i w2 => ∃ (k2 : Nat) (x2 : RdV), k2 ≤ cs.length ∧ i = .int .i64 k2 ∧ SStep W R wc.heap.size k srcs fb.data.toList xB (.slice none 0 0) w5 x2 (.slice p3 cs.length c3) (Kof rk) opn' cs ((cs.reverse.take k2).foldl (fun r c => r.tell fb.data.toList c.line 4 []) rk) w2) (fun i _ => cs.length - (intOf i).toNat)
        case atStart => exact ⟨0, xk, by omega, rfl, by simpa using HST.out⟩
        case round =>
          obtain ⟨k2, x2, hk2, rfl, hst2⟩ := hrel
          by_cases hlk2 : k2 < cs.length
          · have hr2 := hst2.src.row
            obtain ⟨g3, c3', cur3, hv3, -, -, -⟩ := row_here hr2 (by omega)
            simp only [Value.slice.injEq] at hv3
            obtain ⟨rfl, -, -⟩ := hv3
            obtain ⟨c, hc⟩ : ∃ c, cs.reverse[k2]? = some c := ⟨cs.reverse[k2], List.getElem?_eq_getElem (by omega)⟩
            have hcc := fun (j : Nat) (hj : j < 5) (u : Value) (hu : (cdCell fb.data.toList c)[j]? = some u) => (row_cell hr2 (k2 * 5 + j) u (by rw [cd_at _ _ _ _ hc j hj]; exact hu) : wr.cell? ⟨g3, k2 * 5 + j, none⟩ = some u)
            have v0 : wr.cell? ⟨g3, k2 * 5, none⟩ = some (.string fb) := hcc 0 (by omega) (.string fb) (by unfold cdCell; rw [bT_data]; rfl)
            have v1 := hcc 1 (by omega) (.int .i64 (c.line : Int)) rfl
            have v2 := hcc 2 (by omega) (.bool c.first) rfl
            have v3 := hcc 3 (by omega) (.bool c.other) rfl
            have v4 := hcc 4 (by omega) (.int .i64 (if c.else1 = true then 1 else 0)) rfl
            generalize (if c.else1 = true then (1 : Int) else 0) = ev at v4
            have s0 : wr.cell? ⟨wc.heap.size, 0, none⟩ = some (.pointer (some ⟨R, 0, none⟩)) := cell_at (j := 0) hst2.src.blk rfl
            have hsl2 := heap_lt hst2.src.blk
            have hdg : ((cs.reverse.take k2).foldl (fun r c => r.tell fb.data.toList c.line 4 []) rk).diags.length ≤ 1000000 := by
              rw [tells_diags, List.length_take]; have := HFT.out.dgs; have := HFT.out.cnt; omega
            have HTK : Hid (cs.reverse.take (k2 + 1) = cs.reverse.take k2 ++ [c]) := Lib.hid (by
              rw [List.take_add_one, hc]; rfl)
            have HS2 := Lib.hid hst2
            have hTL := fun w3 (hb : Below wr.heap.size wr w3) => tell_c W R (Kof rk) k srcs x2 opn' _ fb ⟨#[]⟩ c.line 4 w3 (hst2.rd.below hb) hdg
            clear hst2 hr2 hcc hc hdg
            generalize hr2g : (cs.reverse.take k2).foldl (fun r c => r.tell fb.data.toList c.line 4 []) rk = r2 at *
            go_wp2
            obtain ⟨w7, hw7⟩ : ∃ w7, wr.alloc (.cells #[.string fb, .int .i64 (c.line : Int), .bool c.first, .bool c.other, .int .i64 ev] 237) = w7 := ⟨_, rfl⟩
            rw [hw7]
            have b7 : Below wr.heap.size wr w7 := by rw [← hw7]; exact laidNew _ _
            have g0 : w7.cell? ⟨wr.heap.size, 0, none⟩ = some (.string fb) := by rw [← hw7, World.cell?_alloc_new]; rfl
            have g1 : w7.cell? ⟨wr.heap.size, 1, none⟩ = some (.int .i64 (c.line : Int)) := by rw [← hw7, World.cell?_alloc_new]; rfl
            have s7 := keep_cell b7 s0
            have z7 : wr.heap.size < w7.heap.size := by rw [← hw7]; simp
            clear hw7 v0 v1 v2 v3 v4 s0
            go_still_tail 6, (by kernel_rfl)
            change wpList _ _ _ _ _ w7.drew
            have hT7 := hTL w7.drew (behind b7 (Below.refl _ _).drew)
            go_wp2_with (go_at_call 168; refine hT7.mono ?_; rintro e w8 ⟨rfl, x', hst3⟩)
            go_roundw
            case rel => exact ⟨k2 + 1, x', by omega, by go_num, by
              rw [HTK.out, List.foldl_append, hr2g]
              exact HS2.out.trans ((hst3.ahead (behind b7 (Below.refl _ _).drew)).deed HS2.out.rd HS2.out.src)⟩
            case measure => simp [intOf]; omega
          · have ht2 : cs.reverse.take k2 = cs.reverse := List.take_of_length_le (by omega)
            rw [ht2] at hst2
            have hopl : opn'.length = opn.length + 1 := hol2
            obtain ⟨p4, c4, hv4⟩ := row_slice hst2.rd.rop
            have hrp := hst2.rd.rop
            rw [hv4] at hrp
            obtain ⟨g4, c4', cur4, hv5, hle4, -, -⟩ := row_here hrp (by omega)
            simp only [Value.slice.injEq] at hv5
            obtain ⟨rfl, -, rfl⟩ := hv5
            have r4 : wr.cell? ⟨R, 4, none⟩ = some (.slice (some ⟨g4, 0, none⟩) (opn.length + 1) c4) := hst2.rd.cells 4 _ (by rw [← hopl, ← hv4]; rfl)
            have r5 := hst2.rd.frozen 4
            have e2 : IntKind.i64.wrap (opn.length : Int) = (opn.length : Int) := by rw [IntKind.wrap_i64]; omega
            have e3 : (opn.length : Int) ≤ (c4 : Int) := by omega
            have hRl : R < wr.heap.size := heap_lt hst2.rd.blk
            have hcl2 := hst2.rd.closed hopn.symm hv4
            have hfin := (HOB.out.source HB35.out hst2 (Nat.le_refl _)).trans hcl2
            have hk1 : Kof rZ = Kof rk := by rw [← HRZ.out, HRE3.out]; unfold Kof; rw [tells_count]
            have hrr : (cs.reverse).foldl (fun r c => r.tell fb.data.toList c.line 4 []) rk = rZ := by rw [← HRZ.out, HRE3.out]
            rw [hrr, ← hk1] at hfin
            have HFN := Lib.hid hfin
            clear hst2 hrp hcl2 hfin hrr hk1
            go_wp2
            go_region_law (fail)
            all_goals go_end0
            all_goals exact ⟨rfl, _, HFN.out.below (Below.refl _ _).drew⟩
theorem read_ok (W : World) (R : Nat) (k : RdK) (srcs : List At) (hsrc : ∀ a ∈ srcs, TextOk a.2) : ∀ d, ReadOk W R k srcs d
  | 0 => fun _ _ _ _ _ _ _ _ h => absurd h (by omega)
  | d + 1 => read_step W R k srcs hsrc d (read_ok W R k srcs hsrc d)
end Go.Proofs.YtnbnlehkljkabaaGreatDoor
namespace Go.Proofs.YtnbnlehkljkabaaGreatDoor
open Go.RowKit Go.Maps
set_option maxRecDepth 100000

/-! ### a source is read, and the run goes on -/
theorem catch_idle (w : World) :
    CallsD Tryz.prog 155 #[] .returning w fun e u' w' => e = .returned (.tuple #[]) ∧ u' = .returning ∧ w' = w := by
  refine callsD_of_wpS Tryz.func155 rfl fun c₀ cs hu => ?_
  apply wpS_seq
  apply wpS_region
  simp [wpOpsS, go_sem, recoverD, hu, Tryz.ntmps155, Exit.thenS]
  apply wpS_seq
  apply wpS_region
  simp [wpOpsS, go_sem, Exit.thenS]
  refine wpS_cond (t := false) (by simp [Act.eval, Array.replicate]) ?_
  simp only [Bool.false_eq_true, if_false]
  refine wpS_of_wp (wp_skip ?_)
  cases c₀
  simp_all [bodyPostS, results, Tryz.results155]

set_option maxHeartbeats 2000000 in
theorem all_m (W : World) (R : Nat) (k : RdK) (srcs : List At) (hsrc : ∀ a ∈ srcs, TextOk a.2) (x : RdV) (r : Rd) (fb tb : ByteArray) (w : World) (h : RdIs W R k srcs x (Kof r) [] r w) (hfit : Fit 0 0 0 r) (hT : TextOk tb) (hlong : (readR srcs 17 [] fb.data.toList tb.data.toList r).long = false) :
    Calls Tryz.prog 105 #[.pointer (some ⟨R, 0, none⟩), .string fb, .string tb] w (fun e w' => e = .returned (.tuple #[]) ∧ ∃ x', StepTo W R k srcs x w x' (Kof (readR srcs 17 [] fb.data.toList tb.data.toList r)) [] (readR srcs 17 [] fb.data.toList tb.data.toList r) w') := by
  have hC := read_ok W R k srcs hsrc 17 [] x 0 r fb tb w rfl (by omega) h hfit hT hlong
  clear h hfit hT hlong
  go_enter_defers Tryz.func105, Tryz.ntmps105
  go_wp2_with (go_at_call 156; refine hC.mono ?_; rintro e w3 ⟨rfl, x', hst⟩)
  refine leaves_cons (f := 155) (args := #[]) (by simp) (by simp [go_sem]) ?_
  refine (catch_idle _).mono ?_
  rintro e u' w'' ⟨rfl, rfl, rfl⟩
  simp [Leaves, settle, results, Tryz.results105, go_sem]
  exact ⟨x', hst⟩
end Go.Proofs.YtnbnlehkljkabaaGreatDoor
namespace Go.Proofs.YtnbnlehkljkabaaGreatDoor
open Go.RowKit Go.Maps
set_option maxRecDepth 100000

/-! ### texts that are one at the most are in order -/
set_option maxHeartbeats 4000000 in
theorem ins_small (n : Int) (hn : n = 0 ∨ n = 1) (v : Value) (w : World) : Calls Tryz.prog 199 #[v, .int .i64 0, .int .i64 n] w fun e w' => e = .returned (.tuple #[]) ∧ w' = w := by
  rcases hn with rfl | rfl
  · go_enter Tryz.func199, Tryz.ntmps199
    go_wp2
    refine wp_loop_rounds 1 ?_
    rw [rounds_succ]
    go_wp2
    go_end0
    exact ⟨rfl, rfl⟩
  · go_enter Tryz.func199, Tryz.ntmps199
    go_wp2
    refine wp_loop_rounds 1 ?_
    rw [rounds_succ]
    go_wp2
    go_end0
    exact ⟨rfl, rfl⟩
set_option maxHeartbeats 4000000 in
theorem pdq_small (n : Int) (hn : n = 0 ∨ n = 1) (l : Int) (v : Value) (w : World) : Calls Tryz.prog 178 #[v, .int .i64 0, .int .i64 n, .int .i64 l] w fun e w' => e = .returned (.tuple #[]) ∧ w' = w := by
  have hI := fun w => ins_small n hn v w
  rcases hn with rfl | rfl
  · go_enter Tryz.func178, Tryz.ntmps178
    go_wp2
    refine wp_loop_rounds 1 ?_
    rw [rounds_succ]
    go_wp2_with (go_at_call 199; refine (hI _).mono ?_; rintro e w2 ⟨rfl, rfl⟩)
    first | go_end0 | refine bodyPost_ret (results_none rfl _ _ _) rfl ?_
    exact ⟨rfl, rfl⟩
  · go_enter Tryz.func178, Tryz.ntmps178
    go_wp2
    refine wp_loop_rounds 1 ?_
    rw [rounds_succ]
    go_wp2_with (go_at_call 199; refine (hI _).mono ?_; rintro e w2 ⟨rfl, rfl⟩)
    first | go_end0 | refine bodyPost_ret (results_none rfl _ _ _) rfl ?_
    exact ⟨rfl, rfl⟩
set_option maxHeartbeats 4000000 in
theorem sort_small (p : Option Addr) (c : Nat) (n : Nat) (hn : n = 0 ∨ n = 1) (w : World) : Calls Tryz.prog 157 #[.slice p n c] w fun e w' => e = .returned (.tuple #[]) ∧ Below w.heap.size w w' := by
  have hP := fun l w => pdq_small (n : Int) (by omega) l (.slice p n c) w
  rcases hn with rfl | rfl
  · go_enter Tryz.func157, Tryz.ntmps157
    go_wp2_with (first | (go_at_call 178; refine (hP _ _).mono ?_; rintro e w2 ⟨rfl, rfl⟩) | go_in)
    go_end0
    exact ⟨rfl, Below.refl _ _⟩
  · go_enter Tryz.func157, Tryz.ntmps157
    go_wp2_with (first | (go_at_call 178; refine (hP _ _).mono ?_; rintro e w2 ⟨rfl, rfl⟩) | go_in)
    go_end0
    exact ⟨rfl, Below.refl _ _⟩
end Go.Proofs.YtnbnlehkljkabaaGreatDoor
namespace Go.Proofs.YtnbnlehkljkabaaGreatDoor
open Go.RowKit Go.Maps
set_option maxRecDepth 100000

/-! ### the names that were asked for, where there is at most one -/
def dnL (asked : List (List UInt8)) (left : Lit → Bool) : List (List UInt8) := asked.filter fun a => !left (.string a)
theorem key_inv {x : ByteArray} {kl : Lit} (h : keyOf Tryz.prog 9 (.string x) = some kl) : kl = .string x.data.toList ∧ x.size ≤ maxLen := by
  simp [keyOf, Tryz.underlying9, mapKey] at h
  exact ⟨h.2.symm, h.1⟩
theorem asked_has {D : DataW Value} {r : Rd} (h : AttIs D r) {a : List UInt8} (ha : a ∈ r.asked) : Maps.has D (.string a) = true := by
  cases hh : Maps.has D (.string a) with
  | true => rfl
  | false =>
    have h1 := h.2 a
    rw [atKey_of_not_has hh] at h1
    unfold attZ attV at h1
    simp [ha] at h1
theorem dn_start {D : DataW Value} {r : Rd} (h : AttIs D r) : dnL r.asked (Maps.has D) = [] := by
  unfold dnL
  rw [List.filter_eq_nil_iff]
  intro a ha
  rw [asked_has h ha]; decide
theorem dn_end {asked : List (List UInt8)} {left : Lit → Bool} (h : ∀ kl, left kl = false) : dnL asked left = asked := by
  unfold dnL
  exact List.filter_eq_self.2 (fun a _ => by rw [h]; rfl)
theorem dn_other {asked : List (List UInt8)} {left : Lit → Bool} {x : List UInt8} (h : x ∉ asked) : dnL asked (fun z => left z && !z.sameKey (.string x)) = dnL asked left := by
  unfold dnL
  refine List.filter_congr (fun a ha => ?_)
  have : (Lit.string a : Lit).sameKey (.string x) = false := sameKey_ne (fun e => by injection e with e; exact h (e ▸ ha))
  simp only [this, Bool.not_false, Bool.and_true]
theorem dn_new {asked : List (List UInt8)} {left : Lit → Bool} {x : List UInt8} (h : x ∈ asked) (h1 : asked.length ≤ 1) (hl : left (.string x) = true) : dnL asked left = [] ∧ dnL asked (fun z => left z && !z.sameKey (.string x)) = [x] := by
  match asked, h1, h with
  | [a], _, h =>
    simp only [List.mem_singleton] at h
    subst h
    unfold dnL
    simp [hl, Lit.sameKey]

set_option maxHeartbeats 8000000 in
theorem asked_m (A n : Nat) (D : DataW Value) (r : Rd) (w : World) (h : w.ownsMap Tryz.prog 9 heldR A n D) (hM : AttIs D r) (hone : r.asked.length ≤ 1) :
    Calls Tryz.prog 106 #[.map (some A)] w fun e w' => ∃ v, e = .returned v ∧ w'.ownsRow w.heap.size 9 1 v r.asked.length (r.asked.map strV) ∧ Below w.heap.size w w' := by
  obtain ⟨i0, hi, hz0, hz1, hz2⟩ := info_parts stInfo
  have hA := h.lt
  have HM := Lib.hid hM
  go_enter Tryz.func106, Tryz.ntmps106
  go_wp2_with (first
    | (at_range; refine wpList_range_own _ rfl _ 109 rfl 9 222 key_k Tryz.underlying109 heldR A n D rfl h ?_; intro w0 hrg0 hg0 hs0)
    | go_in)
  go_frame
  go_loopw [3] (fun lv0 wr => ∃ lv, lv = lv0 ∧ ∃ (left : Lit → Bool) (cnt : Nat), wr.ranges Tryz.prog 9 heldR A w.heap.size n D left cnt ∧ wr.ownsRow (w.heap.size + 1) 9 1 lv (dnL r.asked left).length ((dnL r.asked left).map strV) ∧ Below w.heap.size w wr ∧ w.heap.size + 1 ≤ wr.heap.size) (fun _ wr => wr.rangeLeft A w.heap.size)
  case atStart => exact ⟨_, rfl, _, _, hrg0, by rw [dn_start HM.out]; exact ⟨rfl, .inl ⟨rfl, rfl⟩⟩, (Below.refl _ _).grown hg0 (Nat.le_refl _) (fun k e => by cases e), by omega⟩
  case round =>
    obtain ⟨lv, rfl, left, cnt, hrg, hrow, hbel, hz⟩ := hrel
    have HRG := Lib.hid hrg
    have HROW := Lib.hid hrow
    clear hrg hrow hrg0 hg0 h
    go_wp2_with (first
      | (at_next; refine wpList_next_ranges _ rfl _ rfl 9 key_k heldR Value.string (fun v : Value => v) (fun key kl hkey => by
            cases key <;> simp [keyOf, Tryz.underlying9, mapKey] at hkey
            exact ⟨_, rfl⟩) (fun v y _ => ⟨v, rfl⟩) A w.heap.size n D _ _ rfl HRG.out ?_ ?_)
      | go_in)
    · intro _ hl0
      have hrow := HROW.out
      rw [dn_end hl0] at hrow
      obtain ⟨p, c, rfl⟩ := row_slice hrow
      have hR := Lib.hid hrow
      have hS := sort_small p c r.asked.length (by omega) wr
      clear hrow
      go_wp2_with (go_at_call 157; refine hS.mono ?_; rintro e w2 ⟨rfl, hb2⟩)
      go_ret
      exact ⟨_, rfl, keep_row (own_base hR.out (Nat.le_succ _)) (fun g hg => hb2.block g (hR.out.lt g hg).2), behind hbel hb2⟩
    · intro x c kl yd yp w1 cnt1 hkey hlk hv hat hrg1 hlt hg1 hs1 hen
      obtain ⟨rfl, hxz⟩ := key_inv hkey
      unfold heldR at hv
      simp only [Option.some.injEq, Prod.mk.injEq] at hv
      obtain ⟨rfl, rfl⟩ := hv
      have hc : c = attV (getL r.attrs (bT x.data.toList)) (decide (x.data.toList ∈ r.own)) (decide (x.data.toList ∈ r.asked)) := by
        have h1 := hat (.held attZ)
        rw [HM.out.2 x.data.toList] at h1
        injection h1 with h1; exact h1.symm
      subst hc
      have hrow1 : w1.ownsRow (w.heap.size + 1) 9 1 lv (dnL r.asked left).length ((dnL r.asked left).map strV) := keep_row HROW.out (fun g hg => hg1.block g (HROW.out.lt g hg).2 (fun e => by have := (HROW.out.lt g hg).1; injection e with e; omega))
      have hbel1 : Below w.heap.size w w1 := hbel.grown hg1 (Nat.le_trans (Nat.le_succ _) hz) (fun k e => by injection e with e; omega)
      have HROW1 := Lib.hid hrow1
      have HRG1 := Lib.hid hrg1
      obtain ⟨o, ho⟩ : ∃ o, decide (x.data.toList ∈ r.own) = o := ⟨_, rfl⟩
      obtain ⟨ev, hev⟩ : ∃ ev, (getL r.attrs (bT x.data.toList)).getD ⟨#[]⟩ = ev := ⟨_, rfl⟩
      obtain ⟨eb, heb⟩ : ∃ eb, (getL r.attrs (bT x.data.toList)).isSome = eb := ⟨_, rfl⟩
      unfold attV at hen
      rw [ho, hev, heb] at hen
      by_cases hin : x.data.toList ∈ r.asked
      · have hdn := dn_new hin hone hlk
        have hrow0 := hrow1
        rw [hdn.1] at hrow0
        have hb : decide (x.data.toList ∈ r.asked) = true := decide_eq_true hin
        rw [hb] at hen
        obtain ⟨W3, hW3⟩ : ∃ W3, w1.alloc (.cells #[.string ev, .bool eb, .bool o, .bool true] 222) = W3 := ⟨_, rfl⟩
        have z3 : W3.heap.size = wr.heap.size + 1 := by rw [← hW3]; simp [hs1]
        have HR3 : Hid (W3.ownsRow (w.heap.size + 1) 9 1 lv 0 []) := Lib.hid (by rw [← hW3]; exact hrow0.alloc _)
        have HW3 := Lib.hid hW3
        have e3 : W3.cell? ⟨wr.heap.size, 3, none⟩ = some (.bool true) := by rw [← hs1, ← hW3, World.cell?_alloc_new]; rfl
        clear hrow1 hrow0 hrg1 hin hb hat hkey
        have hB3 : Below w.heap.size w W3 := by rw [← hW3]; exact behind hbel1 (laidNew _ _)
        have HB3 := Lib.hid hB3
        have HDN : Hid (dnL r.asked (fun z => left z && !z.sameKey (.string x.data.toList)) = [x.data.toList]) := Lib.hid hdn.2
        clear hB3 hdn
        go_wp2_with (at_builtin; refine wpList_append_own _ rfl _ _ 25 rfl (w.heap.size + 1) 9 i0 (.string ⟨#[]⟩) 1 16 Tryz.underlying25 hi hz0 hz1 hz2 rfl (by decide) _ _ _ rfl (HR3.out.alloc _) ⟨wr.heap.size + 1, 0, none⟩ 1 1 [.string x] rfl rfl (by rw [← z3]; exact World.news_of_block (cs := #[.string x]) (t := 9) (fr := (0, 0)) (heap_alloc_new W3 _)) (by simp [Value.oneCell']) (by unfold maxLen; omega) (by omega) (by simp; omega) ?_; intro lv6 w6 r6 g6 _)
        have hnew : w6.ranges Tryz.prog 9 heldR A w.heap.size n D (fun z => left z && !z.sameKey (.string x.data.toList)) cnt1 := by
          have h1 := HRG1.out.alloc (.cells #[.string ev, .bool eb, .bool o, .bool true] 222)
          rw [HW3.out] at h1
          refine (h1.alloc _).kept g6 (fun e => ?_) (fun e => ?_)
          · have := (HR3.out.lt _ e.symm).1; omega
          · have := (HR3.out.lt _ e.symm).1; omega
        have hbn : Below w.heap.size w w6 := (behind HB3.out (laidNew W3 _)).grown g6 (by simp; omega) (fun j e => by have := (HR3.out.lt j e).1; omega)
        have hzn : w.heap.size + 1 ≤ w6.heap.size := by have := g6.size; simp at this; omega
        go_roundw
        case rel => exact ⟨_, rfl, _, cnt1, hnew, by rw [HDN.out]; show w6.ownsRow _ _ 1 lv6 1 [Value.string (bT x.data.toList)]; rw [bT_data]; exact r6, hbn, hzn⟩
        case measure => rw [hnew.left_eq, HRG.out.left_eq]; exact hlt
      · have hb : decide (x.data.toList ∈ r.asked) = false := decide_eq_false hin
        rw [hb] at hen
        have hdn := dn_other (left := left) hin
        obtain ⟨W3, hW3⟩ : ∃ W3, w1.alloc (.cells #[.string ev, .bool eb, .bool o, .bool false] 222) = W3 := ⟨_, rfl⟩
        have z3 : W3.heap.size = wr.heap.size + 1 := by rw [← hW3]; simp [hs1]
        have HR3 : Hid (W3.ownsRow (w.heap.size + 1) 9 1 lv (dnL r.asked left).length ((dnL r.asked left).map strV)) := Lib.hid (by rw [← hW3]; exact hrow1.alloc _)
        have e3 : W3.cell? ⟨wr.heap.size, 3, none⟩ = some (.bool false) := by rw [← hs1, ← hW3, World.cell?_alloc_new]; rfl
        have hB3 : Below w.heap.size w W3 := by rw [← hW3]; exact behind hbel1 (laidNew _ _)
        have hnew : W3.ranges Tryz.prog 9 heldR A w.heap.size n D (fun z => left z && !z.sameKey (.string x.data.toList)) cnt1 := by
          have h1 := HRG1.out.alloc (.cells #[.string ev, .bool eb, .bool o, .bool false] 222)
          rw [hW3] at h1; exact h1
        have HB3 := Lib.hid hB3
        have HDN := Lib.hid hdn
        have HNW := Lib.hid hnew
        clear hrow1 hrg1 hin hb hat hkey hdn hB3 hnew
        subst hW3
        go_wp2
        go_roundw
        case rel => exact ⟨_, rfl, _, cnt1, HNW.out, by rw [HDN.out]; exact HR3.out, HB3.out, by omega⟩
        case measure => rw [HNW.out.left_eq, HRG.out.left_eq]; exact hlt
end Go.Proofs.YtnbnlehkljkabaaGreatDoor
