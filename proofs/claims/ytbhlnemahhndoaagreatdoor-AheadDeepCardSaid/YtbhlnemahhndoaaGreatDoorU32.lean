/- Merged: ReadM, AllM, SortM, AskedM, ReadC, TextL, HelpM. -/
import Derived.Test.YtbhlnemahhndoaaGreatDoorU31
import Derived.Deep.CutRange
import Derived.Tactics2
import Derived.Defers
import Derived.Recover
import Derived.Maps.RangeWalk
import Derived.Test.YtbhlnemahhndoaaGreatDoorVKnownC
import Derived.Deep.RegionHeld3
import Derived.Test.YtbhlnemahhndoaaGreatDoorU34
import Derived.Laws.StructEq
namespace Go.Proofs.YtbhlnemahhndoaaGreatDoor
open Go.RowKit Go.Maps
set_option maxRecDepth 100000

/-! ### a source is read -/
theorem stInfo : (Tryz.prog.info? 9).map (fun i => (i.zero, i.size, i.bytes)) = some (some (.string ⟨#[]⟩), 1, 16) := by kernel_rfl
def TextOk (t : ByteArray) : Prop := t.size ≤ 100000 ∧ ∀ l ∈ linesL t.data.toList, l.head? = some 64 → CutOk (bT l) ∧ CutOk (bT (cutW l).2)
def Kof (r : Rd) : Nat := 100100 * r.count + 1000
def ReadOk (W : World) (R : Nat) (k : RdK) (srcs : List At) (d : Nat) : Prop := ∀ (opn : List (List UInt8)) (x : RdV) (m : Nat) (r : Rd) (fb tb : ByteArray) (w : World), opn.length + d = 17 → 0 < d → RdIs W R k srcs x (Kof r) opn r w → Fit m 0 0 r → TextOk tb → (readR srcs d opn fb.data.toList tb.data.toList r).long = false →
  Calls Tryz.prog 156 #[.pointer (some ⟨R, 0, none⟩), .string fb, .string tb] w (fun e w' => e = .returned (.tuple #[]) ∧ ∃ x', StepTo W R k srcs x w x' (Kof (readR srcs d opn fb.data.toList tb.data.toList r)) opn (readR srcs d opn fb.data.toList tb.data.toList r) w')

theorem linesF_len : ∀ (s cur : List UInt8), ∀ l ∈ linesF cur s, l.length ≤ cur.length + s.length
  | [], cur, l, h => by
    unfold linesF at h
    split at h
    · cases h
    · simp only [List.mem_singleton] at h; subst h; simp
  | c :: s, cur, l, h => by
    unfold linesF at h
    split at h
    · rcases List.mem_cons.1 h with h | h
      · subst h; simp
      · have := linesF_len s [] l h; simp at this ⊢; omega
    · have := linesF_len s (cur ++ [c]) l h; simp at this ⊢; omega
theorem line_len (s : List UInt8) : ∀ l ∈ linesL s, l.length ≤ s.length := fun l h => by have := linesF_len s [] l h; simpa using this
section
variable {W w w5 w8 wc : World} {R s K0 K : Nat} {k : RdK} {srcs : List At} {file : List UInt8} {x xB x' : RdV} {cv' : Value} {opn' o2 : List (List UInt8)} {cs : List CondP} {r0 r' : Rd}
theorem StepTo.source (hO : StepTo W R k srcs x w xB K0 opn' r0 wc) (hb : Below wc.heap.size wc w5) (hS : SStep W R s k srcs file xB (.slice none 0 0) w5 x' cv' K o2 cs r' w8) (hs : wc.heap.size ≤ s) : StepTo W R k srcs x w x' K o2 r' w8 := by
  have hz := hO.kept.size
  have hz2 := hb.size
  refine ⟨hS.rd, kept_wide (hO.below hb).kept hS.kept ?_, fun b e => ?_⟩
  · rintro i (e | e | e)
    · exact hO.mine i e
    · right; omega
    · cases e
  · rcases hS.mine b (.inl e) with (e2 | e2 | e2) | e2
    · exact hO.mine b e2
    · right; omega
    · cases e2
    · right; omega
end

theorem cd_at (file : List UInt8) : ∀ (cs : List CondP) (kk : Nat) (c : CondP), cs.reverse[kk]? = some c → ∀ j, j < 5 → (cdCells file cs)[kk * 5 + j]? = (cdCell file c)[j]?
  | [], kk, c, h, j, hj => by simp at h
  | a :: t, kk, c, h, j, hj => by
    unfold cdCells
    rw [List.reverse_cons] at h
    by_cases hk : kk < t.length
    · rw [List.getElem?_append_left (by simpa using hk)] at h
      rw [List.getElem?_append_left (by rw [cdCells_length]; omega)]
      exact cd_at file t kk c h j hj
    · rw [List.getElem?_append_right (by simpa using hk)] at h
      have h0 : kk = t.length := by
        have := (List.getElem?_eq_some_iff.1 h).1
        simp at this; omega
      subst h0
      simp only [List.length_reverse, Nat.sub_self, List.getElem?_cons_zero, Option.some.injEq] at h
      subst h
      rw [List.getElem?_append_right (by rw [cdCells_length]; omega), cdCells_length, Nat.add_sub_cancel_left]
theorem tells_diags (file : List UInt8) : ∀ (l : List CondP) (r : Rd), (l.foldl (fun r c => r.tell file c.line 4 []) r).diags.length = r.diags.length + l.length
  | [], _ => rfl
  | c :: t, r => by rw [List.foldl_cons, tells_diags file t]; show (r.diags ++ [_]).length + _ = _; simp; omega
theorem tells_count (file : List UInt8) : ∀ (l : List CondP) (r : Rd), (l.foldl (fun r c => r.tell file c.line 4 []) r).count = r.count
  | [], _ => rfl
  | c :: t, r => by rw [List.foldl_cons, tells_count file t]; rfl

set_option maxHeartbeats 8000000 in
theorem read_step (W : World) (R : Nat) (k : RdK) (srcs : List At) (hsrc : ∀ a ∈ srcs, TextOk a.2) (d : Nat) (ih : ReadOk W R k srcs d) : ReadOk W R k srcs (d + 1) := by
  intro opn x m r fb tb w hod _ h hfit hT hlong
  obtain ⟨i0, hi, hz0, hz1, hz2⟩ := info_parts stInfo
  obtain ⟨p0, c0, hov⟩ := row_slice h.rop
  obtain ⟨p1, c1, hfv⟩ := row_slice h.rfl'
  have hrop := h.rop
  rw [hov] at hrop
  have hR := (h.lt R (.inl rfl)).2
  have d4 : w.cell? ⟨R, 4, none⟩ = some (.slice p0 opn.length c0) := h.cells 4 _ (by rw [← hov]; rfl)
  have hnR : (Value.slice p0 opn.length c0).ownBlock ≠ some R := by rw [← hov]; exact h.ov_R
  have hB : W.heap.size ≤ w.heap.size := h.bel.size
  have hOp : ∀ g cap w2, w2.ownsRow W.heap.size 9 1 (.slice (some ⟨g, 0, none⟩) (opn.length + 1) cap) (opn.length + 1) (opn.map strV ++ [.string fb]) → (w.alloc (.cells #[.string fb] 9)).grownBy w2 (Value.slice p0 opn.length c0).ownBlock → ((Value.slice p0 opn.length c0).ownBlock = some g ∨ g = w.heap.size + 1) →
      ∃ xA, xA.fv = x.fv ∧ StepTo W R k srcs x w xA (Kof r) (opn ++ [fb.data.toList]) r (w2.setCell ⟨R, 4, none⟩ (.slice (some ⟨g, 0, none⟩) (opn.length + 1) cap)) := fun g cap w2 r1 r2 hat =>
    ⟨{ x with ov := .slice (some ⟨g, 0, none⟩) (opn.length + 1) cap }, rfl, h.opened (file := fb.data.toList) (laidNew w (.cells #[.string fb] 9)) (by rw [bT_data]; exact r1) (by rw [hov]; exact r2) (by rcases hat with e | e; exact .inl (by rw [hov]; exact e); right; omega)⟩
  have HB := Lib.hid h.blk
  have HF := Lib.hid hfv
  have hfl : r.files.length ≤ 1000000 := by have := hfit.fls; have := hfit.cnt; omega
  have HH := Lib.hid h
  have HO := Lib.hid hov
  have HR0 := Lib.hid hrop
  have hol : opn.length ≤ 16 := by omega
  obtain ⟨hfl2, hre⟩ := read_eq srcs d opn fb.data.toList tb.data.toList r hlong
  have hfo := hfit.opens fb.data.toList
  have HRE := Lib.hid hre
  have HFL := Lib.hid hfl2
  have HFO := Lib.hid hfo
  have HT := Lib.hid hT
  have HSRC := Lib.hid hsrc
  have HIH := Lib.hid ih
  have htz := hT.1
  obtain ⟨rZ, hrZ⟩ : ∃ rZ, readR srcs (d + 1) opn fb.data.toList tb.data.toList r = rZ := ⟨_, rfl⟩
  have HRZ := Lib.hid hrZ
  rw [hrZ]
  clear h hrop hlong hfit hT hsrc ih hfl2 hre hfo hrZ
  go_enter Tryz.func156, Tryz.ntmps156
  go_upto_if 27 with (first
    | (at_builtin; refine wpList_append_lies _ rfl (.tmp 15) (.tmp 17) 25 rfl W.heap.size 9 i0 (.string ⟨#[]⟩) 1 16 Tryz.underlying25 hi hz0 hz1 hz2 rfl (by decide) (.slice p0 opn.length c0) opn.length (opn.map strV) rfl (by exact HR0.out.alloc _) ⟨w.heap.size, 0, none⟩ 1 1 [.string fb] rfl rfl (by exact World.news_of_block (cs := #[.string fb]) (t := 9) (fr := (0, 0)) (heap_alloc_new w _)) (by simp [Value.oneCell']) (by omega) (by unfold maxLen; omega) (by omega) (by simp; omega) (w.heap.size + 1) (by simp) ?_; intro g cap w2 r1 r2 hat hlt; have hB2 := heap_old r2 (heap_alloc (o' := .cells #[.string fb] 9) HB.out) hnR; have e4 := cell_at (j := 4) hB2 rfl; have f4 := froz_at (j := 4) hB2; have e8 : w2.cell? ⟨R, 8, none⟩ = some (.slice p1 r.files.length c1) := cell_at (j := 8) hB2 (by rw [← HF.out]; rfl); obtain ⟨xA, hxA, hO⟩ := hOp g cap w2 r1 r2 hat)
    | (go_at_call 170; refine (contains_c W.heap.size (.slice p1 r.files.length c1) r.files fb _ (by have := hO.rd.rfl'; rw [hxA, HF.out] at this; exact this) hfl).mono ?_; rintro e w4 ⟨rfl, hb4⟩; have hO4 := hO.below hb4; have j8 : w4.cell? ⟨R, 8, none⟩ = some (.slice p1 r.files.length c1) := hO4.rd.cells 8 _ (by rw [← HF.out, ← hxA]; rfl)))
  go_cut [] from 26 to 37 (fun wx => ∃ xB, StepTo W R k srcs x w xB (Kof r) (opn ++ [fb.data.toList]) (r.opens fb.data.toList) wx)
  case first =>
    by_cases hin : fb.data.toList ∈ r.files
    · have hb : decide (fb.data.toList ∈ r.files) = true := decide_eq_true hin
      have hop : r.opens fb.data.toList = r := by unfold Rd.opens; rw [if_pos hin]
      simp only [hb]
      go_wp2_with fail
      go_meet
      exact ⟨_, by rw [hop]; exact hO4⟩
    · have hb : decide (fb.data.toList ∈ r.files) = false := decide_eq_false hin
      have hop : r.opens fb.data.toList = { r with files := r.files ++ [fb.data.toList] } := by unfold Rd.opens; rw [if_neg hin]
      simp only [hb]
      have hRf : w4.ownsRow W.heap.size 9 1 (.slice p1 r.files.length c1) r.files.length (r.files.map strV) := by have := hO4.rd.rfl'; rw [hxA, HF.out] at this; exact this
      have hB4 := hO4.rd.bel.size
      have hBk := hO4.rd.blk
      have hR4 : R < w4.heap.size := heap_lt hBk
      have hnF : (Value.slice p1 r.files.length c1).ownBlock ≠ some R := by rw [← HF.out, ← hxA]; exact hO4.rd.fv_R
      have HBk := Lib.hid hBk
      clear hBk
      go_wp2_with (at_builtin; refine wpList_append_lies _ rfl (.tmp 32) (.tmp 34) 25 rfl W.heap.size 9 i0 (.string ⟨#[]⟩) 1 16 Tryz.underlying25 hi hz0 hz1 hz2 rfl (by decide) (.slice p1 r.files.length c1) r.files.length (r.files.map strV) rfl (by exact hRf.alloc _) ⟨w4.heap.size, 0, none⟩ 1 1 [.string fb] rfl rfl (by exact World.news_of_block (cs := #[.string fb]) (t := 9) (fr := (0, 0)) (heap_alloc_new w4 _)) (by simp [Value.oneCell']) (by omega) (by unfold maxLen; omega) (by omega) (by simp; omega) (w4.heap.size + 1) (by simp) ?_; intro g2 cap2 w5 r3 r4 hat2 hlt2; have hB5 := heap_old r4 (heap_alloc (o' := .cells #[.string fb] 9) HBk.out) hnF; have k8 : w5.cell? ⟨R, 8, none⟩ = some (.slice p1 r.files.length c1) := cell_at (j := 8) hB5 (by rw [← HF.out, ← hxA]; rfl); have f8 := froz_at (j := 8) hB5)
      go_meet
      have hS := hO4.rd.filed (file := fb.data.toList) (laidNew w4 (.cells #[.string fb] 9)) (by rw [bT_data]; exact r3) (by rw [hxA, HF.out]; exact r4) (by rcases hat2 with e | e; exact .inl (by rw [hxA, HF.out]; exact e); right; omega)
      exact ⟨_, by rw [hop]; exact hO4.trans hS⟩
  case rest =>
    obtain ⟨xB, hO⟩ := hcut
    have hOB := hO.rd.bel.size
    have HOB := Lib.hid hO
    obtain ⟨w3, hw3⟩ : ∃ w3, wc.alloc (.cells #[.pointer (some ⟨R, 0, none⟩), .slice none 0 0] 241) = w3 := ⟨_, rfl⟩
    have b3 : Below wc.heap.size wc w3 := by rw [← hw3]; exact laidNew _ _
    have z3 : w3.heap.size = wc.heap.size + 1 := by rw [← hw3]; simp
    have k3 : w3.heap[wc.heap.size]? = some (.cells #[.pointer (some ⟨R, 0, none⟩), .slice none 0 0] 241 (0, 0)) := by rw [← hw3]; exact heap_new _ _
    have hs3 : SrcIs W R wc.heap.size fb.data.toList (.slice none 0 0) [] w3 := ⟨k3, ⟨rfl, .inl ⟨rfl, rfl⟩⟩, trivial, hOB⟩
    have hLn := lines_c tb w3 (by omega)
    clear hO
    go_wp2_with (go_at_call 23; refine hLn.mono ?_; rintro e w5 ⟨lv, rfl, hrow, hb5⟩; obtain ⟨p2, c2, hlv⟩ := row_slice hrow; subst hlv)
    obtain ⟨ls, hls⟩ : ∃ ls, linesL tb.data.toList = ls := ⟨_, rfl⟩
    rw [hls] at hrow
    rw [hls]
    have hlen : ∀ l ∈ ls, l.length ≤ 100000 := fun l hl => by
      have h1 := line_len tb.data.toList l (by rw [hls]; exact hl)
      have h2 : tb.data.toList.length = tb.size := by simp
      omega
    have hln : ls.length ≤ 1000000 := by
      have h1 := lines_len [] tb.data.toList
      have h2 : tb.data.toList.length = tb.size := by simp
      rw [← hls]; show (linesF [] _).length ≤ _; omega
    have hok : ∀ l ∈ ls, l.head? = some 64 → CutOk (bT l) ∧ CutOk (bT (cutW l).2) := fun l hl => HT.out.2 l (by rw [hls]; exact hl)
    have HLS := Lib.hid hls
    have hcl : ∀ kk (hk : kk < ls.length), ∃ b, p2 = some ⟨b, 0, none⟩ ∧ w3.heap.size ≤ b ∧ b < w5.heap.size ∧ w5.cell? ⟨b, kk, none⟩ = some (.string (bT ls[kk])) := fun kk hk => by
      obtain ⟨b, cap, cur, hv, -, hbk, hlo, -⟩ := row_here hrow (by omega)
      simp only [Value.slice.injEq] at hv
      obtain ⟨rfl, -, rfl⟩ := hv
      exact ⟨b, rfl, hlo, heap_lt hbk, row_cell hrow kk _ (by rw [List.getElem?_map, List.getElem?_eq_getElem hk]; rfl)⟩
    have hb35 := behind b3 hb5
    have hS5 : SStep W R wc.heap.size k srcs fb.data.toList xB (.slice none 0 0) w5 xB (.slice none 0 0) (Kof (r.opens fb.data.toList)) (opn ++ [fb.data.toList]) [] (r.opens fb.data.toList) w5 :=
      SStep.refl (by have e : Kof (r.opens fb.data.toList) = Kof r := by unfold Kof; rw [HFO.out.2]
                     rw [e]; exact HOB.out.rd.below hb35) (hs3.below hb5)
    obtain ⟨fin, hfin⟩ : ∃ fin, linesR (readR srcs d (opn ++ [fb.data.toList])) srcs (opn ++ [fb.data.toList]) fb.data.toList ls 1 [] (r.opens fb.data.toList) = fin := ⟨_, rfl⟩
    have hfl := HFL.out
    have hre := HRE.out
    rw [hls, hfin] at hfl hre
    have HFI := Lib.hid hfin
    have HFL2 := Lib.hid hfl
    have HRE2 := Lib.hid hre
    have HS5 := Lib.hid hS5
    have HLEN := Lib.hid hlen
    have HOK := Lib.hid hok
    have hFO1 := HFO.out.1
    have HF1 : Hid (Fit (m + ([] : List CondP).length) 1 0 (r.opens fb.data.toList)) := Lib.hid (by simpa using hFO1)
    have hz5 : w3.heap.size ≤ w5.heap.size := hb5.size
    have HB35 := Lib.hid hb35
    have hol2 : (opn ++ [fb.data.toList]).length = opn.length + 1 := by simp
    have hnoT : ∀ b, w3.heap.size ≤ b → b < w5.heap.size → ¬ Touch R wc.heap.size k xB (.slice none 0 0) b := by
      rintro b h1 h2 (e | e | e)
      · have := (HOB.out.rd.lt b e).2; omega
      · omega
      · cases e
    have HNT := Lib.hid hnoT
    clear hfin hfl hre hS5 hlen hok hFO1 hb35 hnoT hs3 hls
    generalize hopn : opn ++ [fb.data.toList] = opn' at *
    go_loopw [44] (fun i wr => ∃ (kk : Nat) (cs : List CondP) (rk : Rd) (xk : RdV) (cvk : Value), kk ≤ ls.length ∧ i = .int .i64 kk ∧ linesR (readR srcs d opn') srcs opn' fb.data.toList (ls.drop kk) (kk + 1) cs rk = fin ∧ Fit (m + cs.length) 1 0 rk ∧ SStep W R wc.heap.size k srcs fb.data.toList xB (.slice none 0 0) w5 xk cvk (Kof rk) opn' cs rk wr) (fun i _ => ls.length - (intOf i).toNat)
    case atStart => exact ⟨0, [], r.opens fb.data.toList, xB, _, by omega, rfl, HFI.out, HF1.out, HS5.out⟩
    case round =>
      obtain ⟨kk, cs, rk, xk, cvk, hk, rfl, hlr, hft, hst⟩ := hrel
      by_cases hlk : kk < ls.length
      · obtain ⟨b, rfl, hb1, hb2, hc1⟩ := hcl kk hlk
        have hdr : ls.drop kk = ls[kk] :: ls.drop (kk + 1) := List.drop_eq_getElem_cons hlk
        have hfl := HFL2.out
        rw [← hlr, hdr] at hfl
        obtain ⟨hcn, hst2⟩ := lines_next hfl
        rw [hst2] at hfl
        rw [hdr, hst2] at hlr
        have hll := lines_long hfl
        have hcnt : rk.count < 16384 := by have := hft.cnt; omega
        have hfn := fit_line (fit_read srcs d opn') srcs opn' fb.data.toList (kk + 1) ls[kk] cs hft hcnt hll
        have hc2 : wr.cell? ⟨b, kk, none⟩ = some (.string (bT ls[kk])) := (hst.kept.cell (p := ⟨b, kk, none⟩) hb2 (HNT.out b hb1 hb2)).trans hc1
        have hlz := HLEN.out ls[kk] (List.getElem_mem hlk)
        have hlk2 := HOK.out ls[kk] (List.getElem_mem hlk)
        have hw1 : IntKind.i64.wrap ((kk : Int) + 1) = (kk : Int) + 1 := by rw [IntKind.wrap_i64]; omega
        have hTK := take_m W R wc.heap.size (Kof rk) (Kof (lineL (readR srcs d opn') srcs opn' fb.data.toList (kk + 1) ls[kk] cs rk.more).2) k srcs xk opn' rk cvk cs fb (bT ls[kk]) (kk + 1) wr hst.rd hst.src
          (by rw [bT_size]; exact hlz) hlk2 hft.vals (by unfold Kof; have := hfn.2; omega) (by unfold Kof maxLen; have := hfn.1.cnt; omega) (by omega) (by have := hft.lns; omega) (by have := hft.dgs; have := hft.cnt; omega) (by have := hft.dgs; have := hft.cnt; omega) hcnt
          (readR srcs d opn')
          (fun hck hni h16 text hf hlg w2 h2 => by
            obtain ⟨a, ha, ea⟩ := get_in (l := srcs) (n := bT (wordR (bT ls[kk]).data.toList).2) (v := bT text) (by
              unfold findL at hf
              cases hg : getL srcs (bT (bT (wordR (bT ls[kk]).data.toList).2).data.toList) with
              | none => rw [hg] at hf; cases hf
              | some v => rw [hg] at hf; simp only [Option.map_some, Option.some.injEq] at hf; rw [← hf, bT_data]; exact hg)
            have hTx : TextOk (bT text) := by rw [← ea]; exact HSRC.out a ha
            exact HIH.out opn' xk (m + cs.length) rk.more _ (bT text) w2 (by omega) (by omega) (h2.mono (by show 100100 * rk.count + 1000 ≤ 100100 * (rk.count + 1) + 1000; omega)) ((hft.more hcnt).weak (by omega) (Nat.le_refl _) (by omega)) hTx hlg)
          hll (by unfold Kof; exact Nat.le_refl _)
        have HLR := Lib.hid hlr
        have HFN := Lib.hid hfn
        have HSTT := Lib.hid hst
        clear hlr hft hst hfl hst2 hll hdr hfn hlk2
        simp only [Int.natCast_add] at hTK
        go_wp2_with (go_at_call 177; refine hTK.mono ?_; rintro e w6 ⟨rfl, x', cv', hst⟩)
        go_roundw
        case rel => exact ⟨kk + 1, _, _, x', cv', by omega, by go_num, HLR.out, HFN.out.1, HSTT.out.trans hst⟩
        case measure => simp [intOf]; omega
      · have hdr : ls.drop kk = [] := List.drop_eq_nil_of_le (by omega)
        rw [hdr] at hlr
        have hlr2 : (cs, rk) = fin := hlr
        subst hlr2
        have hre := HRE2.out
        have hsb := hst.src
        obtain ⟨p3, c3, hcv⟩ := row_slice hsb.row
        subst hcv
        have s1 : wr.cell? ⟨wc.heap.size, 1, none⟩ = some (.slice p3 cs.length c3) := cell_at (j := 1) hsb.blk rfl
        have hcsz : cs.length ≤ 1000000 := by have := hft.dgs; have := hft.cnt; omega
        have hrl : cs.reverse.length = cs.length := List.length_reverse
        have HST := Lib.hid hst
        have HFT := Lib.hid hft
        have HRE3 := Lib.hid hre
        have HSB := Lib.hid hsb
        clear hst hft hre hsb hlr
        go_wp2
        go_loopw [62] (fun i w2 => ∃ (k2 : Nat) (x2 : RdV), k2 ≤ cs.length ∧ i = .int .i64 k2 ∧ SStep W R wc.heap.size k srcs fb.data.toList xB (.slice none 0 0) w5 x2 (.slice p3 cs.length c3) (Kof rk) opn' cs ((cs.reverse.take k2).foldl (fun r c => r.tell fb.data.toList c.line 4 []) rk) w2) (fun i _ => cs.length - (intOf i).toNat)
        case atStart => exact ⟨0, xk, by omega, rfl, by simpa using HST.out⟩
        case round =>
          obtain ⟨k2, x2, hk2, rfl, hst2⟩ := hrel
          by_cases hlk2 : k2 < cs.length
          · have hr2 := hst2.src.row
            obtain ⟨g3, c3', cur3, hv3, -, -, -⟩ := row_here hr2 (by omega)
            simp only [Value.slice.injEq] at hv3
            obtain ⟨rfl, -, -⟩ := hv3
            obtain ⟨c, hc⟩ : ∃ c, cs.reverse[k2]? = some c := ⟨cs.reverse[k2], List.getElem?_eq_getElem (by omega)⟩
            have hcc := fun (j : Nat) (hj : j < 5) (u : Value) (hu : (cdCell fb.data.toList c)[j]? = some u) => (row_cell hr2 (k2 * 5 + j) u (by rw [cd_at _ _ _ _ hc j hj]; exact hu) : wr.cell? ⟨g3, k2 * 5 + j, none⟩ = some u)
            have v0 : wr.cell? ⟨g3, k2 * 5, none⟩ = some (.string fb) := hcc 0 (by omega) (.string fb) (by unfold cdCell; rw [bT_data]; rfl)
            have v1 := hcc 1 (by omega) (.int .i64 (c.line : Int)) rfl
            have v2 := hcc 2 (by omega) (.bool c.first) rfl
            have v3 := hcc 3 (by omega) (.bool c.other) rfl
            have v4 := hcc 4 (by omega) (.int .i64 (if c.else1 = true then 1 else 0)) rfl
            generalize (if c.else1 = true then (1 : Int) else 0) = ev at v4
            have s0 : wr.cell? ⟨wc.heap.size, 0, none⟩ = some (.pointer (some ⟨R, 0, none⟩)) := cell_at (j := 0) hst2.src.blk rfl
            have hsl2 := heap_lt hst2.src.blk
            have hdg : ((cs.reverse.take k2).foldl (fun r c => r.tell fb.data.toList c.line 4 []) rk).diags.length ≤ 1000000 := by
              rw [tells_diags, List.length_take]; have := HFT.out.dgs; have := HFT.out.cnt; omega
            have HTK : Hid (cs.reverse.take (k2 + 1) = cs.reverse.take k2 ++ [c]) := Lib.hid (by
              rw [List.take_add_one, hc]; rfl)
            have HS2 := Lib.hid hst2
            have hTL := fun w3 (hb : Below wr.heap.size wr w3) => tell_c W R (Kof rk) k srcs x2 opn' _ fb ⟨#[]⟩ c.line 4 w3 (hst2.rd.below hb) hdg
            clear hst2 hr2 hcc hc hdg
            generalize hr2g : (cs.reverse.take k2).foldl (fun r c => r.tell fb.data.toList c.line 4 []) rk = r2 at *
            go_wp2
            obtain ⟨w7, hw7⟩ : ∃ w7, wr.alloc (.cells #[.string fb, .int .i64 (c.line : Int), .bool c.first, .bool c.other, .int .i64 ev] 237) = w7 := ⟨_, rfl⟩
            rw [hw7]
            have b7 : Below wr.heap.size wr w7 := by rw [← hw7]; exact laidNew _ _
            have g0 : w7.cell? ⟨wr.heap.size, 0, none⟩ = some (.string fb) := by rw [← hw7, World.cell?_alloc_new]; rfl
            have g1 : w7.cell? ⟨wr.heap.size, 1, none⟩ = some (.int .i64 (c.line : Int)) := by rw [← hw7, World.cell?_alloc_new]; rfl
            have s7 := keep_cell b7 s0
            have z7 : wr.heap.size < w7.heap.size := by rw [← hw7]; simp
            clear hw7 v0 v1 v2 v3 v4 s0
            go_still_tail 6, (by kernel_rfl)
            change wpList _ _ _ _ _ w7.drew
            have hT7 := hTL w7.drew (behind b7 (Below.refl _ _).drew)
            go_wp2_with (go_at_call 168; refine hT7.mono ?_; rintro e w8 ⟨rfl, x', hst3⟩)
            go_roundw
            case rel => exact ⟨k2 + 1, x', by omega, by go_num, by
              rw [HTK.out, List.foldl_append, hr2g]
              exact HS2.out.trans ((hst3.ahead (behind b7 (Below.refl _ _).drew)).deed HS2.out.rd HS2.out.src)⟩
            case measure => simp [intOf]; omega
          · have ht2 : cs.reverse.take k2 = cs.reverse := List.take_of_length_le (by omega)
            rw [ht2] at hst2
            have hopl : opn'.length = opn.length + 1 := hol2
            obtain ⟨p4, c4, hv4⟩ := row_slice hst2.rd.rop
            have hrp := hst2.rd.rop
            rw [hv4] at hrp
            obtain ⟨g4, c4', cur4, hv5, hle4, -, -⟩ := row_here hrp (by omega)
            simp only [Value.slice.injEq] at hv5
            obtain ⟨rfl, -, rfl⟩ := hv5
            have r4 : wr.cell? ⟨R, 4, none⟩ = some (.slice (some ⟨g4, 0, none⟩) (opn.length + 1) c4) := hst2.rd.cells 4 _ (by rw [← hopl, ← hv4]; rfl)
            have r5 := hst2.rd.frozen 4
            have e2 : IntKind.i64.wrap (opn.length : Int) = (opn.length : Int) := by rw [IntKind.wrap_i64]; omega
            have e3 : (opn.length : Int) ≤ (c4 : Int) := by omega
            have hRl : R < wr.heap.size := heap_lt hst2.rd.blk
            have hcl2 := hst2.rd.closed hopn.symm hv4
            have hfin := (HOB.out.source HB35.out hst2 (Nat.le_refl _)).trans hcl2
            have hk1 : Kof rZ = Kof rk := by rw [← HRZ.out, HRE3.out]; unfold Kof; rw [tells_count]
            have hrr : (cs.reverse).foldl (fun r c => r.tell fb.data.toList c.line 4 []) rk = rZ := by rw [← HRZ.out, HRE3.out]
            rw [hrr, ← hk1] at hfin
            have HFN := Lib.hid hfin
            clear hst2 hrp hcl2 hfin hrr hk1
            go_wp2
            go_region_law (fail)
            all_goals go_end0
            all_goals exact ⟨rfl, _, HFN.out.below (Below.refl _ _).drew⟩
theorem read_ok (W : World) (R : Nat) (k : RdK) (srcs : List At) (hsrc : ∀ a ∈ srcs, TextOk a.2) : ∀ d, ReadOk W R k srcs d
  | 0 => fun _ _ _ _ _ _ _ _ h => absurd h (by omega)
  | d + 1 => read_step W R k srcs hsrc d (read_ok W R k srcs hsrc d)
end Go.Proofs.YtbhlnemahhndoaaGreatDoor
namespace Go.Proofs.YtbhlnemahhndoaaGreatDoor
open Go.RowKit Go.Maps
set_option maxRecDepth 100000

/-! ### a source is read, and the run goes on -/
theorem catch_idle (w : World) :
    CallsD Tryz.prog 155 #[] .returning w fun e u' w' => e = .returned (.tuple #[]) ∧ u' = .returning ∧ w' = w := by
  refine callsD_of_wpS Tryz.func155 rfl fun c₀ cs hu => ?_
  apply wpS_seq
  apply wpS_region
  simp [wpOpsS, go_sem, recoverD, hu, Tryz.ntmps155, Exit.thenS]
  apply wpS_seq
  apply wpS_region
  simp [wpOpsS, go_sem, Exit.thenS]
  refine wpS_cond (t := false) (by simp [Act.eval, Array.replicate]) ?_
  simp only [Bool.false_eq_true, if_false]
  refine wpS_of_wp (wp_skip ?_)
  cases c₀
  simp_all [bodyPostS, results, Tryz.results155]

set_option maxHeartbeats 2000000 in
theorem all_m (W : World) (R : Nat) (k : RdK) (srcs : List At) (hsrc : ∀ a ∈ srcs, TextOk a.2) (x : RdV) (r : Rd) (fb tb : ByteArray) (w : World) (h : RdIs W R k srcs x (Kof r) [] r w) (hfit : Fit 0 0 0 r) (hT : TextOk tb) (hlong : (readR srcs 17 [] fb.data.toList tb.data.toList r).long = false) :
    Calls Tryz.prog 105 #[.pointer (some ⟨R, 0, none⟩), .string fb, .string tb] w (fun e w' => e = .returned (.tuple #[]) ∧ ∃ x', StepTo W R k srcs x w x' (Kof (readR srcs 17 [] fb.data.toList tb.data.toList r)) [] (readR srcs 17 [] fb.data.toList tb.data.toList r) w') := by
  have hC := read_ok W R k srcs hsrc 17 [] x 0 r fb tb w rfl (by omega) h hfit hT hlong
  clear h hfit hT hlong
  go_enter_defers Tryz.func105, Tryz.ntmps105
  go_wp2_with (go_at_call 156; refine hC.mono ?_; rintro e w3 ⟨rfl, x', hst⟩)
  refine leaves_cons (f := 155) (args := #[]) (by simp) (by simp [go_sem]) ?_
  refine (catch_idle _).mono ?_
  rintro e u' w'' ⟨rfl, rfl, rfl⟩
  simp [Leaves, settle, results, Tryz.results105, go_sem]
  exact ⟨x', hst⟩
end Go.Proofs.YtbhlnemahhndoaaGreatDoor
namespace Go.Proofs.YtbhlnemahhndoaaGreatDoor
open Go.RowKit Go.Maps
set_option maxRecDepth 100000

/-! ### texts that are one at the most are in order -/
set_option maxHeartbeats 4000000 in
theorem ins_small (n : Int) (hn : n = 0 ∨ n = 1) (v : Value) (w : World) : Calls Tryz.prog 199 #[v, .int .i64 0, .int .i64 n] w fun e w' => e = .returned (.tuple #[]) ∧ w' = w := by
  rcases hn with rfl | rfl
  · go_enter Tryz.func199, Tryz.ntmps199
    go_wp2
    refine wp_loop_rounds 1 ?_
    rw [rounds_succ]
    go_wp2
    go_end0
    exact ⟨rfl, rfl⟩
  · go_enter Tryz.func199, Tryz.ntmps199
    go_wp2
    refine wp_loop_rounds 1 ?_
    rw [rounds_succ]
    go_wp2
    go_end0
    exact ⟨rfl, rfl⟩
set_option maxHeartbeats 4000000 in
theorem pdq_small (n : Int) (hn : n = 0 ∨ n = 1) (l : Int) (v : Value) (w : World) : Calls Tryz.prog 178 #[v, .int .i64 0, .int .i64 n, .int .i64 l] w fun e w' => e = .returned (.tuple #[]) ∧ w' = w := by
  have hI := fun w => ins_small n hn v w
  rcases hn with rfl | rfl
  · go_enter Tryz.func178, Tryz.ntmps178
    go_wp2
    refine wp_loop_rounds 1 ?_
    rw [rounds_succ]
    go_wp2_with (go_at_call 199; refine (hI _).mono ?_; rintro e w2 ⟨rfl, rfl⟩)
    first | go_end0 | refine bodyPost_ret (results_none rfl _ _ _) rfl ?_
    exact ⟨rfl, rfl⟩
  · go_enter Tryz.func178, Tryz.ntmps178
    go_wp2
    refine wp_loop_rounds 1 ?_
    rw [rounds_succ]
    go_wp2_with (go_at_call 199; refine (hI _).mono ?_; rintro e w2 ⟨rfl, rfl⟩)
    first | go_end0 | refine bodyPost_ret (results_none rfl _ _ _) rfl ?_
    exact ⟨rfl, rfl⟩
set_option maxHeartbeats 4000000 in
theorem sort_small (p : Option Addr) (c : Nat) (n : Nat) (hn : n = 0 ∨ n = 1) (w : World) : Calls Tryz.prog 157 #[.slice p n c] w fun e w' => e = .returned (.tuple #[]) ∧ Below w.heap.size w w' := by
  have hP := fun l w => pdq_small (n : Int) (by omega) l (.slice p n c) w
  rcases hn with rfl | rfl
  · go_enter Tryz.func157, Tryz.ntmps157
    go_wp2_with (first | (go_at_call 178; refine (hP _ _).mono ?_; rintro e w2 ⟨rfl, rfl⟩) | go_in)
    go_end0
    exact ⟨rfl, Below.refl _ _⟩
  · go_enter Tryz.func157, Tryz.ntmps157
    go_wp2_with (first | (go_at_call 178; refine (hP _ _).mono ?_; rintro e w2 ⟨rfl, rfl⟩) | go_in)
    go_end0
    exact ⟨rfl, Below.refl _ _⟩
end Go.Proofs.YtbhlnemahhndoaaGreatDoor
namespace Go.Proofs.YtbhlnemahhndoaaGreatDoor
open Go.RowKit Go.Maps
set_option maxRecDepth 100000

/-! ### the names that were asked for, where there is at most one -/
def dnL (asked : List (List UInt8)) (left : Lit → Bool) : List (List UInt8) := asked.filter fun a => !left (.string a)
theorem key_inv {x : ByteArray} {kl : Lit} (h : keyOf Tryz.prog 9 (.string x) = some kl) : kl = .string x.data.toList ∧ x.size ≤ maxLen := by
  simp [keyOf, Tryz.underlying9, mapKey] at h
  exact ⟨h.2.symm, h.1⟩
theorem asked_has {D : DataW Value} {r : Rd} (h : AttIs D r) {a : List UInt8} (ha : a ∈ r.asked) : Maps.has D (.string a) = true := by
  cases hh : Maps.has D (.string a) with
  | true => rfl
  | false =>
    have h1 := h.2 a
    rw [atKey_of_not_has hh] at h1
    unfold attZ attV at h1
    simp [ha] at h1
theorem dn_start {D : DataW Value} {r : Rd} (h : AttIs D r) : dnL r.asked (Maps.has D) = [] := by
  unfold dnL
  rw [List.filter_eq_nil_iff]
  intro a ha
  rw [asked_has h ha]; decide
theorem dn_end {asked : List (List UInt8)} {left : Lit → Bool} (h : ∀ kl, left kl = false) : dnL asked left = asked := by
  unfold dnL
  exact List.filter_eq_self.2 (fun a _ => by rw [h]; rfl)
theorem dn_other {asked : List (List UInt8)} {left : Lit → Bool} {x : List UInt8} (h : x ∉ asked) : dnL asked (fun z => left z && !z.sameKey (.string x)) = dnL asked left := by
  unfold dnL
  refine List.filter_congr (fun a ha => ?_)
  have : (Lit.string a : Lit).sameKey (.string x) = false := sameKey_ne (fun e => by injection e with e; exact h (e ▸ ha))
  simp only [this, Bool.not_false, Bool.and_true]
theorem dn_new {asked : List (List UInt8)} {left : Lit → Bool} {x : List UInt8} (h : x ∈ asked) (h1 : asked.length ≤ 1) (hl : left (.string x) = true) : dnL asked left = [] ∧ dnL asked (fun z => left z && !z.sameKey (.string x)) = [x] := by
  match asked, h1, h with
  | [a], _, h =>
    simp only [List.mem_singleton] at h
    subst h
    unfold dnL
    simp [hl, Lit.sameKey]

set_option maxHeartbeats 8000000 in
theorem asked_m (A n : Nat) (D : DataW Value) (r : Rd) (w : World) (h : w.ownsMap Tryz.prog 9 heldR A n D) (hM : AttIs D r) (hone : r.asked.length ≤ 1) :
    Calls Tryz.prog 106 #[.map (some A)] w fun e w' => ∃ v, e = .returned v ∧ w'.ownsRow w.heap.size 9 1 v r.asked.length (r.asked.map strV) ∧ Below w.heap.size w w' := by
  obtain ⟨i0, hi, hz0, hz1, hz2⟩ := info_parts stInfo
  have hA := h.lt
  have HM := Lib.hid hM
  go_enter Tryz.func106, Tryz.ntmps106
  go_wp2_with (first
    | (at_range; refine wpList_range_own _ rfl _ 109 rfl 9 222 key_k Tryz.underlying109 heldR A n D rfl h ?_; intro w0 hrg0 hg0 hs0)
    | go_in)
  go_frame
  go_loopw [3] (fun lv0 wr => ∃ lv, lv = lv0 ∧ ∃ (left : Lit → Bool) (cnt : Nat), wr.ranges Tryz.prog 9 heldR A w.heap.size n D left cnt ∧ wr.ownsRow (w.heap.size + 1) 9 1 lv (dnL r.asked left).length ((dnL r.asked left).map strV) ∧ Below w.heap.size w wr ∧ w.heap.size + 1 ≤ wr.heap.size) (fun _ wr => wr.rangeLeft A w.heap.size)
  case atStart => exact ⟨_, rfl, _, _, hrg0, by rw [dn_start HM.out]; exact ⟨rfl, .inl ⟨rfl, rfl⟩⟩, (Below.refl _ _).grown hg0 (Nat.le_refl _) (fun k e => by cases e), by omega⟩
  case round =>
    obtain ⟨lv, rfl, left, cnt, hrg, hrow, hbel, hz⟩ := hrel
    have HRG := Lib.hid hrg
    have HROW := Lib.hid hrow
    clear hrg hrow hrg0 hg0 h
    go_wp2_with (first
      | (at_next; refine wpList_next_ranges _ rfl _ rfl 9 key_k heldR Value.string (fun v : Value => v) (fun key kl hkey => by
            cases key <;> simp [keyOf, Tryz.underlying9, mapKey] at hkey
            exact ⟨_, rfl⟩) (fun v y _ => ⟨v, rfl⟩) A w.heap.size n D _ _ rfl HRG.out ?_ ?_)
      | go_in)
    · intro _ hl0
      have hrow := HROW.out
      rw [dn_end hl0] at hrow
      obtain ⟨p, c, rfl⟩ := row_slice hrow
      have hR := Lib.hid hrow
      have hS := sort_small p c r.asked.length (by omega) wr
      clear hrow
      go_wp2_with (go_at_call 157; refine hS.mono ?_; rintro e w2 ⟨rfl, hb2⟩)
      go_ret
      exact ⟨_, rfl, keep_row (own_base hR.out (Nat.le_succ _)) (fun g hg => hb2.block g (hR.out.lt g hg).2), behind hbel hb2⟩
    · intro x c kl yd yp w1 cnt1 hkey hlk hv hat hrg1 hlt hg1 hs1 hen
      obtain ⟨rfl, hxz⟩ := key_inv hkey
      unfold heldR at hv
      simp only [Option.some.injEq, Prod.mk.injEq] at hv
      obtain ⟨rfl, rfl⟩ := hv
      have hc : c = attV (getL r.attrs (bT x.data.toList)) (decide (x.data.toList ∈ r.own)) (decide (x.data.toList ∈ r.asked)) := by
        have h1 := hat (.held attZ)
        rw [HM.out.2 x.data.toList] at h1
        injection h1 with h1; exact h1.symm
      subst hc
      have hrow1 : w1.ownsRow (w.heap.size + 1) 9 1 lv (dnL r.asked left).length ((dnL r.asked left).map strV) := keep_row HROW.out (fun g hg => hg1.block g (HROW.out.lt g hg).2 (fun e => by have := (HROW.out.lt g hg).1; injection e with e; omega))
      have hbel1 : Below w.heap.size w w1 := hbel.grown hg1 (Nat.le_trans (Nat.le_succ _) hz) (fun k e => by injection e with e; omega)
      have HROW1 := Lib.hid hrow1
      have HRG1 := Lib.hid hrg1
      obtain ⟨o, ho⟩ : ∃ o, decide (x.data.toList ∈ r.own) = o := ⟨_, rfl⟩
      obtain ⟨ev, hev⟩ : ∃ ev, (getL r.attrs (bT x.data.toList)).getD ⟨#[]⟩ = ev := ⟨_, rfl⟩
      obtain ⟨eb, heb⟩ : ∃ eb, (getL r.attrs (bT x.data.toList)).isSome = eb := ⟨_, rfl⟩
      unfold attV at hen
      rw [ho, hev, heb] at hen
      by_cases hin : x.data.toList ∈ r.asked
      · have hdn := dn_new hin hone hlk
        have hrow0 := hrow1
        rw [hdn.1] at hrow0
        have hb : decide (x.data.toList ∈ r.asked) = true := decide_eq_true hin
        rw [hb] at hen
        obtain ⟨W3, hW3⟩ : ∃ W3, w1.alloc (.cells #[.string ev, .bool eb, .bool o, .bool true] 222) = W3 := ⟨_, rfl⟩
        have z3 : W3.heap.size = wr.heap.size + 1 := by rw [← hW3]; simp [hs1]
        have HR3 : Hid (W3.ownsRow (w.heap.size + 1) 9 1 lv 0 []) := Lib.hid (by rw [← hW3]; exact hrow0.alloc _)
        have HW3 := Lib.hid hW3
        have e3 : W3.cell? ⟨wr.heap.size, 3, none⟩ = some (.bool true) := by rw [← hs1, ← hW3, World.cell?_alloc_new]; rfl
        clear hrow1 hrow0 hrg1 hin hb hat hkey
        have hB3 : Below w.heap.size w W3 := by rw [← hW3]; exact behind hbel1 (laidNew _ _)
        have HB3 := Lib.hid hB3
        have HDN : Hid (dnL r.asked (fun z => left z && !z.sameKey (.string x.data.toList)) = [x.data.toList]) := Lib.hid hdn.2
        clear hB3 hdn
        go_wp2_with (at_builtin; refine wpList_append_own _ rfl _ _ 25 rfl (w.heap.size + 1) 9 i0 (.string ⟨#[]⟩) 1 16 Tryz.underlying25 hi hz0 hz1 hz2 rfl (by decide) _ _ _ rfl (HR3.out.alloc _) ⟨wr.heap.size + 1, 0, none⟩ 1 1 [.string x] rfl rfl (by rw [← z3]; exact World.news_of_block (cs := #[.string x]) (t := 9) (fr := (0, 0)) (heap_alloc_new W3 _)) (by simp [Value.oneCell']) (by unfold maxLen; omega) (by omega) (by simp; omega) ?_; intro lv6 w6 r6 g6 _)
        have hnew : w6.ranges Tryz.prog 9 heldR A w.heap.size n D (fun z => left z && !z.sameKey (.string x.data.toList)) cnt1 := by
          have h1 := HRG1.out.alloc (.cells #[.string ev, .bool eb, .bool o, .bool true] 222)
          rw [HW3.out] at h1
          refine (h1.alloc _).kept g6 (fun e => ?_) (fun e => ?_)
          · have := (HR3.out.lt _ e.symm).1; omega
          · have := (HR3.out.lt _ e.symm).1; omega
        have hbn : Below w.heap.size w w6 := (behind HB3.out (laidNew W3 _)).grown g6 (by simp; omega) (fun j e => by have := (HR3.out.lt j e).1; omega)
        have hzn : w.heap.size + 1 ≤ w6.heap.size := by have := g6.size; simp at this; omega
        go_roundw
        case rel => exact ⟨_, rfl, _, cnt1, hnew, by rw [HDN.out]; show w6.ownsRow _ _ 1 lv6 1 [Value.string (bT x.data.toList)]; rw [bT_data]; exact r6, hbn, hzn⟩
        case measure => rw [hnew.left_eq, HRG.out.left_eq]; exact hlt
      · have hb : decide (x.data.toList ∈ r.asked) = false := decide_eq_false hin
        rw [hb] at hen
        have hdn := dn_other (left := left) hin
        obtain ⟨W3, hW3⟩ : ∃ W3, w1.alloc (.cells #[.string ev, .bool eb, .bool o, .bool false] 222) = W3 := ⟨_, rfl⟩
        have z3 : W3.heap.size = wr.heap.size + 1 := by rw [← hW3]; simp [hs1]
        have HR3 : Hid (W3.ownsRow (w.heap.size + 1) 9 1 lv (dnL r.asked left).length ((dnL r.asked left).map strV)) := Lib.hid (by rw [← hW3]; exact hrow1.alloc _)
        have e3 : W3.cell? ⟨wr.heap.size, 3, none⟩ = some (.bool false) := by rw [← hs1, ← hW3, World.cell?_alloc_new]; rfl
        have hB3 : Below w.heap.size w W3 := by rw [← hW3]; exact behind hbel1 (laidNew _ _)
        have hnew : W3.ranges Tryz.prog 9 heldR A w.heap.size n D (fun z => left z && !z.sameKey (.string x.data.toList)) cnt1 := by
          have h1 := HRG1.out.alloc (.cells #[.string ev, .bool eb, .bool o, .bool false] 222)
          rw [hW3] at h1; exact h1
        have HB3 := Lib.hid hB3
        have HDN := Lib.hid hdn
        have HNW := Lib.hid hnew
        clear hrow1 hrg1 hin hb hat hkey hdn hB3 hnew
        subst hW3
        go_wp2
        go_roundw
        case rel => exact ⟨_, rfl, _, cnt1, HNW.out, by rw [HDN.out]; exact HR3.out, HB3.out, by omega⟩
        case measure => rw [HNW.out.left_eq, HRG.out.left_eq]; exact hlt
end Go.Proofs.YtbhlnemahhndoaaGreatDoor
namespace Go.Proofs.YtbhlnemahhndoaaGreatDoor
open Go.RowKit Go.Maps
set_option maxRecDepth 100000

/-! ### ahead.Read -/
structure ReadOut (W : World) (t : List Ln × List Dg × List (List UInt8) × List (List UInt8)) (e : Ending) (w' : World) : Prop where
  out : ∃ v1 v2 v3 v4, e = .returned (.tuple #[v1, v2, v3, v4]) ∧ w'.ownsRow W.heap.size 82 3 v1 t.1.length (lnCells t.1) ∧ w'.ownsRow W.heap.size 77 4 v2 t.2.1.length (dgCells t.2.1) ∧
    w'.ownsRow W.heap.size 9 1 v3 t.2.2.1.length (t.2.2.1.map strV) ∧ w'.ownsRow W.heap.size 9 1 v4 t.2.2.2.length (t.2.2.2.map strV)
  bel : Below W.heap.size W w'
def startR (attrs : List At) : Rd := ⟨if checkL attrs = true then attrs else [], [], [], [], [], [], 0, false⟩

set_option maxHeartbeats 8000000 in
theorem read_none (sv av : Value) (srcs attrs : List At) (nb : ByteArray) (w : World) (hS : Attrs w sv srcs) (hf : getL srcs nb = none) :
    Calls Tryz.prog 32 #[sv, av, .string nb] w (ReadOut w (readL srcs attrs nb.data.toList)) := by
  have hF := find_c sv srcs nb w hS
  rw [hf] at hF
  simp only [getV] at hF
  have hR : readL srcs attrs nb.data.toList = ([], [(nb.data.toList, 0, 1, nb.data.toList)], [], []) := by
    unfold readL; rw [findL_v, hf]; rfl
  rw [hR]
  clear hf hS hR
  go_enter Tryz.func32, Tryz.ntmps32
  go_wp2_with (go_at_call 24; refine hF.mono ?_; rintro e w2 ⟨rfl, hb2⟩)
  refine bodyPost_ret (v := .tuple #[.slice none 0 0, .slice (some ⟨w2.heap.size, 0, none⟩) 1 1, .slice none 0 0, .slice none 0 0]) (by simp [results, Tryz.results32, go_sem]) rfl ⟨⟨_, _, _, _, rfl, ⟨rfl, .inl ⟨rfl, rfl⟩⟩, ?_, ⟨rfl, .inl ⟨rfl, rfl⟩⟩, ⟨rfl, .inl ⟨rfl, rfl⟩⟩⟩, behind hb2 (laidNew _ _)⟩
  have hz := hb2.size
  refine ⟨rfl, .inr ⟨w2.heap.size, 1, _, rfl, hz, heap_alloc_new w2 _, Nat.le_refl _, by unfold maxLen; omega, rfl, ?_⟩⟩
  show [_, _, _, _] = [_, _, _, _]
  rw [bT_data]; rfl

set_option maxHeartbeats 8000000 in
theorem read_some (sv av : Value) (srcs attrs : List At) (nb tb : ByteArray) (w : World) (hS : Attrs w sv srcs) (hA : Attrs w av attrs) (hf : getL srcs nb = some tb) (hsrc : ∀ a ∈ srcs, TextOk a.2) (hval : ∀ a ∈ attrs, a.2.size ≤ 100000)
    (hlong : (readR srcs 17 [] nb.data.toList tb.data.toList (startR attrs)).long = false) (hone : (readR srcs 17 [] nb.data.toList tb.data.toList (startR attrs)).asked.length ≤ 1) :
    Calls Tryz.prog 32 #[sv, av, .string nb] w (ReadOut w (readL srcs attrs nb.data.toList)) := by
  obtain ⟨ps, csv, hsv⟩ : ∃ p c, sv = .slice p srcs.length c := by obtain ⟨p, c, e, _⟩ := hS; exact ⟨p, c, e⟩
  subst hsv
  have hF := find_c (.slice ps srcs.length csv) srcs nb w hS
  rw [hf] at hF
  simp only [getV] at hF
  have hT : TextOk tb := by obtain ⟨a, ha, e⟩ := get_in hf; rw [← e]; exact hsrc a ha
  have hR : readL srcs attrs nb.data.toList = ((readR srcs 17 [] nb.data.toList tb.data.toList (startR attrs)).lines, (readR srcs 17 [] nb.data.toList tb.data.toList (startR attrs)).diags, (readR srcs 17 [] nb.data.toList tb.data.toList (startR attrs)).files, (readR srcs 17 [] nb.data.toList tb.data.toList (startR attrs)).asked) := by
    unfold readL; rw [findL_v, hf]; rfl
  rw [hR]
  have hfit : Fit 0 0 0 (startR attrs) := ⟨fun a ha => (by
    unfold startR at ha
    simp only at ha
    split at ha
    · exact hval a ha
    · cases ha), Nat.le_refl _, Nat.le_refl _, Nat.le_refl _, by show 0 ≤ 16384; omega⟩
  have HS := Lib.hid hS
  have HSRC := Lib.hid hsrc
  have HFIT := Lib.hid hfit
  have HT := Lib.hid hT
  have HLONG := Lib.hid hlong
  obtain ⟨fin, hfin⟩ : ∃ fin, readR srcs 17 [] nb.data.toList tb.data.toList (startR attrs) = fin := ⟨_, rfl⟩
  have HFIN := Lib.hid hfin
  rw [hfin] at hone
  rw [hfin]
  have hKN := fun w2 (hb : Below w.heap.size w w2) => known_m av attrs w2 (hA.below hb)
  clear hf hS hR hsrc hfit hT hlong hfin hval hA
  go_enter Tryz.func32, Tryz.ntmps32
  go_wp2_with (first
    | (go_at_call 24; refine hF.mono ?_; rintro e w2 ⟨rfl, hb2⟩)
    | (go_at_call 102; refine (hKN _ hb2).mono ?_; rintro e w3 ⟨rfl, ⟨D, n, hm3, hn3, hD3⟩, hb3⟩)
    | (go_at_call 103; refine (anywhere_c w3).mono ?_; rintro e w4 ⟨rfl, hm4, hb4⟩)
    | (go_at_call 104; refine (inForce_c w4).mono ?_; rintro e w5 ⟨rfl, hm5, hb5⟩))
  obtain ⟨w6, hw6⟩ : ∃ w6, w5.alloc (.cells #[.slice ps srcs.length csv, .map (some w2.heap.size), .map (some w3.heap.size), .map (some w4.heap.size), .slice none 0 0, .int .i64 0, .slice none 0 0, .slice none 0 0, .slice none 0 0] 115) = w6 := ⟨_, rfl⟩
  rw [hw6]
  have b6 : Below w5.heap.size w5 w6 := by rw [← hw6]; exact laidNew _ _
  have k6 : w6.heap[w5.heap.size]? = some (.cells #[.slice ps srcs.length csv, .map (some w2.heap.size), .map (some w3.heap.size), .map (some w4.heap.size), .slice none 0 0, .int .i64 0, .slice none 0 0, .slice none 0 0, .slice none 0 0] 115 (0, 0)) := by rw [← hw6]; exact heap_new _ _
  clear hw6
  have nilRow : ∀ (e : TypeId) (z : Nat), w6.ownsRow w.heap.size e z (.slice none 0 0) 0 [] := fun e z => ⟨by simp, .inl ⟨rfl, rfl⟩⟩
  have z2 := hb2.size
  have z3 := hm3.lt
  have z4 := hm4.lt
  have z5 := hm5.lt
  have y3 := hb3.size
  have y4 := hb4.size
  have y5 := hb5.size
  have bA := behind (behind (behind (behind hb2 hb3) hb4) hb5) b6
  have hD := attL_is hD3 0
  have hRD : RdIs w w5.heap.size ⟨.slice ps srcs.length csv, w2.heap.size, w3.heap.size, w4.heap.size⟩ srcs ⟨.slice none 0 0, .slice none 0 0, .slice none 0 0, .slice none 0 0⟩ (Kof (startR attrs)) [] (startR attrs) w6 :=
    ⟨k6, ⟨D, n, keep_map hm3 ((behind (behind hb4 hb5) b6).block _ z3), by show n ≤ 100100 * 0 + 1000; omega, hD⟩,
      keep_map hm4 ((behind hb5 b6).block _ z4), keep_map hm5 (b6.block _ z5), nilRow _ _, nilRow _ _, nilRow _ _, nilRow _ _, .inl rfl, by show w3.heap.size ≠ w2.heap.size; omega, by show w4.heap.size ≠ w2.heap.size; omega, ⟨by omega, by show _ ≤ w2.heap.size; omega, by show _ ≤ w3.heap.size; omega, by show _ ≤ w4.heap.size; omega⟩, bA, HS.out⟩
  have hAL := all_m w w5.heap.size ⟨.slice ps srcs.length csv, w2.heap.size, w3.heap.size, w4.heap.size⟩ srcs HSRC.out _ (startR attrs) nb tb w6 hRD HFIT.out HT.out HLONG.out
  rw [HFIN.out] at hAL
  have HRD := Lib.hid hRD
  have HBA := Lib.hid bA
  clear hRD bA hD nilRow k6
  generalize w5.heap.size = R at *
  go_wp2_with (go_at_call 105; refine hAL.mono ?_; rintro e w7 ⟨rfl, x', hst⟩)
  have hrd := hst.rd
  obtain ⟨pl, cl, hlv⟩ := row_slice hrd.rln
  obtain ⟨pd, cd, hdv⟩ := row_slice hrd.rdg
  obtain ⟨pf, cf, hfv⟩ := row_slice hrd.rfl'
  have r6 : w7.cell? ⟨R, 6, none⟩ = some (.slice pl fin.lines.length cl) := hrd.cells 6 _ (by rw [← hlv]; rfl)
  have r7 : w7.cell? ⟨R, 7, none⟩ = some (.slice pd fin.diags.length cd) := hrd.cells 7 _ (by rw [← hdv]; rfl)
  have r8 : w7.cell? ⟨R, 8, none⟩ = some (.slice pf fin.files.length cf) := hrd.cells 8 _ (by rw [← hfv]; rfl)
  have r1 : w7.cell? ⟨R, 1, none⟩ = some (.map (some w2.heap.size)) := hrd.cells 1 _ rfl
  obtain ⟨D7, n7, hm7, -, hD7⟩ := hrd.map
  have hAK := asked_m w2.heap.size n7 D7 fin w7.drew (keep_map (w' := w7.drew) hm7 rfl) hD7 hone
  have hRl : R < w7.heap.size := heap_lt hrd.blk
  have HR7 := Lib.hid hrd
  have hl1 := hrd.rln
  have hl2 := hrd.rdg
  have hl3 := hrd.rfl'
  rw [hlv] at hl1
  rw [hdv] at hl2
  rw [hfv] at hl3
  have HL1 := Lib.hid hl1
  have HL2 := Lib.hid hl2
  have HL3 := Lib.hid hl3
  clear hrd hl1 hl2 hl3 hm7 hD7 hst
  go_region_held3 (fun w' => w'.cell? ⟨R, 6, none⟩ = some (.slice pl fin.lines.length cl) ∧ w'.cell? ⟨R, 7, none⟩ = some (.slice pd fin.diags.length cd) ∧ w'.cell? ⟨R, 8, none⟩ = some (.slice pf fin.files.length cf) ∧ w'.cell? ⟨R, 1, none⟩ = some (.map (some w2.heap.size)))
    (first
      | go_keep
      | (refine ⟨?_, ?_, ?_, ?_⟩ <;> first | assumption | (simp; assumption)))
    (first
      | (go_at_call 106; refine hAK.mono ?_; rintro e w8 ⟨v4, rfl, ha4, hb8⟩; have s6 := keep_cell hb8 r6; have s7 := keep_cell hb8 r7; have s8 := keep_cell hb8 r8; have s1 := keep_cell hb8 r1))
  have hb9 : Below w7.heap.size w7 w8 := behind (Below.refl _ _).drew hb8
  have ha5 := own_base ha4 (show w.heap.size ≤ w7.drew.heap.size from HR7.out.bel.size)
  go_wp2
  refine bodyPost_ret (v := .tuple #[.slice pl fin.lines.length cl, .slice pd fin.diags.length cd, .slice pf fin.files.length cf, v4]) (by simp [results, Tryz.results32, go_sem]) rfl ⟨⟨_, _, _, _, rfl, ?_, ?_, ?_, ha5⟩, behind HR7.out.bel hb9⟩
  · exact keep_row HL1.out (fun g hg => hb9.block g (HL1.out.lt g hg).2)
  · exact keep_row HL2.out (fun g hg => hb9.block g (HL2.out.lt g hg).2)
  · exact keep_row HL3.out (fun g hg => hb9.block g (HL3.out.lt g hg).2)
end Go.Proofs.YtbhlnemahhndoaaGreatDoor
namespace Go.Proofs.YtbhlnemahhndoaaGreatDoor
open Go.RowKit Go.Maps
set_option maxRecDepth 100000

/-! ### texts that may be read by these contracts -/
theorem cutW_subs (s : List UInt8) : ∀ c ∈ (cutW s).2, c ∈ s := by
  intro c hc
  unfold cutW trimL at hc
  simp only [List.mem_reverse] at hc
  have h1 := (List.dropWhile_sublist _).subset hc
  rw [List.mem_reverse] at h1
  exact (List.dropWhile_sublist _).subset ((List.dropWhile_sublist _).subset h1)
theorem cutOk_low {s : List UInt8} (_ : ∀ c ∈ s, c.toNat < 128) : CutOk (bT s) := trivial
/-- every text of at most 100000 bytes -/
theorem textOk_any {t : ByteArray} (hs : t.size ≤ 100000) : TextOk t := ⟨hs, fun _ _ _ => ⟨trivial, trivial⟩⟩
theorem textOk_low {t : List UInt8} (h : ∀ c ∈ t, c.toNat < 128) (hs : t.length ≤ 100000) : TextOk (bT t) := by
  refine ⟨by rw [bT_size]; exact hs, fun l hl _ => ?_⟩
  have h1 : ∀ c ∈ l, c.toNat < 128 := fun c hc => by
    rcases lines_of [] t l hl c hc with e | e
    · cases e
    · exact h c e
  exact ⟨cutOk_low h1, cutOk_low (fun c hc => h1 c (cutW_subs l c hc))⟩
/-- no line has a word -/
theorem textOk_plain {t : ByteArray} (h : ∀ c ∈ t.data.toList, ¬ c = 64) (hs : t.size ≤ 100000) : TextOk t := by
  refine ⟨hs, fun l hl h64 => ?_⟩
  exfalso
  cases l with
  | nil => cases h64
  | cons a l =>
    simp only [List.head?_cons, Option.some.injEq] at h64
    subst h64
    rcases lines_of [] t.data.toList _ hl 64 (List.mem_cons_self ..) with e | e
    · cases e
    · exact h 64 e rfl
theorem srcs1_ok : ∀ a ∈ srcs1, TextOk a.2 := by
  intro a ha
  rcases List.mem_cons.1 ha with rfl | ha
  · exact textOk_low (by decide) (by decide)
  · rcases List.mem_cons.1 ha with rfl | ha
    · exact textOk_low (by decide) (by decide)
    · cases ha
theorem srcs2_ok : ∀ a ∈ srcs2, TextOk a.2 := by
  intro a ha
  rcases List.mem_cons.1 ha with rfl | ha
  · exact textOk_low (by decide) (by decide)
  · cases ha
/-! ### the four Reads of alive -/
theorem get_find {srcs : List At} {n t : List UInt8} (h : findL srcs n = some t) : getL srcs (bT n) = some (bT t) := by
  unfold findL at h
  cases hg : getL srcs (bT n) with
  | none => rw [hg] at h; cases h
  | some v => rw [hg] at h; simp only [Option.map_some, Option.some.injEq] at h; rw [← h, bT_data]
theorem readL_some {srcs attrs : List At} {n t : List UInt8} (h : findL srcs n = some t) : readL srcs attrs n = ((readR srcs 17 [] n t (startR attrs)).lines, (readR srcs 17 [] n t (startR attrs)).diags, (readR srcs 17 [] n t (startR attrs)).files, (readR srcs 17 [] n t (startR attrs)).asked) := by
  unfold readL; rw [h]; rfl
/-- Read, where the whole of what it does is known -/
theorem read_is (sv av : Value) (srcs attrs : List At) (n t : List UInt8) (fin : Rd) (w : World) (hS : Attrs w sv srcs) (hA : Attrs w av attrs) (hf : findL srcs n = some t) (hsrc : ∀ a ∈ srcs, TextOk a.2) (hval : ∀ a ∈ attrs, a.2.size ≤ 100000)
    (hr : readR srcs 17 [] n t (startR attrs) = fin) (hl : fin.long = false) (h1 : fin.asked.length ≤ 1) :
    Calls Tryz.prog 32 #[sv, av, .string (bT n)] w (ReadOut w (fin.lines, fin.diags, fin.files, fin.asked)) := by
  have := read_some sv av srcs attrs (bT n) (bT t) w hS hA (get_find hf) hsrc hval (by show (readR srcs 17 [] n t _).long = false; rw [hr]; exact hl) (by show (readR srcs 17 [] n t _).asked.length ≤ 1; rw [hr]; exact h1)
  have e := readL_some (attrs := attrs) hf
  rw [hr] at e
  rw [← e]; exact this
theorem start_one : startR [(bT [120], bT [49])] = stR [(bT [120], bT [49])] [] [] [] 0 := by unfold startR; rw [if_pos (by decide)]; rfl
theorem start_none : startR [] = stR [] [] [] [] 0 := rfl
theorem alive_r1 (sv av : Value) (w : World) (hS : Attrs w sv srcs1) (hA : Attrs w av [(bT [120], bT [49])]) : Calls Tryz.prog 32 #[sv, av, .string (bT [109])] w (ReadOut w ([([109], 1, [97]), ([110], 1, [49]), ([109], 4, [98])], [], [[109], [110]], [[120]])) :=
  read_is sv av srcs1 _ [109] tM _ w hS hA find_m srcs1_ok (by decide) ((congrArg (readR srcs1 17 [] [109] tM) start_one).trans alive_one) rfl (by decide)
theorem alive_r2 (sv av : Value) (w : World) (hS : Attrs w sv srcs1) (hA : Attrs w av []) : Calls Tryz.prog 32 #[sv, av, .string (bT [109])] w (ReadOut w ([([109], 1, [97]), ([110], 1, [123, 120, 125]), ([109], 6, [99])], [], [[109], [110]], [[120]])) :=
  read_is sv av srcs1 _ [109] tM _ w hS hA find_m srcs1_ok (by simp) ((congrArg (readR srcs1 17 [] [109] tM) start_none).trans alive_two) rfl (by decide)
theorem alive_r3 (sv av : Value) (w : World) (hS : Attrs w sv srcs2) (hA : Attrs w av []) : Calls Tryz.prog 32 #[sv, av, .string (bT [109])] w (ReadOut w ([], [([109], 1, 2, [109]), ([109], 2, 3, [64, 102, 111, 111]), ([109], 3, 4, wEnd), ([109], 4, 4, [])], [[109]], [[120]])) :=
  read_is sv av srcs2 _ [109] tF _ w hS hA (by unfold srcs2; rw [find_cons, if_pos rfl]) srcs2_ok (by simp) ((congrArg (readR srcs2 17 [] [109] tF) start_none).trans alive_three) rfl (by decide)
theorem alive_r4 (sv av : Value) (w : World) (hS : Attrs w sv []) : Calls Tryz.prog 32 #[sv, av, .string (bT [107])] w (ReadOut w ([], [([107], 0, 1, [107])], [], [])) :=
  read_none sv av [] [] (bT [107]) w hS rfl
end Go.Proofs.YtbhlnemahhndoaaGreatDoor
namespace Go.Proofs.YtbhlnemahhndoaaGreatDoor
open Go.RowKit Go.Maps
set_option maxRecDepth 100000

/-! ### what the laws call of their own -/
set_option maxHeartbeats 1000000 in
theorem src_m (a b : ByteArray) (w : World) : Calls Tryz.prog 33 #[.string a, .string b] w fun e w' => e = .returned (.agg #[.string a, .string b]) ∧ Below w.heap.size w w' := by
  go_enter Tryz.func33, Tryz.ntmps33
  go_wp2
  (try simp only [Exit.inBlock, Exit.then])
  refine bodyPost_ret (v := .agg #[.string a, .string b]) ?_ rfl ⟨rfl, (Below.refl _ _).alloc (Nat.le_refl _) _⟩
  exact results_cell_row rfl _ _ w.heap.size 69 #[.string a, .string b] (0, 0) _ rfl (heap_alloc_new w _) Tryz.underlying69 rfl (by kernel_rfl)
def plB (c : UInt8) : Bool := !(((c.toNat : Int) == 64) || ((c.toNat : Int) == 123) || ((c.toNat : Int) == 92))
theorem plB_iff (c : UInt8) : plB c = true ↔ plainC c := by
  have h : ∀ n : Nat, n < 256 → (((c.toNat : Int) == (n : Int)) = true ↔ c = UInt8.ofNat n) := fun n hn => by
    rw [beq_iff_eq]
    constructor
    · intro e
      apply UInt8.toNat_inj.1
      rw [UInt8.toNat_ofNat']
      omega
    · rintro rfl
      rw [UInt8.toNat_ofNat']; omega
  have h1 : ((c.toNat : Int) == 64) = true ↔ c = 64 := h 64 (by omega)
  have h2 : ((c.toNat : Int) == 123) = true ↔ c = 123 := h 123 (by omega)
  have h3 : ((c.toNat : Int) == 92) = true ↔ c = 92 := h 92 (by omega)
  unfold plB plainC
  simp only [Bool.not_eq_true', Bool.or_eq_false_iff]
  constructor
  · rintro ⟨⟨a, b⟩, d⟩
    exact ⟨fun e => by (rw [h1.2 e] at a; cases a), fun e => by (rw [h2.2 e] at b; cases b), fun e => by (rw [h3.2 e] at d; cases d)⟩
  · rintro ⟨a, b, d⟩
    exact ⟨⟨Bool.eq_false_iff.2 (fun e => a (h1.1 e)), Bool.eq_false_iff.2 (fun e => b (h2.1 e))⟩, Bool.eq_false_iff.2 (fun e => d (h3.1 e))⟩
/-- neither words, nor braces, nor backslashes -/
def plT (s : List UInt8) : Bool := s.all plB
theorem plain_all (s : List UInt8) : plT s = true ↔ PlainL s := by
  unfold plT
  rw [List.all_eq_true]
  exact ⟨fun h c hc => (plB_iff c).1 (h c hc), fun h c hc => (plB_iff c).2 (h c hc)⟩

set_option maxHeartbeats 1000000 in
theorem plain_m (s : ByteArray) (w : World) (hs : s.size ≤ maxLen) : Calls Tryz.prog 31 #[.string s] w fun e w' => e = .returned (.bool (plT s.data.toList)) ∧ w = w' := by
  unfold maxLen at hs
  go_enter Tryz.func31, Tryz.ntmps31
  go_wp2
  go_loop [3] (fun i => ∃ k : Nat, k ≤ s.size ∧ i = .int .i64 k ∧ (s.data.toList.take k).all plB = true) (fun i => s.size - (intOf i).toNat)
  case atStart => exact ⟨0, by omega, rfl, by simp⟩
  case round =>
    obtain ⟨k, hk, rfl, ha⟩ := hrel
    have HA := Lib.hid ha
    clear ha
    by_cases hlt : k < s.size
    · have HY := Lib.hid (fun (h2 : plB s[k] = true) => all_take_succ s.data.toList plB k (by simpa using hlt) HA.out h2)
      have HN := Lib.hid (fun (h2 : plB s[k] = false) => (all_false s.data.toList plB k (by simpa using hlt) h2 : plT s.data.toList = false))
      cases h1 : ((s[k].toNat : Int) == 64) with
      | true =>
        go_wp2
        go_ret
        exact ⟨ret_bool (HN.out (by unfold plB; rw [h1]; rfl)).symm, rfl⟩
      | false =>
        cases h2 : ((s[k].toNat : Int) == 123) with
        | true =>
          go_wp2
          go_ret
          exact ⟨ret_bool (HN.out (by unfold plB; rw [h1, h2]; rfl)).symm, rfl⟩
        | false =>
          cases h3 : ((s[k].toNat : Int) == 92) with
          | true =>
            go_wp2
            go_ret
            exact ⟨ret_bool (HN.out (by unfold plB; rw [h1, h2, h3]; rfl)).symm, rfl⟩
          | false =>
            go_wp2
            go_round
            case rel => exact ⟨k + 1, by omega, by go_num, HY.out (by unfold plB; rw [h1, h2, h3]; rfl)⟩
            case measure => simp [intOf]; omega
    · have HE := Lib.hid (show s.data.toList.take k = s.data.toList from List.take_of_length_le (by simp; omega))
      go_wp2
      go_ret
      exact ⟨ret_bool (show true = plT s.data.toList by unfold plT; rw [← HE.out]; exact HA.out.symm), rfl⟩

theorem ln_at : ∀ (l : List Ln) (k : Nat) (x : Ln), l[k]? = some x → ∀ j, j < 3 → (lnCells l)[k * 3 + j]? = ([.string (bT x.1), .int .i64 (x.2.1 : Int), .string (bT x.2.2)] : List Value)[j]?
  | [], k, x, h, j, hj => by simp at h
  | a :: l, k, x, h, j, hj => by
    have e : lnCells (a :: l) = [.string (bT a.1), .int .i64 (a.2.1 : Int), .string (bT a.2.2)] ++ lnCells l := rfl
    rw [e]
    cases k with
    | zero =>
      simp only [List.getElem?_cons_zero, Option.some.injEq] at h
      subst h
      rw [List.getElem?_append_left (by simp; omega)]
      simp
    | succ k =>
      rw [List.getElem?_append_right (by simp; omega)]
      have h2 : l[k]? = some x := by simpa using h
      have := ln_at l k x h2 j hj
      rw [← this]
      congr 1
      simp; omega

set_option maxHeartbeats 1000000 in
theorem same_m (B B2 : Nat) (v wv : Value) (file : ByteArray) (ws : List (List UInt8)) (w : World) (h1 : w.ownsRow B 82 3 v (numL file.data.toList 1 ws).length (lnCells (numL file.data.toList 1 ws))) (h2 : w.ownsRow B2 9 1 wv ws.length (ws.map strV)) (hl : ws.length ≤ 1000000) :
    Calls Tryz.prog 34 #[v, .string file, wv] w fun e w' => e = .returned (.bool true) ∧ Below w.heap.size w w' := by
  rw [numL_length] at h1
  obtain ⟨p1, c1, rfl⟩ := row_slice h1
  obtain ⟨p2, c2, rfl⟩ := row_slice h2
  have hc : ∀ k (hk : k < ws.length), ∃ g1 g2, p1 = some ⟨g1, 0, none⟩ ∧ p2 = some ⟨g2, 0, none⟩ ∧ g1 < w.heap.size ∧ g2 < w.heap.size ∧ w.cell? ⟨g2, k, none⟩ = some (.string (bT ws[k])) ∧ w.cell? ⟨g1, k * 3, none⟩ = some (.string file) ∧ w.cell? ⟨g1, k * 3 + 1, none⟩ = some (.int .i64 ((k : Int) + 1)) ∧ w.cell? ⟨g1, k * 3 + 2, none⟩ = some (.string (bT ws[k])) := fun k hk => by
    obtain ⟨g1, d1, cur1, hv1, -, hb1, -⟩ := row_here h1 (by omega)
    obtain ⟨g2, d2, cur2, hv2, -, hb2, -⟩ := row_here h2 (by omega)
    simp only [Value.slice.injEq] at hv1 hv2
    obtain ⟨rfl, -, rfl⟩ := hv1
    obtain ⟨rfl, -, rfl⟩ := hv2
    have hx := numL_at file.data.toList 1 ws k hk
    refine ⟨g1, g2, rfl, rfl, heap_lt hb1, heap_lt hb2, row_cell h2 k _ (by rw [List.getElem?_map, List.getElem?_eq_getElem hk]; rfl), ?_, ?_, ?_⟩
    · exact row_cell h1 (k * 3 + 0) _ (by rw [ln_at _ _ _ hx 0 (by omega)]; show some (Value.string (bT file.data.toList)) = _; rw [bT_data])
    · exact row_cell h1 (k * 3 + 1) _ (by rw [ln_at _ _ _ hx 1 (by omega)]; show some (Value.int .i64 ((1 + k : Nat) : Int)) = _; congr 2; omega)
    · exact row_cell h1 (k * 3 + 2) _ (by rw [ln_at _ _ _ hx 2 (by omega)]; rfl)
  clear h1 h2
  go_enter Tryz.func34, Tryz.ntmps34
  go_wp2
  go_loopw [7] (fun i wr => ∃ k : Nat, k ≤ ws.length ∧ i = .int .i64 k ∧ Below w.heap.size w wr) (fun i _ => ws.length - (intOf i).toNat)
  case atStart => exact ⟨0, by omega, rfl, Below.refl _ _⟩
  case round =>
    obtain ⟨k, hk, rfl, hbel⟩ := hrel
    by_cases hlk : k < ws.length
    · obtain ⟨g1, g2, rfl, rfl, hg1, hg2, e0, e1, e2, e3⟩ := hc k hlk
      have e0 := (hbel.cell (p := ⟨g2, k, none⟩) hg2).trans e0
      have e1 := (hbel.cell (p := ⟨g1, k * 3, none⟩) hg1).trans e1
      have e2 := (hbel.cell (p := ⟨g1, k * 3 + 1, none⟩) hg1).trans e2
      have e3 := (hbel.cell (p := ⟨g1, k * 3 + 2, none⟩) hg1).trans e3
      have hw1 : IntKind.i64.wrap ((k : Int) + 1) = (k : Int) + 1 := by rw [IntKind.wrap_i64]; omega
      have hi1 : (0 : Int) ≤ (k : Int) := by omega
      have hi2 : (k : Int) < (ws.length : Int) := by omega
      clear hc
      go_wp2
      go_quiet (fail)
      go_wp2
      go_roundw
      case rel => exact ⟨k + 1, by omega, by go_num, below_drewN hbel _⟩
      case measure => simp [intOf]; omega
    · go_wp2
      go_ret
      exact ⟨rfl, hbel⟩
end Go.Proofs.YtbhlnemahhndoaaGreatDoor
