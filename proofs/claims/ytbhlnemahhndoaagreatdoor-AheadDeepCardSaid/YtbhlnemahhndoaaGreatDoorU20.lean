/- Merged: TellC, RdFill, LastC, ForceC, ContC. -/
import Derived.Test.YtbhlnemahhndoaaGreatDoorU19
import Derived.Deep.RegionLaw
import Derived.Deep.RegionHeld3
import Derived.BigQuiet
import Derived.Deep.QuietTactic
import Derived.Test.YtbhlnemahhndoaaGreatDoorU10
namespace Go.Proofs.YtbhlnemahhndoaaGreatDoor
open Go.RowKit Go.Maps
set_option maxRecDepth 100000

theorem dgInfo : (Tryz.prog.info? 77).map (fun i => (i.zero, i.size, i.bytes)) = some (some (.agg #[.string ⟨#[]⟩, .int .i64 0, .int .i64 0, .string ⟨#[]⟩]), 4, 48) := by kernel_rfl
theorem lnInfo : (Tryz.prog.info? 82).map (fun i => (i.zero, i.size, i.bytes)) = some (some (.agg #[.string ⟨#[]⟩, .int .i64 0, .string ⟨#[]⟩]), 3, 40) := by kernel_rfl

section
variable {W w : World} {R K : Nat} {k : RdK} {srcs : List At} {x : RdV} {opn : List (List UInt8)} {r : Rd}
theorem RdIs.cells (h : RdIs W R k srcs x K opn r w) (j : Nat) (v : Value) (hv : (rdCells k x r.count)[j]? = some v) : w.cell? ⟨R, j, none⟩ = some v := by simp [World.cell?, h.blk, hv]
theorem RdIs.frozen (h : RdIs W R k srcs x K opn r w) (j : Nat) : w.frozen? ⟨R, j, none⟩ = false := by simp [World.frozen?, h.blk]
theorem cell_at {w : World} {b j : Nat} {cs : Array Value} {t : TypeId} {f : Nat × Nat} (h : w.heap[b]? = some (.cells cs t f)) {v : Value} (hv : cs[j]? = some v) : w.cell? ⟨b, j, none⟩ = some v := by simp [World.cell?, h, hv]
theorem froz_at {w : World} {b j : Nat} {cs : Array Value} {t : TypeId} (h : w.heap[b]? = some (.cells cs t (0, 0))) : w.frozen? ⟨b, j, none⟩ = false := by simp [World.frozen?, h]
theorem heap_old {w w' : World} {row : Option Nat} (hg : w.grownBy w' row) {b : Nat} {o : Obj} (h : w.heap[b]? = some o) (hn : row ≠ some b) : w'.heap[b]? = some o := (hg.block b (heap_lt h) (fun e => hn e.symm)).trans h
theorem heap_alloc {w : World} {b : Nat} {o o' : Obj} (h : w.heap[b]? = some o) : (w.alloc o').heap[b]? = some o := ((laidNew w o').block b (heap_lt h)).trans h
theorem heap_new (w : World) (o : Obj) : (w.alloc o).heap[w.heap.size]? = some o := heap_alloc_new w o
theorem row_slice {w : World} {B n z : Nat} {e : TypeId} {v : Value} {xs : List Value} (h : w.ownsRow B e z v n xs) : ∃ p c, v = .slice p n c := by
  rcases h.2 with ⟨rfl, h0⟩ | ⟨g, cap, cur, rfl, _⟩
  · exact ⟨none, 0, by rw [h0]⟩
  · exact ⟨_, _, rfl⟩
end

/-- how a call that tells ends -/
def Told (W : World) (R : Nat) (k : RdK) (srcs : List At) (x : RdV) (K : Nat) (opn : List (List UInt8)) (r' : Rd) (w : World) (e : Ending) (w' : World) : Prop := e = .returned (.tuple #[]) ∧ ∃ x', StepTo W R k srcs x w x' K opn r' w'

set_option maxHeartbeats 4000000 in
theorem tell_c (W : World) (R K : Nat) (k : RdK) (srcs : List At) (x : RdV) (opn : List (List UInt8)) (r : Rd) (fb tb : ByteArray) (no kind : Nat) (w : World) (h : RdIs W R k srcs x K opn r w) (hd : r.diags.length ≤ 1000000) :
    Calls Tryz.prog 168 #[.pointer (some ⟨R, 0, none⟩), .agg #[.string fb, .int .i64 (no : Int)], .int .i64 (kind : Int), .string tb] w (Told W R k srcs x K opn (r.tell fb.data.toList no kind tb.data.toList) w) := by
  obtain ⟨i0, hi, hz0, hz1, hz2⟩ := info_parts dgInfo
  obtain ⟨p, c, hv⟩ := row_slice h.rdg
  have hown := h.rdg
  rw [hv] at hown
  have c7 := h.cells 7 (.slice p r.diags.length c) (by rw [← hv]; rfl)
  have hR := (h.lt R (.inl rfl)).2
  have hB : W.heap.size ≤ w.heap.size := h.bel.size
  have hnR : (Value.slice p r.diags.length c).ownBlock ≠ some R := by rw [← hv]; exact h.dv_R
  obtain ⟨W1, hW1⟩ : ∃ W1, w.alloc (.cells #[.string fb, .int .i64 (no : Int)] 232) = W1 := ⟨_, rfl⟩
  have b1 : Below w.heap.size w W1 := by rw [← hW1]; exact laidNew _ _
  have z1 : W1.heap.size = w.heap.size + 1 := by rw [← hW1]; simp
  have p0 : W1.cell? ⟨w.heap.size, 0, none⟩ = some (.string fb) := by rw [← hW1, World.cell?_alloc_new]; rfl
  have p1 : W1.cell? ⟨w.heap.size, 1, none⟩ = some (.int .i64 (no : Int)) := by rw [← hW1, World.cell?_alloc_new]; rfl
  have c7' : W1.cell? ⟨R, 7, none⟩ = some (.slice p r.diags.length c) := keep_cell b1 c7
  have hown1 : W1.ownsRow W.heap.size 77 4 (.slice p r.diags.length c) r.diags.length (dgCells r.diags) := KeptBut.row (KeptBut.below (S := fun _ => False) b1) hown (fun _ _ h => h)
  have hblk : W1.heap[R]? = some (.cells (rdCells k x r.count) 115 (0, 0)) := (b1.block R hR).trans h.blk
  have hR1 : R < W1.heap.size := by omega
  have hq1 : w.heap.size < W1.heap.size := by omega
  have HH := Lib.hid h
  have HV := Lib.hid hv
  have HB := Lib.hid hblk
  have H1 := Lib.hid hown1
  have Z1 := Lib.hid z1
  have B1 := Lib.hid b1
  clear h hown c7 hv hblk hown1 z1 b1
  go_enter Tryz.func168, Tryz.ntmps168
  go_wp2
  try rw [hW1]
  clear hW1
  go_region_law (refine step_append_lies _ rfl (.tmp 12) (.tmp 20) 65 rfl W.heap.size 77 i0 (.agg #[.string ⟨#[]⟩, .int .i64 0, .int .i64 0, .string ⟨#[]⟩]) 4 48 Tryz.underlying65 hi hz0 hz1 hz2 rfl (by decide) (.slice p r.diags.length c) r.diags.length (dgCells r.diags) rfl (by exact World.ownsRow.drew (H1.out.alloc _)) ⟨W1.heap.size, 0, none⟩ 1 1 [.string fb, .int .i64 (no : Int), .int .i64 (kind : Int), .string tb] rfl rfl (by exact World.news_of_block (cs := #[.string fb, .int .i64 (no : Int), .int .i64 (kind : Int), .string tb]) (t := 77) (fr := (0, 0)) (heap_alloc_new W1 _)) (by simp [Value.oneCell']) (by omega) (by unfold maxLen; omega) (by omega) (by have := Z1.out; simp; omega) (W1.heap.size + 1) (by simp) ?_; intro g cap w2 r1 r2 hat hlt; have hB2 : w2.heap[R]? = some (.cells (rdCells k x r.count) 115 (0, 0)) := heap_old r2 (heap_alloc (o' := .cells #[.string fb, .int .i64 (no : Int), .int .i64 (kind : Int), .string tb] 77) HB.out) hnR; have d3 : w2.cell? ⟨R, 7, none⟩ = some x.dv := cell_at hB2 rfl; have e3 := froz_at (j := 7) hB2)
  all_goals go_end0
  all_goals
    refine ⟨rfl, _, HH.out.told (behind B1.out ((laidNew W1 _).drew)) (w2 := w2) (by rw [bT_data, bT_data]; exact r1) (by rw [HV.out]; exact r2) ?_⟩
    rcases hat with e | e
    · exact .inl (by rw [HV.out]; exact e)
    · right; have := Z1.out; omega
end Go.Proofs.YtbhlnemahhndoaaGreatDoor
namespace Go.Proofs.YtbhlnemahhndoaaGreatDoor
open Go.RowKit Go.Maps
set_option maxRecDepth 100000

theorem nil_attrs (w : World) : Attrs w (.slice none 0 0) [] := ⟨none, 0, rfl, by simp, ⟨(fun _ ha => by cases ha), fun _ => rfl, Nat.le_refl _⟩, fun h => absurd h (by simp)⟩
theorem loose_nil : Loose [] := ⟨by simp, fun _ ha => by cases ha⟩
theorem texts_kept {S : Nat → Prop} {w w' : World} {v : Value} {l : List (List UInt8)} (h : Texts w v l) (hk : KeptBut S w w') (hS : ∀ g, v.ownBlock = some g → ¬ S g) : Texts w' v l := by
  obtain ⟨p, cap, rfl, hl, hc⟩ := h
  refine ⟨p, cap, rfl, hl, fun h0 => ?_⟩
  obtain ⟨A, rfl, hcc⟩ := hc h0
  exact ⟨A, rfl, fun j hj => (hk.cell (p := ⟨A, j, none⟩) (World.block_lt_of_cell? w _ (hcc j hj)) (hS A rfl)).trans (hcc j hj)⟩
theorem ask_fold (ns : List (List UInt8)) : ∀ r : Rd, (ns.foldl Rd.ask r).attrs = r.attrs ∧ (ns.foldl Rd.ask r).lines = r.lines ∧ (ns.foldl Rd.ask r).diags = r.diags ∧ (ns.foldl Rd.ask r).files = r.files ∧ (ns.foldl Rd.ask r).count = r.count ∧ (ns.foldl Rd.ask r).own = r.own ∧ (ns.foldl Rd.ask r).long = r.long := by
  induction ns with
  | nil => intro r; exact ⟨rfl, rfl, rfl, rfl, rfl, rfl, rfl⟩
  | cons n ns ih =>
    intro r
    obtain ⟨h1, h2, h3, h4, h5, h6, h7⟩ := ih (r.ask n)
    have : (r.ask n).attrs = r.attrs ∧ (r.ask n).lines = r.lines ∧ (r.ask n).diags = r.diags ∧ (r.ask n).files = r.files ∧ (r.ask n).count = r.count ∧ (r.ask n).own = r.own ∧ (r.ask n).long = r.long := by
      unfold Rd.ask; split <;> exact ⟨rfl, rfl, rfl, rfl, rfl, rfl, rfl⟩
    obtain ⟨k1, k2, k3, k4, k5, k6, k7⟩ := this
    rw [List.foldl_cons]
    exact ⟨h1.trans k1, h2.trans k2, h3.trans k3, h4.trans k4, h5.trans k5, h6.trans k6, h7.trans k7⟩
theorem ask_lists (r : Rd) (n : List UInt8) : (r.ask n).lines = r.lines ∧ (r.ask n).diags = r.diags ∧ (r.ask n).files = r.files ∧ (r.ask n).count = r.count := by
  unfold Rd.ask; split <;> exact ⟨rfl, rfl, rfl, rfl⟩

/-- a name is asked for -/
theorem RdIs.asks {W w : World} {R K : Nat} {k : RdK} {srcs : List At} {x : RdV} {opn : List (List UInt8)} {r : Rd} (h : RdIs W R k srcs x K opn r w) (nb : ByteArray) (hK : K < maxLen) (hs : nb.size ≤ maxLen) :
    Calls Tryz.prog 187 #[.map (some k.A), .string nb] w fun e w' => e = .returned (.tuple #[]) ∧ StepTo W R k srcs x w x (K + 1) opn (r.ask nb.data.toList) w' := by
  obtain ⟨D, n, h1, h2, h3⟩ := h.map
  refine (ask_m k.A n D r nb w h1 h3 (by omega) hs).mono ?_
  rintro e w' ⟨rfl, ⟨D', hm, hA⟩, hk⟩
  obtain ⟨e1, e2, e3, e4⟩ := ask_lists r nb.data.toList
  exact ⟨rfl, h.known hk hm (by omega) hA e1 e2 e3 e4⟩
theorem RdIs.turns {W w : World} {R K : Nat} {k : RdK} {srcs : List At} {x : RdV} {opn : List (List UInt8)} {r : Rd} (h : RdIs W R k srcs x K opn r w) (nb vb : ByteArray) (b : Bool) (v : Option ByteArray) (hv : vb = v.getD ⟨#[]⟩ ∧ b = v.isSome) (hK : K < maxLen) (hs : nb.size ≤ maxLen) :
    Calls Tryz.prog 174 #[.map (some k.A), .string nb, .string vb, .bool b] w fun e w' => e = .returned (.tuple #[]) ∧ StepTo W R k srcs x w x (K + 1) opn (r.turn nb.data.toList (oneL nb v)) w' := by
  obtain ⟨D, n, h1, h2, h3⟩ := h.map
  refine (turn_m k.A n D r nb vb b v hv w h1 h3 (by omega) hs).mono ?_
  rintro e w' ⟨rfl, ⟨D', hm, hA⟩, hk⟩
  exact ⟨rfl, h.known hk hm (by omega) hA rfl rfl rfl rfl⟩
theorem RdIs.ofs {W w : World} {R K : Nat} {k : RdK} {srcs : List At} {x : RdV} {opn : List (List UInt8)} {r : Rd} (h : RdIs W R k srcs x K opn r w) (nv : Value) (ns : List (List UInt8)) (hN : Texts w nv ns) (hl : ns.length ≤ 1000000) (hz : ∀ x ∈ ns, x.length ≤ 60) (hv : ∀ a ∈ r.attrs, a.2.size ≤ 100000) :
    Calls Tryz.prog 188 #[.map (some k.A), nv] w fun e w' => ∃ a, e = .returned a ∧ Attrs w' a (ofL r.attrs ns) ∧ Below w.heap.size w w' := by
  obtain ⟨D, n, h1, h2, h3⟩ := h.map
  refine (of_m k.A n D r nv ns w h1 h3 hN hl hz).mono ?_
  rintro e w' ⟨a, rfl, hr, hb⟩
  refine ⟨a, rfl, row_attrs hr rfl ?_ ?_, hb⟩
  · intro a ha
    obtain ⟨n, hn, e1, b, hb, e2⟩ := ofL_mem ha
    have h1 := hz n hn
    have h2 := hv b hb
    rw [e2] at h2
    have h4 : (bT n).size = n.length := by have : (bT n).data.toList.length = (bT n).size := by simp
                                           rw [← this]; rfl
    exact ⟨by rw [e1, h4]; omega, by omega⟩
  · have := ofL_length r.attrs ns; omega
theorem ofL_loose {l : List At} {ns : List (List UInt8)} (hl : ns.length ≤ 1000000) (hz : ∀ x ∈ ns, x.length ≤ 60) (hv : ∀ a ∈ l, a.2.size ≤ 100000) : Loose (ofL l ns) := by
  refine ⟨Nat.le_trans (ofL_length _ _) hl, fun a ha => ?_⟩
  obtain ⟨n, hn, e1, b, hb, e2⟩ := ofL_mem ha
  have h1 := hz n hn
  have h2 := hv b hb
  rw [e2] at h2
  have h4 : (bT n).size = n.length := by have : (bT n).data.toList.length = (bT n).size := by simp
                                         rw [← this]; rfl
  exact ⟨by rw [e1, h4]; omega, h2⟩
theorem name_60 {ns : List (List UInt8)} (h : ∀ x ∈ ns, nameB x = true) : ∀ x ∈ ns, x.length ≤ 60 := fun x hx => (name_size (h x hx)).2
theorem ret_str {a b : ByteArray} (h : a = b) : Ending.returned (.string a) = .returned (.string b) := by rw [h]

set_option maxHeartbeats 4000000 in
theorem fill_m (W : World) (R K : Nat) (k : RdK) (srcs : List At) (x : RdV) (opn : List (List UInt8)) (r : Rd) (tb : ByteArray) (w : World) (h : RdIs W R k srcs x K opn r w) (hs : tb.size ≤ 100000) (hv : ∀ a ∈ r.attrs, a.2.size ≤ 100000) (hK : K + tb.size < maxLen) :
    Calls Tryz.prog 172 #[.pointer (some ⟨R, 0, none⟩), .string tb] w fun e w' => e = .returned (.string (bT (r.fill tb.data.toList).1)) ∧ StepTo W R k srcs x w x (K + tb.size) opn (r.fill tb.data.toList).2 w' := by
  have hF := fill_any (.slice none 0 0) [] tb w (nil_attrs w) loose_nil hs
  have hnm := fill_names [] r.attrs tb.data.toList
  have hcnt := fill_count r.attrs tb.data.toList
  have hnb := fill_nameB r.attrs tb.data.toList
  rw [hnm] at hF
  have hsz : tb.data.toList.length = tb.size := by simp
  rw [hsz] at hcnt
  cases hN : (fillL r.attrs tb.data.toList).2 with
  | nil =>
    rw [hN] at hF
    have hfn := fill_none _ _ hN
    have HR : Hid (bT (r.fill tb.data.toList).1 = tb ∧ (r.fill tb.data.toList).2 = r) := Lib.hid (by
      unfold Rd.fill; rw [hfn]; exact ⟨bT_data tb, rfl⟩)
    have HH := Lib.hid h
    generalize bT (fillL [] tb.data.toList).1 = t0 at hF
    clear hfn hN hnm hcnt hnb h hsz
    go_enter Tryz.func172, Tryz.ntmps172
    go_wp2_with fail
    refine hF.mono ?_
    rintro e w1 ⟨a, rfl, hr, hb⟩
    obtain ⟨p, c, rfl⟩ := row_slice hr
    go_wp2
    go_ret
    refine ⟨ret_str HR.out.1.symm, ?_⟩
    rw [HR.out.2]
    exact ((StepTo.refl HH.out).below hb).mono (by omega)
  | cons n0 nt =>
    obtain ⟨N, hN2⟩ : ∃ N, n0 :: nt = N := ⟨_, rfl⟩
    have hlen0 : 0 < N.length := by rw [← hN2]; simp
    rw [hN2] at hN
    clear hN2
    rw [hN] at hF hcnt hnb hnm
    have hz := name_60 hnb
    have h60 := hz
    have HRF : Hid (bT (r.fill tb.data.toList).1 = bT (fillL (ofL r.attrs N) tb.data.toList).1 ∧ (r.fill tb.data.toList).2 = N.foldl Rd.ask r) := Lib.hid (by
      unfold Rd.fill
      refine ⟨congrArg bT ?_, by rw [hN]⟩
      refine (fill_same (ofL r.attrs N) r.attrs tb.data.toList (fun y hy => ofL_get _ _ _ ?_)).symm
      rw [fill_names (ofL r.attrs N) r.attrs, hN] at hy; exact hy)
    have HZ := Lib.hid hz
    have HH := Lib.hid h
    have HV := Lib.hid hv
    have hW := h.bel.size
    have HLT := Lib.hid (fun b hb => (h.lt b hb).2)
    generalize bT (fillL [] tb.data.toList).1 = t0 at hF
    clear hN hnm hnb h hsz hz h60 hv
    have hne : ((N.length : Int) == 0) = false := by rw [beq_eq_false_iff_ne]; omega
    go_enter Tryz.func172, Tryz.ntmps172
    go_wp2_with fail
    refine hF.mono ?_
    clear hF
    rintro e w1 ⟨a, rfl, hr, hb⟩
    have HT1 := Lib.hid (texts_owned hr rfl (by omega))
    have HRB : Hid (∀ g, a.ownBlock = some g → ¬ Mine R k x g) := Lib.hid (fun g hg hm => by have := (hr.lt g hg).1; have := HLT.out g hm; omega)
    obtain ⟨p, c, rfl⟩ := row_slice hr
    have HB := Lib.hid hb
    have HS0 := Lib.hid (StepTo.refl (HH.out.below hb))
    clear hr hb
    go_wp2
    go_loopw [20] (fun i wr => ∃ j : Nat, j ≤ N.length ∧ i = .int .i64 j ∧ StepTo W R k srcs x w1 x (K + j) opn ((N.take j).foldl Rd.ask r) wr) (fun i _ => N.length - (intOf i).toNat)
    case atStart => exact ⟨0, Nat.zero_le _, rfl, HS0.out⟩
    case round =>
      obtain ⟨j, hj, rfl, hst⟩ := hrel
      have HT2 := texts_kept HT1.out hst.kept (fun g hg => HRB.out g hg)
      have c1 := hst.rd.cells 1 (.map (some k.A)) rfl
      have HST := Lib.hid hst
      clear hst
      by_cases hlt : j < N.length
      · obtain ⟨p2, cap, e0, hl, hc⟩ := HT2
        obtain ⟨A, hp, hcc⟩ := hc hlen0
        simp only [Value.slice.injEq, true_and] at e0
        obtain ⟨rfl, rfl⟩ := e0
        subst hp
        have d1 := hcc j hlt
        obtain ⟨nb, hnb⟩ : ∃ nb, bT N[j] = nb := ⟨_, rfl⟩
        have hnl : nb.data.toList = N[j] := by rw [← hnb]; rfl
        have hn60 := HZ.out N[j] (List.getElem_mem hlt)
        have d2 : wr.cell? ⟨A, j, none⟩ = some (.string nb) := by rw [← hnb]; exact d1
        have hs2 : nb.size ≤ maxLen := by
          have : nb.data.toList.length = nb.size := by simp
          rw [hnl] at this
          unfold maxLen; omega
        have hA := HST.out.rd.asks nb (by omega) hs2
        have HF : Hid ((N.take (j + 1)).foldl Rd.ask r = ((N.take j).foldl Rd.ask r).ask nb.data.toList) := Lib.hid (by
          rw [List.take_succ_eq_append_getElem hlt, List.foldl_append, hnl]; rfl)
        clear hc hcc d1 hnb hnl hn60
        go_wp2_with (go_at_call 187; refine hA.mono ?_; rintro e w3 ⟨rfl, hst3⟩)
        go_roundw
        case rel => exact ⟨j + 1, by omega, by go_num, by rw [HF.out]; exact HST.out.trans hst3⟩
        case measure => simp [intOf]; omega
      · have HE : Hid (N.take j = N) := Lib.hid (List.take_of_length_le (by omega))
        have hfa := (ask_fold N r).1
        rw [HE.out] at HST
        have hv2 : ∀ a ∈ (N.foldl Rd.ask r).attrs, a.2.size ≤ 100000 := by rw [hfa]; exact HV.out
        have hO := HST.out.rd.ofs _ N HT2 (by omega) HZ.out hv2
        rw [hfa] at hO
        have hFF := fun v w h => fill_any v (ofL r.attrs N) tb w h (ofL_loose (by omega) HZ.out HV.out) hs
        clear hfa hv2 HT2
        go_wp2_with (first
          | (go_at_call 188; refine hO.mono ?_; rintro e w3 ⟨a3, rfl, hA3, hb3⟩)
          | (go_at_call 13; refine (hFF _ _ hA3).mono ?_; rintro e w4 ⟨a4, rfl, hr4, hb4⟩))
        go_ret
        refine ⟨ret_str HRF.out.1.symm, ?_⟩
        rw [HRF.out.2]
        exact ((((HST.out.below hb3).below hb4).mono (K' := K + tb.size) (by omega)).ahead HB.out)
end Go.Proofs.YtbhlnemahhndoaaGreatDoor
namespace Go.Proofs.YtbhlnemahhndoaaGreatDoor
open Go.RowKit Go.Maps
set_option maxRecDepth 100000

/-! ### a source and its conditions -/
def cdCell (file : List UInt8) (c : CondP) : List Value := [.string (bT file), .int .i64 (c.line : Int), .bool c.first, .bool c.other, .int .i64 (if c.else1 = true then 1 else 0)]
/-- the one that was opened last stands first -/
def cdCells (file : List UInt8) : List CondP → List Value
  | [] => []
  | c :: t => cdCells file t ++ cdCell file c
theorem cdCells_length (file : List UInt8) : ∀ cs : List CondP, (cdCells file cs).length = cs.length * 5
  | [] => rfl
  | c :: t => by simp [cdCells, cdCells_length file t, cdCell]; omega
/-- of a condition that was opened where nothing is in force no part holds -/
def GoodC : List CondP → Prop
  | [] => True
  | c :: t => (forceL t = true ∨ (c.first = false ∧ c.other = false)) ∧ GoodC t
theorem force_last {c : CondP} {t : List CondP} (h : GoodC (c :: t)) : forceL (c :: t) = if c.else1 = true then c.other else c.first := by
  unfold forceL
  rw [List.all_cons]
  rcases h.1 with h1 | ⟨h1, h2⟩
  · unfold forceL at h1
    rw [h1, Bool.and_true]
  · rw [h1, h2]; split <;> rfl
structure SrcIs (W : World) (R s : Nat) (file : List UInt8) (cv : Value) (cs : List CondP) (w : World) : Prop where
  blk : w.heap[s]? = some (.cells #[.pointer (some ⟨R, 0, none⟩), cv] 241 (0, 0))
  row : w.ownsRow W.heap.size 237 5 cv cs.length (cdCells file cs)
  good : GoodC cs
  hB : W.heap.size ≤ s
theorem row_cell {w : World} {B n z g cap : Nat} {e : TypeId} {xs : List Value} (h : w.ownsRow B e z (.slice (some ⟨g, 0, none⟩) n cap) n xs) (i : Nat) (u : Value) (hu : xs[i]? = some u) : w.cell? ⟨g, i, none⟩ = some u := by
  rcases h.2 with ⟨h1, _⟩ | ⟨g', c', cur, hv, _, hg, _, _, _, ht⟩
  · cases h1
  · simp only [Value.slice.injEq, Option.some.injEq, Addr.mk.injEq, and_true] at hv
    obtain ⟨rfl, -⟩ := hv
    have hi : i < n * z := by rw [← h.1]; exact (List.getElem?_eq_some_iff.1 hu).1
    rw [← ht, List.getElem?_take_of_lt hi] at hu
    exact cell_at hg (by simpa using hu)
theorem row_here {w : World} {B n z : Nat} {e : TypeId} {v : Value} {xs : List Value} (h : w.ownsRow B e z v n xs) (h0 : 0 < n) : ∃ g cap cur, v = .slice (some ⟨g, 0, none⟩) n cap ∧ n ≤ cap ∧ w.heap[g]? = some (.cells cur e (0, 0)) ∧ B ≤ g ∧ cur.size = cap * z := by
  rcases h.2 with ⟨_, h1⟩ | ⟨g', c', cur, hv, hB, hg, h1, _, h2, _⟩
  · omega
  · exact ⟨g', c', cur, hv, h1, hg, hB, h2⟩
theorem SrcIs.cell {W w : World} {R s g cap : Nat} {file : List UInt8} {c : CondP} {t : List CondP} (h : SrcIs W R s file (.slice (some ⟨g, 0, none⟩) (t.length + 1) cap) (c :: t) w) (j : Nat) (u : Value) (hu : (cdCell file c)[j]? = some u) : w.cell? ⟨g, t.length * 5 + j, none⟩ = some u := by
  have hr := h.row
  refine row_cell hr _ u ?_
  unfold cdCells
  rw [List.getElem?_append_right (by rw [cdCells_length]; omega), cdCells_length, Nat.add_sub_cancel_left]
  exact hu

set_option maxHeartbeats 1000000 in
theorem last_nil (W w : World) (R s : Nat) (file : List UInt8) (cv : Value) (h : SrcIs W R s file cv [] w) : Calls Tryz.prog 167 #[.pointer (some ⟨s, 0, none⟩)] w fun e w' => e = .returned (.pointer none) ∧ w = w' := by
  obtain ⟨p, c, rfl⟩ := row_slice h.row
  have c1 := cell_at (j := 1) h.blk rfl
  clear h
  go_enter Tryz.func167, Tryz.ntmps167
  go_wp2
  go_ret
  exact ⟨rfl, rfl⟩

set_option maxHeartbeats 1000000 in
theorem last_at (W w : World) (R s g cap : Nat) (file : List UInt8) (c : CondP) (t : List CondP) (h : SrcIs W R s file (.slice (some ⟨g, 0, none⟩) (t.length + 1) cap) (c :: t) w) (hc : t.length + 1 ≤ 1000000) : Calls Tryz.prog 167 #[.pointer (some ⟨s, 0, none⟩)] w fun e w' => e = .returned (.pointer (some ⟨g, t.length * 5, none⟩)) ∧ ∃ q, w' = w.drewN q := by
  have c1 := cell_at (j := 1) h.blk rfl
  have e1 : IntKind.i64.wrap (((t.length + 1 : Nat) : Int) - 1) = (t.length : Int) := by rw [IntKind.wrap_i64]; omega
  have e2 : (((t.length + 1 : Nat) : Int) == 0) = false := by rw [beq_eq_false_iff_ne]; omega
  generalize t.length = n at *
  clear h
  go_enter Tryz.func167, Tryz.ntmps167
  go_wp2
  go_quiet (fail)
  go_wp2
  go_ret
  exact ⟨rfl, _, rfl⟩
end Go.Proofs.YtbhlnemahhndoaaGreatDoor
namespace Go.Proofs.YtbhlnemahhndoaaGreatDoor
open Go.RowKit Go.Maps
set_option maxRecDepth 100000

theorem drew_drew (w : World) (a b : Nat) : (w.drewN a).drewN b = w.drewN (a + b) := by simp [World.drewN, Nat.add_assoc]
theorem srcDrew {W w : World} {R s q : Nat} {file : List UInt8} {cv : Value} {cs : List CondP} (h : SrcIs W R s file cv cs w) : SrcIs W R s file cv cs (w.drewN q) := ⟨h.blk, h.row, h.good, h.hB⟩

set_option maxHeartbeats 2000000 in
theorem force_c (W w : World) (R s : Nat) (file : List UInt8) (cv : Value) (cs : List CondP) (h : SrcIs W R s file cv cs w) (hc : cs.length ≤ 1000000) : Calls Tryz.prog 165 #[.pointer (some ⟨s, 0, none⟩)] w fun e w' => e = .returned (.bool (forceL cs)) ∧ ∃ q, w' = w.drewN q := by
  cases cs with
  | nil =>
    have hl := last_nil W w R s file cv h
    clear h
    go_enter Tryz.func165, Tryz.ntmps165
    go_wp2_with (go_at_call 167; refine hl.mono ?_; rintro e w' ⟨rfl, rfl⟩)
    go_quiet (fail)
    go_wp2
    go_ret
    exact ⟨rfl, _, rfl⟩
  | cons c t =>
    have hr := h.row
    rw [List.length_cons] at hr
    obtain ⟨g, cap, cur, rfl, -, -, -⟩ := row_here hr (by omega)
    have hl := last_at W w R s g cap file c t h (by simpa using hc)
    have hF := force_last h.good
    have c2 := h.cell 2 (.bool c.first) rfl
    have c3 := h.cell 3 (.bool c.other) rfl
    have c4 := h.cell 4 (.int .i64 (if c.else1 = true then 1 else 0)) rfl
    obtain ⟨f1, hf1⟩ : ∃ f, c.first = f := ⟨_, rfl⟩
    obtain ⟨f2, hf2⟩ : ∃ f, c.other = f := ⟨_, rfl⟩
    rw [hf1, hf2] at hF
    rw [hf1] at c2
    rw [hf2] at c3
    cases he : c.else1 with
    | false =>
      rw [he] at c4 hF
      simp only [Bool.false_eq_true, if_false] at c4 hF
      have HF := Lib.hid hF
      generalize t.length = n at *
      clear h hr hF hf1 hf2 he
      go_enter Tryz.func165, Tryz.ntmps165
      go_wp2_with (go_at_call 167; refine hl.mono ?_; rintro e w' ⟨rfl, q, rfl⟩)
      go_quiet (fail)
      go_wp2
      go_ret
      exact ⟨ret_bool HF.out.symm, _, drew_drew _ _ _⟩
    | true =>
      rw [he] at c4 hF
      simp only [if_true] at c4 hF
      have HF := Lib.hid hF
      generalize t.length = n at *
      clear h hr hF hf1 hf2 he
      go_enter Tryz.func165, Tryz.ntmps165
      go_wp2_with (go_at_call 167; refine hl.mono ?_; rintro e w' ⟨rfl, q, rfl⟩)
      go_quiet (fail)
      go_wp2
      go_ret
      exact ⟨ret_bool HF.out.symm, _, drew_drew _ _ _⟩
end Go.Proofs.YtbhlnemahhndoaaGreatDoor
namespace Go.Proofs.YtbhlnemahhndoaaGreatDoor
open Go.RowKit Go.Maps
set_option maxRecDepth 100000

/-! ### is a text among these? -/
def isT (n : ByteArray) (x : List UInt8) : Bool := n.toList == (bT x).toList
theorem isT_iff (n : ByteArray) (x : List UInt8) : isT n x = true ↔ n.data.toList = x := by
  unfold isT
  rw [beq_iff_eq, Go.ByteArray.toList_eq, Go.ByteArray.toList_eq]
  exact Iff.rfl
def placeT (l : List (List UInt8)) (n : ByteArray) : Int := if l.findIdx (isT n) < l.length then ((l.findIdx (isT n) : Nat) : Int) else -1
theorem ret_placeT {k : Int} {l : List (List UInt8)} {n : ByteArray} (h : k = placeT l n) : Ending.returned (.int .i64 k) = .returned (.int .i64 (placeT l n)) := by rw [h]

set_option maxHeartbeats 1000000 in
theorem indexT_c (B : Nat) (v : Value) (l : List (List UInt8)) (n : ByteArray) (w : World) (h : w.ownsRow B 9 1 v l.length (l.map strV)) (hlen : l.length ≤ 1000000) :
    Calls Tryz.prog 190 #[v, .string n] w fun e w' => e = .returned (.int .i64 (placeT l n)) ∧ Below w.heap.size w w' := by
  have hc : ∀ k (hk : k < l.length), ∃ b cap, v = .slice (some ⟨b, 0, none⟩) l.length cap ∧ b < w.heap.size ∧ w.cell? ⟨b, k, none⟩ = some (.string (bT l[k])) := fun k hk => by
    obtain ⟨b, cap, cur, rfl, -, hb, -⟩ := row_here h (by omega)
    exact ⟨b, cap, rfl, heap_lt hb, row_cell h k _ (by rw [List.getElem?_map, List.getElem?_eq_getElem hk]; rfl)⟩
  obtain ⟨p, cap, rfl⟩ := row_slice h
  clear h
  go_enter Tryz.func190, Tryz.ntmps190
  go_wp2
  go_loopw [8] (fun i wr => ∃ k : Nat, k ≤ l.length ∧ i = .int .i64 k ∧ (∀ j (hj : j < k) (hl : j < l.length), isT n l[j] = false) ∧ Below w.heap.size w wr) (fun i _ => l.length - (intOf i).toNat)
  case atStart => exact ⟨0, by omega, rfl, fun j hj => by omega, Below.refl _ _⟩
  case round =>
    obtain ⟨k, hk, rfl, ha, hbel⟩ := hrel
    have HA := Lib.hid ha
    clear ha
    by_cases hlk : k < l.length
    · obtain ⟨b, cap', hv, hb, c1⟩ := hc k hlk
      simp only [Value.slice.injEq] at hv
      obtain ⟨rfl, -, rfl⟩ := hv
      have c1 := (hbel.cell (p := ⟨b, k, none⟩) hb).trans c1
      have hW := hbel.size
      clear hc
      cases hp : isT n l[k] with
      | true =>
        have HF : Hid ((k : Int) = placeT l n) := Lib.hid (by
          have := idx_hit _ l k hlk (fun j hj => HA.out j hj (by omega)) hp
          unfold placeT; rw [this, if_pos hlk])
        unfold isT at hp
        go_wp2
        go_ret
        exact ⟨ret_placeT HF.out, hbel⟩
      | false =>
        have HN : Hid (∀ j (hj : j < k + 1) (hl : j < l.length), isT n l[j] = false) := Lib.hid (fun j hj hl => by
          by_cases e : j = k
          · subst e; exact hp
          · exact HA.out j (by omega) hl)
        unfold isT at hp
        go_wp2
        go_roundw
        case rel => exact ⟨k + 1, by omega, by go_num, HN.out, hbel⟩
        case measure => simp [intOf]; omega
    · have HE : Hid (-1 = placeT l n) := Lib.hid (by
        have := idx_end (isT n) l (fun j hj => HA.out j (by omega) hj)
        unfold placeT; rw [this, if_neg (by omega)])
      go_wp2
      go_ret
      exact ⟨ret_placeT HE.out, hbel⟩

theorem placeT_mem (l : List (List UInt8)) (n : ByteArray) : decide (0 ≤ placeT l n) = decide (n.data.toList ∈ l) := by
  unfold placeT
  by_cases h : n.data.toList ∈ l
  · have : l.findIdx (isT n) < l.length := List.findIdx_lt_length_of_exists ⟨_, h, (isT_iff _ _).2 rfl⟩
    rw [if_pos this]; simp [h]
  · have : ¬ l.findIdx (isT n) < l.length := fun e => h (by
      have := List.findIdx_getElem (w := e)
      rw [(isT_iff _ _).1 this]; exact List.getElem_mem _)
    rw [if_neg this]; simp [h]
set_option maxHeartbeats 1000000 in
theorem contains_c (B : Nat) (v : Value) (l : List (List UInt8)) (n : ByteArray) (w : World) (h : w.ownsRow B 9 1 v l.length (l.map strV)) (hlen : l.length ≤ 1000000) :
    Calls Tryz.prog 170 #[v, .string n] w fun e w' => e = .returned (.bool (decide (n.data.toList ∈ l))) ∧ Below w.heap.size w w' := by
  have hI := indexT_c B v l n w h hlen
  rw [← placeT_mem]
  obtain ⟨p, cap, rfl⟩ := row_slice h
  generalize placeT l n = m at *
  clear h
  go_enter Tryz.func170, Tryz.ntmps170
  go_wp2_with (go_at_call 190; refine hI.mono ?_; rintro e w2 ⟨rfl, hb2⟩)
  go_ret
  exact ⟨rfl, hb2⟩
end Go.Proofs.YtbhlnemahhndoaaGreatDoor
