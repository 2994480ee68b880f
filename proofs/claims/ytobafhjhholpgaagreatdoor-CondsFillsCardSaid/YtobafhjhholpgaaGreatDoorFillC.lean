import Derived.Test.YtobafhjhholpgaaGreatDoorFillI
import Derived.Test.YtobafhjhholpgaaGreatDoorSize
import Derived.Test.YtobafhjhholpgaaGreatDoorGet
import Derived.Maps.OwnSet
namespace Go.Proofs.YtobafhjhholpgaaGreatDoor
open Go.RowKit Go.Maps
set_option maxRecDepth 100000

theorem strInfo : (Tryz.prog.info? 9).map (fun i => (i.zero, i.size, i.bytes)) = some (some (.string ⟨#[]⟩), 1, 16) := by kernel_rfl
theorem zero_int (w : World) : (zeroValue 3).run Tryz.prog w = .ok (.int .i64 0) w := by kernel_rfl
theorem cat_data (a b : ByteArray) : (a ++ b).data.toList = a.data.toList ++ b.data.toList := by rw [ByteArray.data_append]; simp
theorem cells_cat (a : List UInt8) (s : ByteArray) : Lib.byteCells a ++ Lib.strCells s = Lib.byteCells (a ++ s.data.toList) := by rw [Lib.strCells_eq]; simp [Lib.byteCells]
theorem small_size {l : List At} (h : Small l) : ∀ a ∈ l, a.1.size ≤ 100000 ∧ a.2.size ≤ 100000 := fun a ha => by
  have h1 := sumL_mem l a ha
  have h2 := h.2
  omega
theorem value_size {l : List At} (h : Small l) (nm : List UInt8) : (valueL l nm).length ≤ nm.length + 100002 := by
  unfold valueL
  cases e : getL l (bT nm) with
  | none => simp
  | some v =>
    have : ∃ a ∈ l, a.2 = v := by
      unfold getL at e
      cases e2 : l.find? (fun a => a.1.toList == (bT nm).toList) with
      | none => rw [e2] at e; cases e
      | some a => rw [e2] at e; injection e with e; exact ⟨a, List.mem_of_find?_eq_some e2, e⟩
    obtain ⟨a, ha, rfl⟩ := this
    have := (small_size h a ha).2
    simp; omega
theorem look_known {W w : World} {B m : Nat} {acc : List UInt8} {nv : Value} {asked : List (List UInt8)} {D : DataW Unit} {l : List At} (h : FillI W B acc nv asked m D w) (hM : MapIs D l asked) (nb : ByteArray) (hs : nb.size ≤ maxLen) (hk : nb.data.toList ∈ asked) :
    (Instr.lookup 71 (.map (some (B + 1))) (.string nb) true).run Tryz.prog w = .ok (.tuple #[.int .i64 ((l.findIdx (isP nb) : Nat) : Int), .bool true]) w := by
  obtain ⟨v, ps, hrun, hv⟩ := h.map.look_ok key_k Tryz.underlying71 (zero_int _) (zd := .lit (.int .i64 0)) (zp := []) (plainElem_int Tryz.underlying3 (by decide)) (key_of nb hs)
  obtain ⟨c, rfl, hc, _⟩ := plainElem_int_inv Tryz.underlying3 hv
  obtain ⟨e1, e2⟩ := hM.2 nb.data.toList
  rw [e2 hk] at hc
  rw [e1, decide_eq_true hk] at hrun
  have hc' : c = ((idxL l nb.data.toList : Nat) : Int) := by
    have := congrArg Prod.fst hc
    injection this with this
    injection this with _ this
    exact this.symm
  rw [hc'] at hrun
  unfold idxL at hrun
  rw [bT_data] at hrun
  exact hrun
theorem look_new {W w : World} {B m : Nat} {acc : List UInt8} {nv : Value} {asked : List (List UInt8)} {D : DataW Unit} {l : List At} (h : FillI W B acc nv asked m D w) (hM : MapIs D l asked) (nb : ByteArray) (hs : nb.size ≤ maxLen) (hk : nb.data.toList ∉ asked) :
    ∃ c : Int, (Instr.lookup 71 (.map (some (B + 1))) (.string nb) true).run Tryz.prog w = .ok (.tuple #[.int .i64 c, .bool false]) w := by
  obtain ⟨v, ps, hrun, hv⟩ := h.map.look_ok key_k Tryz.underlying71 (zero_int _) (zd := .lit (.int .i64 0)) (zp := []) (plainElem_int Tryz.underlying3 (by decide)) (key_of nb hs)
  obtain ⟨c, rfl, hc, _⟩ := plainElem_int_inv Tryz.underlying3 hv
  obtain ⟨e1, e2⟩ := hM.2 nb.data.toList
  rw [e1, decide_eq_false hk] at hrun
  exact ⟨c, hrun⟩
theorem one_new (w : World) (x : ByteArray) (t : TypeId) : ∀ j u, [Value.string x][j]? = some u → (w.alloc (.cells #[.string x] t)).cell? ((⟨w.heap.size, 0, none⟩ : Addr).add j) = some u := cell_one_new w (.string x) t
theorem str_one (x : ByteArray) : ∀ u ∈ [Value.string x], u.oneCell' = true := by intro u hu; simp only [List.mem_singleton] at hu; subst hu; rfl
theorem map_snoc (asked : List (List UInt8)) (nb : ByteArray) : asked.map strV ++ [.string nb] = (asked ++ [nb.data.toList]).map strV := by
  rw [List.map_append]; congr 2

/-- the loop's word -/
def FillR (l : List At) (s : ByteArray) (W : World) (c : ByteArray) (nv : Value) (w : World) : Prop :=
  ∃ (acc : List UInt8) (asked : List (List UInt8)) (D : DataW Unit), c.size ≤ s.size ∧ fillL l s.data.toList = goL l c.data.toList acc asked ∧ acc.length + 100002 * c.size ≤ 100002 * s.size ∧ asked.length + c.size ≤ s.size ∧ MapIs D l asked ∧ FillI W W.heap.size acc nv asked asked.length D w
/-- a text's bytes -/
def lenS : Value → Nat
  | .string c => c.size
  | _ => 0

set_option maxHeartbeats 8000000 in
theorem fill_any (v : Value) (l : List At) (s : ByteArray) (w : World) (h : Attrs w v l) (hl2s : Small l) (hs : s.size ≤ 100000) : Calls Tryz.prog 16 #[v, .string s] w fun e w' =>
    ∃ a, e = .returned (.tuple #[.string (bT (fillL l s.data.toList).1), a]) ∧ w'.ownsRow w.heap.size 9 1 a (fillL l s.data.toList).2.length ((fillL l s.data.toList).2.map strV) ∧ Below w.heap.size w w' := by
  obtain ⟨i0, hi, hz0, hz1, hz2⟩ := info_parts strInfo
  have hmm := @run_makeMap Tryz.prog
  have h' := h
  obtain ⟨p, cap, rfl, hl, -, hc⟩ := h'
  have hstart : FillR l s w s (.slice none 0 0) ((w.alloc (.cells #[.pointer none, .slice none 0 0] 70)).alloc (.map #[] 0)) := by
    refine ⟨[], [], .map [], Nat.le_refl _, rfl, by simp, by simp, mapIs_nil l, ⟨?_, ⟨rfl, .inl ⟨rfl, rfl⟩⟩, ?_, by simp, behind (laidNew _ _) (laidNew _ _)⟩⟩
    · exact (Lib.IsBuilderF.of (Lib.fresh_isBuilder 70 5 w)).alloc _
    · have := World.ownsMap_made (w.alloc (.cells #[.pointer none, .slice none 0 0] 70)) Tryz.prog 9 (plainElem (H := Unit) Tryz.prog 3)
      rw [show (w.alloc (.cells #[.pointer none, .slice none 0 0] 70)).heap.size = w.heap.size + 1 from by simp] at this
      exact this
  have HST := Lib.hid hstart
  clear hstart
  go_enter Tryz.func16, Tryz.ntmps16
  go_wp2
  go_loopw [1, 7] (fun sv nv wr => ∃ c : ByteArray, sv = .string c ∧ FillR l s w c nv wr) (fun sv _ _ => lenS sv)
  case atStart => exact ⟨s, rfl, HST.out⟩
  case round =>
    clear HST
    obtain ⟨c, rfl, acc, asked, D, hcs, hg, ha, hb0, hM, hI⟩ := hrel
    have HM := Lib.hid hM
    have HG := Lib.hid hg
    have hI := Lib.hid hI
    clear hM hg
    have hX := fun w => next_c c w (by omega)
    cases hnx : nextL c.data.toList with
    | none =>
      have HF : Hid (fillL l s.data.toList = (acc ++ c.data.toList, asked)) := Lib.hid (by rw [HG.out, go_none l _ _ _ hnx])
      rw [hnx] at hX
      unfold nextV at hX
      clear hnx
      have hl1 : Hid ((Lib.byteCells acc).length + c.size ≤ 140737488355328) := Lib.hid (by rw [Lib.byteCells_length]; omega)
      go_wp2_with (first
        | (go_at_call 83; refine (hX _).mono ?_; rintro e w1 ⟨rfl, hb1⟩; have i1 := hI.out.below hb1; have z1 := i1.le)
        | (go_at_call 84; refine (writeString_c w.heap.size w.heap.size (Lib.byteCells acc) c _ i1.bld hl1.out (by omega)).mono ?_; rintro e w2 ⟨rfl, hbd2, hb2, hk2⟩; rw [cells_cat] at hbd2; have i2 := i1.wrote hbd2 hb2 hk2; have z2 := i2.le)
        | (go_at_call 85; refine (Tryz.Builder_String_any_k w.heap.size w.heap.size (acc ++ c.data.toList) _ i2.bld (by omega)).mono ?_; rintro e w3 ⟨rfl, hbd3, hb3, hk3⟩; have i3 := i2.wrote hbd3 hb3 hk3))
      go_ret2
      rw [HF.out]
      exact ⟨_, rfl, i3.row, i3.bel⟩
    | some x =>
      obtain ⟨a, nm, b0⟩ := x
      obtain ⟨hnm, hlen⟩ := next_parts hnx
      obtain ⟨ab, hab⟩ : ∃ ab : ByteArray, bT a = ab := ⟨_, rfl⟩
      obtain ⟨nb, hnb⟩ : ∃ nb : ByteArray, bT nm = nb := ⟨_, rfl⟩
      obtain ⟨bb, hbb⟩ : ∃ bb : ByteArray, bT b0 = bb := ⟨_, rfl⟩
      have ea : a = ab.data.toList := by rw [← hab]; rfl
      have en : nm = nb.data.toList := by rw [← hnb]; rfl
      have eb : b0 = bb.data.toList := by rw [← hbb]; rfl
      have HX := Lib.hid hnx
      rw [hnx] at hX
      unfold nextV at hX
      simp only [hab, hnb, hbb] at hX
      clear hnx hab hnb hbb
      rw [ea, en, eb] at HX hlen
      rw [en] at hnm
      clear ea en eb
      have hsz : c.size = ab.size + nb.size + 2 + bb.size := by simpa using hlen
      obtain ⟨n1, n2⟩ := name_size hnm
      have hnz : nb.size ≤ maxLen := by unfold maxLen; simp at n2; omega
      have hn1 : 1 ≤ nb.size := by simpa using n1
      have hn60 : nb.size ≤ 60 := by simpa using n2
      have hne : nb.toList.isEmpty = false := by
        rw [empty_list]
        cases e : nb.data.toList with
        | nil => rw [e] at n1; simp at n1
        | cons x t => rfl
      have hne2 : (nb.toList == []) = false := by
        rw [beq_eq_false_iff_ne]; intro e; rw [e] at hne; cases hne
      obtain ⟨k, hix⟩ : ∃ k : Nat, l.findIdx (isP nb) = k := ⟨_, rfl⟩
      obtain ⟨g1, g2⟩ := get_idx l nb
      have hkle := idx_le (isP nb) l
      clear hnm hlen n1 n2
      by_cases hkl : k < l.length
      · have hgv : getL l nb = some l[k].2 := by
          have := g2 (by rw [hix]; exact hkl)
          simp only [hix] at this
          exact this
        rw [hix] at hkle
        clear g1 g2
        by_cases hk : nb.data.toList ∈ asked
        · skip
          obtain ⟨b, o, rfl, hb, hcc⟩ := hc (by omega)
          obtain ⟨-, c2⟩ := hcc k hkl
          have hv : valueL l nb.data.toList = l[k].2.data.toList := by unfold valueL; rw [bT_data, hgv]
          obtain ⟨vb, hvb⟩ : ∃ vb : ByteArray, l[k].2 = vb := ⟨_, rfl⟩
          rw [hvb] at c2 hv
          clear hcc hgv hvb
          have hvz : vb.size ≤ nb.size + 100002 := by
            have h1 := value_size hl2s nb.data.toList
            rw [hv] at h1
            simpa using h1
          have HV := Lib.hid hv
          clear hv
          have HK := Lib.hid hk
          have HGO : Hid (fillL l s.data.toList = goL l bb.data.toList (acc ++ ab.data.toList ++ vb.data.toList) asked) := Lib.hid (by rw [HG.out, go_some l _ _ _ HX.out, HV.out, if_pos hk])
          have hl1 : Hid ((Lib.byteCells acc).length + ab.size ≤ 140737488355328) := Lib.hid (by rw [Lib.byteCells_length]; omega)
          have hl2 : Hid ((Lib.byteCells (acc ++ ab.data.toList)).length + vb.size ≤ 140737488355328) := Lib.hid (by rw [Lib.byteCells_length, List.length_append]; simp; omega)
          clear hk HX
          have ZA := Lib.hid hsz
          clear hsz
          go_wp2_with (first
          | (go_at_call 84; refine (writeString_c w.heap.size w.heap.size _ vb _ i2.bld hl2.out (by omega)).mono ?_; rintro e w7 ⟨rfl, hbd7, hb7, hk7⟩; rw [cells_cat] at hbd7; have i7 := i2.wrote hbd7 hb7 hk7)
          | (go_at_call 83; refine (hX _).mono ?_; rintro e w1 ⟨rfl, hb1⟩; have i1 := hI.out.below hb1; have z1 := i1.le)
          | (go_at_call 84; refine (writeString_c w.heap.size w.heap.size (Lib.byteCells acc) ab _ i1.bld hl1.out (by omega)).mono ?_; rintro e w2 ⟨rfl, hbd2, hb2, hk2⟩; rw [cells_cat] at hbd2; have i2 := i1.wrote hbd2 hb2 hk2; have z2 := i2.le; have hL := look_known i2 HM.out nb hnz HK.out; rw [hix] at hL; have c6 := (i2.bel.cell (p := ⟨b, o + k * 2 + 1, none⟩) hb).trans c2))
          go_roundw
          case rel => exact ⟨bb, rfl, acc ++ ab.data.toList ++ vb.data.toList, asked, D, by have := ZA.out; omega, HGO.out, by have := ZA.out; simp; omega, by have := ZA.out; simp; omega, HM.out, i7⟩
          case measure => have := ZA.out; simp [lenS]; omega
        · skip
          obtain ⟨b, o, rfl, hb, hcc⟩ := hc (by omega)
          obtain ⟨-, c2⟩ := hcc k hkl
          have hv : valueL l nb.data.toList = l[k].2.data.toList := by unfold valueL; rw [bT_data, hgv]
          obtain ⟨vb, hvb⟩ : ∃ vb : ByteArray, l[k].2 = vb := ⟨_, rfl⟩
          rw [hvb] at c2 hv
          clear hcc hgv hvb
          have hvz : vb.size ≤ nb.size + 100002 := by
            have h1 := value_size hl2s nb.data.toList
            rw [hv] at h1
            simpa using h1
          have HV := Lib.hid hv
          clear hv
          have HK := Lib.hid hk
          have HGO : Hid (fillL l s.data.toList = goL l bb.data.toList (acc ++ ab.data.toList ++ vb.data.toList) (asked ++ [nb.data.toList])) := Lib.hid (by rw [HG.out, go_some l _ _ _ HX.out, HV.out, if_neg hk])
          have HMP := Lib.hid (mapIs_put HM.out nb.data.toList)
          have hix2 : idxL l nb.data.toList = k := by unfold idxL; rw [bT_data]; exact hix
          rw [hix2] at HMP
          have hwf : (Lit.int .i64 (k : Int)).wf = true := WalkArith.wf_i64 (by omega)
          have hmx : Hid (asked.length < maxLen) := Lib.hid (by unfold maxLen; omega)
          have hm1 : Hid (asked.length + 1 ≤ maxLen) := Lib.hid (by unfold maxLen; omega)
          have hm2 : Hid ((asked.length + 1) * 16 ≤ 140737488355328) := Lib.hid (by omega)
          have hl1 : Hid ((Lib.byteCells acc).length + ab.size ≤ 140737488355328) := Lib.hid (by rw [Lib.byteCells_length]; omega)
          have hl2 : Hid ((Lib.byteCells (acc ++ ab.data.toList)).length + vb.size ≤ 140737488355328) := Lib.hid (by rw [Lib.byteCells_length, List.length_append]; simp; omega)
          clear hk HX
          have ZA := Lib.hid hsz
          clear hsz
          go_wp2_with (first
          | (go_at_call 84; refine (writeString_c w.heap.size w.heap.size _ vb _ i6.bld hl2.out (by omega)).mono ?_; rintro e w7 ⟨rfl, hbd7, hb7, hk7⟩; rw [cells_cat] at hbd7; have i7 := i6.wrote hbd7 hb7 hk7)
          | (go_at_call 83; refine (hX _).mono ?_; rintro e w1 ⟨rfl, hb1⟩; have i1 := hI.out.below hb1; have z1 := i1.le)
          | (go_at_call 84; refine (writeString_c w.heap.size w.heap.size (Lib.byteCells acc) ab _ i1.bld hl1.out (by omega)).mono ?_; rintro e w2 ⟨rfl, hbd2, hb2, hk2⟩; rw [cells_cat] at hbd2; have i2 := i1.wrote hbd2 hb2 hk2; have z2 := i2.le; obtain ⟨cc, hL⟩ := look_new i2 HM.out nb hnz HK.out)
          | (go_at_call 82; refine (named_c nb _).mono ?_; rintro e w3 ⟨rfl, rfl⟩)
          | (go_at_call 23; have i3 := i2.below (laidNew w2 (.cells #[.string nb] 9)); refine (find_named _ l nb w2.heap.size _ (h.below i3.bel) (laid_cell _ _ rfl _ _) (by simp)).mono ?_; rw [hix]; rintro e w4 ⟨rfl, hb4⟩; have i4 := i3.below hb4; have z4 := i4.le)
          | (at_mapUpdate; refine wpList_mapUpdate_own _ rfl _ _ _ 71 rfl 9 3 key_k Tryz.underlying71 _ (w.heap.size + 1) asked.length D rfl i4.map hmx.out _ _ _ rfl rfl (key_of nb hnz) _ [] (plainElem_int Tryz.underlying3 hwf) ?_; intro w5 hm5 hg5; have i5 := i4.mapped hm5 hg5; have i5b := i5.below (laidNew w5 (.cells #[.string nb] 9)); have z5 := i5b.le)
          | (at_builtin; refine wpList_append_own _ rfl _ _ 52 rfl w.heap.size 9 i0 (.string ⟨#[]⟩) 1 16 Tryz.underlying52 hi hz0 hz1 hz2 rfl (by decide) _ _ _ rfl i5b.row ⟨w5.heap.size, 0, none⟩ 1 1 [.string nb] rfl rfl (one_new _ _ _) (str_one _) hm1.out hm2.out (by omega) ?_; intro nv6 w6 r6 g6 _; have i6 := i5b.named (asked' := asked ++ [nb.data.toList]) (by rw [← map_snoc, List.length_append]; exact r6) g6; have z6 := i6.le; have c6 := (i6.bel.cell (p := ⟨b, o + k * 2 + 1, none⟩) hb).trans c2))
          go_roundw
          case rel => exact ⟨bb, rfl, acc ++ ab.data.toList ++ vb.data.toList, asked ++ [nb.data.toList], D.put (.string nb.data.toList) (.lit (.int .i64 (k : Int))), by have := ZA.out; omega, HGO.out, by have := ZA.out; simp; omega, by have := ZA.out; simp; omega, HMP.out, by rw [List.length_append]; exact i7⟩
          case measure => have := ZA.out; simp [lenS]; omega
      · have hgv : getL l nb = none := g1 (by rw [hix]; rw [hix] at hkle; omega)
        rw [hix] at hkle
        clear g1 g2
        by_cases hk : nb.data.toList ∈ asked
        · skip
          obtain ⟨vb, hvb⟩ : ∃ vb : ByteArray, (⟨#[123]⟩ : ByteArray) ++ nb ++ ⟨#[125]⟩ = vb := ⟨_, rfl⟩
          have hv : valueL l nb.data.toList = vb.data.toList := by
            unfold valueL; rw [bT_data, hgv, ← hvb, cat_data, cat_data]; rfl
          clear hgv
          have hvz : vb.size ≤ nb.size + 100002 := by
            have h1 := value_size hl2s nb.data.toList
            rw [hv] at h1
            simpa using h1
          have HV := Lib.hid hv
          clear hv
          have HK := Lib.hid hk
          have HGO : Hid (fillL l s.data.toList = goL l bb.data.toList (acc ++ ab.data.toList ++ vb.data.toList) asked) := Lib.hid (by rw [HG.out, go_some l _ _ _ HX.out, HV.out, if_pos hk])
          have hl1 : Hid ((Lib.byteCells acc).length + ab.size ≤ 140737488355328) := Lib.hid (by rw [Lib.byteCells_length]; omega)
          have hl2 : Hid ((Lib.byteCells (acc ++ ab.data.toList)).length + vb.size ≤ 140737488355328) := Lib.hid (by rw [Lib.byteCells_length, List.length_append]; simp; omega)
          clear hk HX
          have ZA := Lib.hid hsz
          clear hsz
          go_wp2_with (first
          | (go_at_call 84; refine (writeString_c w.heap.size w.heap.size _ vb _ i2.bld hl2.out (by omega)).mono ?_; rintro e w7 ⟨rfl, hbd7, hb7, hk7⟩; rw [cells_cat] at hbd7; have i7 := i2.wrote hbd7 hb7 hk7)
          | (go_at_call 83; refine (hX _).mono ?_; rintro e w1 ⟨rfl, hb1⟩; have i1 := hI.out.below hb1; have z1 := i1.le)
          | (go_at_call 84; refine (writeString_c w.heap.size w.heap.size (Lib.byteCells acc) ab _ i1.bld hl1.out (by omega)).mono ?_; rintro e w2 ⟨rfl, hbd2, hb2, hk2⟩; rw [cells_cat] at hbd2; have i2 := i1.wrote hbd2 hb2 hk2; have z2 := i2.le; have hL := look_known i2 HM.out nb hnz HK.out; rw [hix] at hL))
          go_roundw
          case rel => exact ⟨bb, rfl, acc ++ ab.data.toList ++ vb.data.toList, asked, D, by have := ZA.out; omega, HGO.out, by have := ZA.out; simp; omega, by have := ZA.out; simp; omega, HM.out, i7⟩
          case measure => have := ZA.out; simp [lenS]; omega
        · skip
          obtain ⟨vb, hvb⟩ : ∃ vb : ByteArray, (⟨#[123]⟩ : ByteArray) ++ nb ++ ⟨#[125]⟩ = vb := ⟨_, rfl⟩
          have hv : valueL l nb.data.toList = vb.data.toList := by
            unfold valueL; rw [bT_data, hgv, ← hvb, cat_data, cat_data]; rfl
          clear hgv
          have hvz : vb.size ≤ nb.size + 100002 := by
            have h1 := value_size hl2s nb.data.toList
            rw [hv] at h1
            simpa using h1
          have HV := Lib.hid hv
          clear hv
          have HK := Lib.hid hk
          have HGO : Hid (fillL l s.data.toList = goL l bb.data.toList (acc ++ ab.data.toList ++ vb.data.toList) (asked ++ [nb.data.toList])) := Lib.hid (by rw [HG.out, go_some l _ _ _ HX.out, HV.out, if_neg hk])
          have HMP := Lib.hid (mapIs_put HM.out nb.data.toList)
          have hix2 : idxL l nb.data.toList = k := by unfold idxL; rw [bT_data]; exact hix
          rw [hix2] at HMP
          have hwf : (Lit.int .i64 (k : Int)).wf = true := WalkArith.wf_i64 (by omega)
          have hmx : Hid (asked.length < maxLen) := Lib.hid (by unfold maxLen; omega)
          have hm1 : Hid (asked.length + 1 ≤ maxLen) := Lib.hid (by unfold maxLen; omega)
          have hm2 : Hid ((asked.length + 1) * 16 ≤ 140737488355328) := Lib.hid (by omega)
          have hl1 : Hid ((Lib.byteCells acc).length + ab.size ≤ 140737488355328) := Lib.hid (by rw [Lib.byteCells_length]; omega)
          have hl2 : Hid ((Lib.byteCells (acc ++ ab.data.toList)).length + vb.size ≤ 140737488355328) := Lib.hid (by rw [Lib.byteCells_length, List.length_append]; simp; omega)
          clear hk HX
          have ZA := Lib.hid hsz
          clear hsz
          go_wp2_with (first
          | (go_at_call 84; refine (writeString_c w.heap.size w.heap.size _ vb _ i6.bld hl2.out (by omega)).mono ?_; rintro e w7 ⟨rfl, hbd7, hb7, hk7⟩; rw [cells_cat] at hbd7; have i7 := i6.wrote hbd7 hb7 hk7)
          | (go_at_call 83; refine (hX _).mono ?_; rintro e w1 ⟨rfl, hb1⟩; have i1 := hI.out.below hb1; have z1 := i1.le)
          | (go_at_call 84; refine (writeString_c w.heap.size w.heap.size (Lib.byteCells acc) ab _ i1.bld hl1.out (by omega)).mono ?_; rintro e w2 ⟨rfl, hbd2, hb2, hk2⟩; rw [cells_cat] at hbd2; have i2 := i1.wrote hbd2 hb2 hk2; have z2 := i2.le; obtain ⟨cc, hL⟩ := look_new i2 HM.out nb hnz HK.out)
          | (go_at_call 82; refine (named_c nb _).mono ?_; rintro e w3 ⟨rfl, rfl⟩)
          | (go_at_call 23; have i3 := i2.below (laidNew w2 (.cells #[.string nb] 9)); refine (find_named _ l nb w2.heap.size _ (h.below i3.bel) (laid_cell _ _ rfl _ _) (by simp)).mono ?_; rw [hix]; rintro e w4 ⟨rfl, hb4⟩; have i4 := i3.below hb4; have z4 := i4.le)
          | (at_mapUpdate; refine wpList_mapUpdate_own _ rfl _ _ _ 71 rfl 9 3 key_k Tryz.underlying71 _ (w.heap.size + 1) asked.length D rfl i4.map hmx.out _ _ _ rfl rfl (key_of nb hnz) _ [] (plainElem_int Tryz.underlying3 hwf) ?_; intro w5 hm5 hg5; have i5 := i4.mapped hm5 hg5; have i5b := i5.below (laidNew w5 (.cells #[.string nb] 9)); have z5 := i5b.le)
          | (at_builtin; refine wpList_append_own _ rfl _ _ 52 rfl w.heap.size 9 i0 (.string ⟨#[]⟩) 1 16 Tryz.underlying52 hi hz0 hz1 hz2 rfl (by decide) _ _ _ rfl i5b.row ⟨w5.heap.size, 0, none⟩ 1 1 [.string nb] rfl rfl (one_new _ _ _) (str_one _) hm1.out hm2.out (by omega) ?_; intro nv6 w6 r6 g6 _; have i6 := i5b.named (asked' := asked ++ [nb.data.toList]) (by rw [← map_snoc, List.length_append]; exact r6) g6; have z6 := i6.le))
          go_roundw
          case rel => exact ⟨bb, rfl, acc ++ ab.data.toList ++ vb.data.toList, asked ++ [nb.data.toList], D.put (.string nb.data.toList) (.lit (.int .i64 (k : Int))), by have := ZA.out; omega, HGO.out, by have := ZA.out; simp; omega, by have := ZA.out; simp; omega, HMP.out, by rw [List.length_append]; exact i7⟩
          case measure => have := ZA.out; simp [lenS]; omega
end Go.Proofs.YtobafhjhholpgaaGreatDoor
