import Derived.Test.YtcdlleeonfnamaaFillI
import Derived.Test.YtcdlleeonfnamaaSize
import Derived.Test.YtcdlleeonfnamaaGet
import Derived.Lib.Hide
import Derived.Maps.OwnSet
namespace Go.Proofs.Ytcdlleeonfnamaa
open Go.RowKit Go.Maps
set_option maxRecDepth 100000

theorem strInfo : (Try.prog.info? 9).map (fun i => (i.zero, i.size, i.bytes)) = some (some (.string ⟨#[]⟩), 1, 16) := by kernel_rfl
theorem zero_ans (w : World) : (zeroValue 69).run Try.prog w = .ok (ansV ⟨#[]⟩ false) w := by rfl
theorem cat_data (a b : ByteArray) : (a ++ b).data.toList = a.data.toList ++ b.data.toList := by rw [ByteArray.data_append]; simp
theorem cells_cat (a : List UInt8) (s : ByteArray) : Lib.byteCells a ++ Lib.strCells s = Lib.byteCells (a ++ s.data.toList) := by rw [Lib.strCells_eq]; simp [Lib.byteCells]
/-- what is gone through: not too many, none too long -/
def Loose (l : List At) : Prop := l.length ≤ 1000000 ∧ ∀ a ∈ l, a.1.size ≤ 100000 ∧ a.2.size ≤ 100000
theorem small_loose {l : List At} (h : Small l) : Loose l := ⟨by have := h.1; omega, fun a ha => by
  have h1 := sumL_mem l a ha
  have h2 := h.2
  omega⟩
theorem value_size {l : List At} (h : Loose l) (nm : List UInt8) : (valueL l nm).length ≤ nm.length + 100002 := by
  unfold valueL
  cases e : getL l (bT nm) with
  | none => simp
  | some v =>
    have : ∃ a ∈ l, a.2 = v := by
      unfold getL at e
      cases e2 : l.find? (fun a => a.1.toList == (bT nm).toList) with
      | none => rw [e2] at e; cases e
      | some a => rw [e2] at e; injection e with e; exact ⟨a, List.mem_of_find?_eq_some e2, e⟩
    obtain ⟨a, ha, rfl⟩ := this
    have := (h.2 a ha).2
    simp; omega
/-- a look at the answers -/
theorem look_yes {w : World} {b m : Nat} {D : DataW Value} {l : List At} {asked : List (List UInt8)} (h : w.ownsMap Try.prog 9 heldR b m D) (hM : AnsIs D l asked) (nb : ByteArray) (hs : nb.size ≤ maxLen) (hk : Maps.has D (.string nb.data.toList) = true) {vb : ByteArray} (hv : bT (valueL l nb.data.toList) = vb) {a : Bool} (ha : decide (nb.data.toList ∈ asked) = a) :
    (Instr.lookup 61 (.map (some b)) (.string nb) true).run Try.prog w = .ok (.tuple #[.agg #[.string vb, .bool a], .bool true]) w := by
  obtain ⟨v, ps, hrun, hR⟩ := h.look_ok key_k Try.underlying61 (zero_ans _) (zd := .held (ansV ⟨#[]⟩ false)) (zp := []) rfl (key_of nb hs)
  rw [hrun, hk, heldR_out hR ((hM.2 nb.data.toList).2 hk _), hv, ha]
  rfl
theorem look_no {w : World} {b m : Nat} {D : DataW Value} (h : w.ownsMap Try.prog 9 heldR b m D) (nb : ByteArray) (hs : nb.size ≤ maxLen) (hk : Maps.has D (.string nb.data.toList) = false) :
    (Instr.lookup 61 (.map (some b)) (.string nb) true).run Try.prog w = .ok (.tuple #[.agg #[.string ⟨#[]⟩, .bool false], .bool false]) w := by
  obtain ⟨v, ps, hrun, hR⟩ := h.look_ok key_k Try.underlying61 (zero_ans _) (zd := .held (ansV ⟨#[]⟩ false)) (zp := []) rfl (key_of nb hs)
  rw [hrun, hk, heldR_out hR (Maps.atKey_of_not_has hk _)]
  rfl
theorem one_new (w : World) (x : ByteArray) (t : TypeId) : ∀ j u, [Value.string x][j]? = some u → (w.alloc (.cells #[.string x] t)).cell? ((⟨w.heap.size, 0, none⟩ : Addr).add j) = some u := cell_one_new w (.string x) t
theorem str_one (x : ByteArray) : ∀ u ∈ [Value.string x], u.oneCell' = true := by intro u hu; simp only [List.mem_singleton] at hu; subst hu; rfl
theorem map_snoc (asked : List (List UInt8)) (nb : ByteArray) : asked.map strV ++ [.string nb] = (asked ++ [nb.data.toList]).map strV := by
  rw [List.map_append]; congr 2

set_option maxHeartbeats 4000000 in
theorem answersOf_any (v : Value) (l : List At) (w : World) (h : Attrs w v l) (hl2 : Loose l) : Calls Try.prog 31 #[v] w fun e w' =>
    ∃ D, e = .returned (.map (some w.heap.size)) ∧ w'.ownsMap Try.prog 9 heldR w.heap.size l.length D ∧ AnsIs D l [] ∧ Below w.heap.size w w' := by
  have hmm := @run_makeMap Try.prog
  have h' := h
  obtain ⟨p, cap, rfl, hl, -, hc⟩ := h'
  have hll := hl2.1
  have O0 := Lib.hid (World.ownsMap_made w Try.prog 9 heldR)
  go_enter Try.func31, Try.ntmps31
  go_wp2
  go_loopw [11] (fun i wr => ∃ (k : Nat) (D : DataW Value), k ≤ l.length ∧ i = .int .i64 k ∧ wr.ownsMap Try.prog 9 heldR w.heap.size k D ∧ AnsIs D (l.take k) [] ∧ Below w.heap.size w wr) (fun i _ => l.length - (intOf i).toNat)
  case atStart => exact ⟨0, .map [], Nat.zero_le _, rfl, O0.out, ansIs_nil, laidNew _ _⟩
  case round =>
    clear O0
    obtain ⟨k, D, hk, rfl, hown, hM, hbel⟩ := hrel
    have HM := Lib.hid hM
    have HO := Lib.hid hown
    clear hM hown
    by_cases hlt : k < l.length
    · obtain ⟨b, o, rfl, hb, hcc⟩ := hc (by omega)
      obtain ⟨c1, c2⟩ := hcc k hlt
      have d1 := (hbel.cell (p := ⟨b, o + k * 2, none⟩) hb).trans c1
      have d2 := (hbel.cell (p := ⟨b, o + k * 2 + 1, none⟩) hb).trans c2
      have hsz := (hl2.2 l[k] (List.getElem_mem hlt)).1
      have hn : l[k].1.size ≤ maxLen := by unfold maxLen; omega
      have HT : Hid (l.take (k + 1) = l.take k ++ [l[k]]) := Lib.hid (List.take_succ_eq_append_getElem hlt)
      obtain ⟨nb, hnb⟩ : ∃ nb, l[k].1 = nb := ⟨_, rfl⟩
      obtain ⟨vb, hvb⟩ : ∃ vb, l[k].2 = vb := ⟨_, rfl⟩
      have HP : Hid (l[k] = (nb, vb)) := Lib.hid (by rw [← hnb, ← hvb])
      rw [hnb] at d1 hn
      rw [hvb] at d2
      clear hc hcc c1 c2 hnb hvb hsz
      cases hk2 : Maps.has D (.string nb.data.toList) with
      | true =>
        have HK := Lib.hid hk2
        obtain ⟨vv, hvv⟩ : ∃ vv, bT (valueL (l.take k) nb.data.toList) = vv := ⟨_, rfl⟩
        have HV := Lib.hid hvv
        clear hk2 hvv
        go_wp2_with (refine wpList_lookup_run _ rfl _ _ _ _ rfl _ _ rfl rfl _ (look_yes (HO.out.alloc _) HM.out nb hn HK.out HV.out rfl) ?_)
        go_roundw
        case rel => exact ⟨k + 1, D, by omega, by go_num, ((HO.out.alloc _).alloc _).mono (by omega), by rw [HT.out, HP.out]; exact ansIs_known HM.out (nb, vb) HK.out, behind (behind hbel (laidNew _ _)) (laidNew _ _)⟩
        case measure => simp [intOf]; omega
      | false =>
        have HK := Lib.hid hk2
        clear hk2
        have hkm : k < maxLen := by unfold maxLen; omega
        go_wp2_with (first
          | (refine wpList_lookup_run _ rfl _ _ _ _ rfl _ _ rfl rfl _ (look_no (HO.out.alloc _) nb hn HK.out) ?_)
          | (at_mapUpdate; refine wpList_mapUpdate_own _ rfl _ _ _ 61 rfl 9 69 key_k Try.underlying61 heldR w.heap.size k D rfl ((HO.out.alloc _).alloc _) hkm _ _ _ rfl rfl (key_of nb hn) _ [] rfl ?_; intro w5 hm5 hg5))
        go_roundw
        case rel => exact ⟨k + 1, _, by omega, by go_num, hm5, by rw [HT.out, HP.out]; exact ansIs_more HM.out (nb, vb) HK.out, (behind (behind hbel (laidNew _ _)) (laidNew _ _)).grown hg5 (by have := hbel.size; simp; omega) (fun j e => by injection e with e; omega)⟩
        case measure => simp [intOf]; omega
    · have HE : Hid (l.take k = l) := Lib.hid (List.take_of_length_le (by omega))
      go_wp2
      go_ret
      exact ⟨D, rfl, HO.out.mono (by omega), by rw [← HE.out]; exact HM.out, hbel⟩

/-- the loop's word -/
def FillR (l : List At) (s : ByteArray) (W : World) (c : ByteArray) (nv : Value) (w : World) : Prop :=
  ∃ (acc : List UInt8) (asked : List (List UInt8)) (D : DataW Value), c.size ≤ s.size ∧ fillL l s.data.toList = goL l c.data.toList acc asked ∧ acc.length + 100002 * c.size ≤ 100002 * s.size ∧ asked.length + c.size ≤ s.size ∧ AnsIs D l asked ∧ FillI W W.heap.size acc nv asked (l.length + asked.length) D w
/-- a text's bytes -/
def lenS : Value → Nat
  | .string c => c.size
  | _ => 0
theorem ans_cell (w : World) (a b : Value) (t : TypeId) : (w.alloc (.cells #[a, b] t)).cell? ⟨w.heap.size, 0, none⟩ = some a := by
  rw [World.cell?_alloc_new]; rfl

set_option maxHeartbeats 8000000 in
theorem fill_any (v : Value) (l : List At) (s : ByteArray) (w : World) (h : Attrs w v l) (hl2s : Loose l) (hs : s.size ≤ 100000) : Calls Try.prog 18 #[v, .string s] w fun e w' =>
    ∃ a, e = .returned (.tuple #[.string (bT (fillL l s.data.toList).1), a]) ∧ w'.ownsRow w.heap.size 9 1 a (fillL l s.data.toList).2.length ((fillL l s.data.toList).2.map strV) ∧ Below w.heap.size w w' := by
  obtain ⟨i0, hi, hz0, hz1, hz2⟩ := info_parts strInfo
  have hll := hl2s.1
  have hW1 : (w.alloc (.cells #[.pointer none, .slice none 0 0] 60)).heap.size = w.heap.size + 1 := by simp
  have hA := answersOf_any v l (w.alloc (.cells #[.pointer none, .slice none 0 0] 60)) (h.below (laidNew _ _)) hl2s
  rw [hW1] at hA
  clear hW1
  go_enter Try.func18, Try.ntmps18
  go_wp2_with fail
  refine hA.mono ?_
  clear hA
  rintro e w0 ⟨D0, rfl, hown0, hM0, hb0⟩
  have hstart : FillR l s w s (.slice none 0 0) w0 := by
    refine ⟨[], [], D0, Nat.le_refl _, rfl, by simp, by simp, hM0, ⟨?_, ⟨rfl, .inl ⟨rfl, rfl⟩⟩, hown0, hown0.lt, ?_⟩⟩
    · exact builder_same (Lib.IsBuilderF.of (Lib.fresh_isBuilder 60 5 w)) (hb0.block _ (by omega)) (fun g c fz hg => hb0.block _ (by have := lt_of hg; simp at this; omega))
    · exact (laidNew w (.cells #[.pointer none, .slice none 0 0] 60)).trans (hb0.mono (by omega))
  have HST := Lib.hid hstart
  clear hstart hown0 hM0 hb0
  go_wp2
  go_loopw [1, 7] (fun sv nv wr => ∃ c : ByteArray, sv = .string c ∧ FillR l s w c nv wr) (fun sv _ _ => lenS sv)
  case atStart => exact ⟨s, rfl, HST.out⟩
  case round =>
    clear HST
    obtain ⟨c, rfl, acc, asked, D, hcs, hg, ha, hb0, hM, hI⟩ := hrel
    have HM := Lib.hid hM
    have HG := Lib.hid hg
    have hI := Lib.hid hI
    clear hM hg
    have hX := fun w => next_c c w (by omega)
    cases hnx : nextL c.data.toList with
    | none =>
      have HF : Hid (fillL l s.data.toList = (acc ++ c.data.toList, asked)) := Lib.hid (by rw [HG.out, go_none l _ _ _ hnx])
      rw [hnx] at hX
      unfold nextV at hX
      clear hnx
      have hl1 : Hid ((Lib.byteCells acc).length + c.size ≤ 140737488355328) := Lib.hid (by rw [Lib.byteCells_length]; omega)
      go_wp2_with (first
        | (go_at_call 32; refine (hX _).mono ?_; rintro e w1 ⟨rfl, hb1⟩; have i1 := hI.out.below hb1; have z1 := i1.le)
        | (go_at_call 33; refine (writeString_c w.heap.size w.heap.size (Lib.byteCells acc) c _ i1.bld hl1.out (by omega)).mono ?_; rintro e w2 ⟨rfl, hbd2, hb2, hk2⟩; rw [cells_cat] at hbd2; have i2 := i1.wrote hbd2 hb2 hk2; have z2 := i2.le)
        | (go_at_call 34; refine (Try.Builder_String_any_k w.heap.size w.heap.size (acc ++ c.data.toList) _ i2.bld (by omega)).mono ?_; rintro e w3 ⟨rfl, hbd3, hb3, hk3⟩; have i3 := i2.wrote hbd3 hb3 hk3))
      go_ret2
      rw [HF.out]
      exact ⟨_, rfl, i3.row, i3.bel⟩
    | some x =>
      obtain ⟨a, nm, b0⟩ := x
      obtain ⟨hnm, hlen⟩ := next_parts hnx
      obtain ⟨ab, hab⟩ : ∃ ab : ByteArray, bT a = ab := ⟨_, rfl⟩
      obtain ⟨nb, hnb⟩ : ∃ nb : ByteArray, bT nm = nb := ⟨_, rfl⟩
      obtain ⟨bb, hbb⟩ : ∃ bb : ByteArray, bT b0 = bb := ⟨_, rfl⟩
      have ea : a = ab.data.toList := by rw [← hab]; rfl
      have en : nm = nb.data.toList := by rw [← hnb]; rfl
      have eb : b0 = bb.data.toList := by rw [← hbb]; rfl
      have HX := Lib.hid hnx
      rw [hnx] at hX
      unfold nextV at hX
      simp only [hab, hnb, hbb] at hX
      clear hnx hab hnb hbb
      rw [ea, en, eb] at HX hlen
      rw [en] at hnm
      clear ea en eb
      have hsz : c.size = ab.size + nb.size + 2 + bb.size := by simpa using hlen
      obtain ⟨n1, n2⟩ := name_size hnm
      have hnz : nb.size ≤ maxLen := by unfold maxLen; simp at n2; omega
      have hn1 : 1 ≤ nb.size := by simpa using n1
      have hn60 : nb.size ≤ 60 := by simpa using n2
      have hne : nb.toList.isEmpty = false := by
        rw [empty_list]
        cases e : nb.data.toList with
        | nil => rw [e] at n1; simp at n1
        | cons x t => rfl
      have hne2 : (nb.toList == []) = false := by
        rw [beq_eq_false_iff_ne]; intro e; rw [e] at hne; cases hne
      clear hnm hlen n1 n2
      obtain ⟨vb, hvb⟩ : ∃ vb : ByteArray, bT (valueL l nb.data.toList) = vb := ⟨_, rfl⟩
      have hv : valueL l nb.data.toList = vb.data.toList := by rw [← hvb]; rfl
      have hvz : vb.size ≤ nb.size + 100002 := by
        have h1 := value_size hl2s nb.data.toList
        rw [hv] at h1
        simpa using h1
      have HV := Lib.hid hv
      have HVB := Lib.hid hvb
      clear hv hvb
      have hl1 : Hid ((Lib.byteCells acc).length + ab.size ≤ 140737488355328) := Lib.hid (by rw [Lib.byteCells_length]; omega)
      have hl2 : Hid ((Lib.byteCells (acc ++ ab.data.toList)).length + vb.size ≤ 140737488355328) := Lib.hid (by rw [Lib.byteCells_length, List.length_append]; simp; omega)
      have ZA := Lib.hid hsz
      clear hsz
      by_cases hk : nb.data.toList ∈ asked
      · have HK : Hid (Maps.has D (.string nb.data.toList) = true) := Lib.hid (by rw [(HM.out.2 _).1, decide_eq_true hk]; rfl)
        have HD : Hid (decide (nb.data.toList ∈ asked) = true) := Lib.hid (decide_eq_true hk)
        have HGO : Hid (fillL l s.data.toList = goL l bb.data.toList (acc ++ ab.data.toList ++ vb.data.toList) asked) := Lib.hid (by rw [HG.out, go_some l _ _ _ HX.out, HV.out, if_pos hk])
        clear hk HX
        go_wp2_with (first
          | (go_at_call 32; refine (hX _).mono ?_; rintro e w1 ⟨rfl, hb1⟩; have i1 := hI.out.below hb1; have z1 := i1.le)
          | (go_at_call 33; refine (writeString_c w.heap.size w.heap.size _ vb _ i3.bld hl2.out (by omega)).mono ?_; rintro e w7 ⟨rfl, hbd7, hb7, hk7⟩; rw [cells_cat] at hbd7; have i7 := i3.wrote hbd7 hb7 hk7)
          | (go_at_call 33; refine (writeString_c w.heap.size w.heap.size (Lib.byteCells acc) ab _ i1.bld hl1.out (by omega)).mono ?_; rintro e w2 ⟨rfl, hbd2, hb2, hk2⟩; rw [cells_cat] at hbd2; have i2 := i1.wrote hbd2 hb2 hk2; have z2 := i2.le; have i3 := i2.below (laidNew w2 (.cells #[.string vb, .bool true] 69)); have z3 := i3.le)
          | (refine wpList_lookup_run _ rfl _ _ _ _ rfl _ _ rfl rfl _ (look_yes i2.map HM.out nb hnz HK.out HVB.out HD.out) ?_))
        go_roundw
        case rel => exact ⟨bb, rfl, acc ++ ab.data.toList ++ vb.data.toList, asked, D, by have := ZA.out; omega, HGO.out, by have := ZA.out; simp; omega, by have := ZA.out; simp; omega, HM.out, i7⟩
        case measure => have := ZA.out; simp [lenS]; omega
      · have HD : Hid (decide (nb.data.toList ∈ asked) = false) := Lib.hid (decide_eq_false hk)
        have HGO : Hid (fillL l s.data.toList = goL l bb.data.toList (acc ++ ab.data.toList ++ vb.data.toList) (asked ++ [nb.data.toList])) := Lib.hid (by rw [HG.out, go_some l _ _ _ HX.out, HV.out, if_neg hk])
        have HMP : Hid (AnsIs (D.put (.string nb.data.toList) (.held (ansV vb true))) l (asked ++ [nb.data.toList])) := Lib.hid (by have := ansIs_put HM.out nb.data.toList; rw [HVB.out] at this; exact this)
        have hmx : Hid (l.length + asked.length < maxLen) := Lib.hid (by unfold maxLen; omega)
        have hm1 : Hid (asked.length + 1 ≤ maxLen) := Lib.hid (by unfold maxLen; omega)
        have hm2 : Hid ((asked.length + 1) * 16 ≤ 140737488355328) := Lib.hid (by omega)
        clear HX
        cases hkn : Maps.has D (.string nb.data.toList) with
        | true =>
          have HK := Lib.hid hkn
          clear hk hkn
          go_wp2_with (first
            | (go_at_call 32; refine (hX _).mono ?_; rintro e w1 ⟨rfl, hb1⟩; have i1 := hI.out.below hb1; have z1 := i1.le)
            | (go_at_call 33; refine (writeString_c w.heap.size w.heap.size _ vb _ i6.bld hl2.out (by omega)).mono ?_; rintro e w7 ⟨rfl, hbd7, hb7, hk7⟩; rw [cells_cat] at hbd7; have i7 := i6.wrote hbd7 hb7 hk7)
            | (go_at_call 33; refine (writeString_c w.heap.size w.heap.size (Lib.byteCells acc) ab _ i1.bld hl1.out (by omega)).mono ?_; rintro e w2 ⟨rfl, hbd2, hb2, hk2⟩; rw [cells_cat] at hbd2; have i2 := i1.wrote hbd2 hb2 hk2; have z2 := i2.le; have i3 := i2.below (laidNew w2 (.cells #[.string vb, .bool true] 69)); have z3 := i3.le)
            | (refine wpList_lookup_run _ rfl _ _ _ _ rfl _ _ rfl rfl _ (look_yes i2.map HM.out nb hnz HK.out HVB.out HD.out) ?_)
            | (at_mapUpdate; refine wpList_mapUpdate_own _ rfl _ _ _ 61 rfl 9 69 key_k Try.underlying61 heldR (w.heap.size + 1) (l.length + asked.length) D rfl i3.map hmx.out _ _ _ rfl rfl (key_of nb hnz) _ [] rfl ?_; intro w5 hm5 hg5; have i5 := i3.mapped hm5 hg5; have i5b := i5.below (laidNew w5 (.cells #[.string nb] 9)); have z5 := i5b.le; have c5 := hg5.cell (ans_cell w2 (.string vb) (.bool true) 69) (by intro e; injection e with e; simp at e; omega))
            | (at_builtin; refine wpList_append_own _ rfl _ _ 40 rfl w.heap.size 9 i0 (.string ⟨#[]⟩) 1 16 Try.underlying40 hi hz0 hz1 hz2 rfl (by decide) _ _ _ rfl i5b.row ⟨w5.heap.size, 0, none⟩ 1 1 [.string nb] rfl rfl (one_new _ _ _) (str_one _) hm1.out hm2.out (by omega) ?_; intro nv6 w6 r6 g6 _; have i6 := i5b.named (asked' := asked ++ [nb.data.toList]) (by rw [← map_snoc, List.length_append]; exact r6) g6; have z6 := i6.le; have c6 := g6.cell (((laidNew w5 (.cells #[.string nb] 9)).cell (p := ⟨w2.heap.size, 0, none⟩) (World.block_lt_of_cell? w5 _ c5)).trans c5) (fun e => by have := (i2.row.lt _ e.symm).2; simp at this)))
          go_roundw
          case rel => exact ⟨bb, rfl, acc ++ ab.data.toList ++ vb.data.toList, asked ++ [nb.data.toList], D.put (.string nb.data.toList) (.held (ansV vb true)), by have := ZA.out; omega, HGO.out, by have := ZA.out; simp; omega, by have := ZA.out; simp; omega, HMP.out, by rw [List.length_append, ← Nat.add_assoc]; exact i7⟩
          case measure => have := ZA.out; simp [lenS]; omega
        | false =>
          have HK := Lib.hid hkn
          have hvx : (⟨#[123]⟩ : ByteArray) ++ nb ++ ⟨#[125]⟩ = vb := by
            have h0 := (HM.out.2 nb.data.toList).1
            rw [hkn, decide_eq_false hk, bT_data] at h0
            have hgn : getL l nb = none := by
              cases e : getL l nb with
              | none => rfl
              | some x => rw [e] at h0; simp at h0
            rw [← HVB.out]
            unfold valueL
            rw [bT_data, hgn]
            rw [← bT_data ((⟨#[123]⟩ : ByteArray) ++ nb ++ ⟨#[125]⟩), cat_data, cat_data]
            rfl
          clear hk hkn
          go_wp2_with (first
            | (go_at_call 32; refine (hX _).mono ?_; rintro e w1 ⟨rfl, hb1⟩; have i1 := hI.out.below hb1; have z1 := i1.le)
            | (go_at_call 33; refine (writeString_c w.heap.size w.heap.size _ vb _ i6.bld hl2.out (by omega)).mono ?_; rintro e w7 ⟨rfl, hbd7, hb7, hk7⟩; rw [cells_cat] at hbd7; have i7 := i6.wrote hbd7 hb7 hk7)
            | (go_at_call 33; refine (writeString_c w.heap.size w.heap.size (Lib.byteCells acc) ab _ i1.bld hl1.out (by omega)).mono ?_; rintro e w2 ⟨rfl, hbd2, hb2, hk2⟩; rw [cells_cat] at hbd2; have i2 := i1.wrote hbd2 hb2 hk2; have z2 := i2.le; have i3 := i2.below (laidNew w2 (.cells #[.string vb, .bool true] 69)); have z3 := i3.le)
            | (refine wpList_lookup_run _ rfl _ _ _ _ rfl _ _ rfl rfl _ (look_no i2.map nb hnz HK.out) ?_)
            | (at_mapUpdate; refine wpList_mapUpdate_own _ rfl _ _ _ 61 rfl 9 69 key_k Try.underlying61 heldR (w.heap.size + 1) (l.length + asked.length) D rfl i3.map hmx.out _ _ _ rfl rfl (key_of nb hnz) _ [] rfl ?_; intro w5 hm5 hg5; have i5 := i3.mapped hm5 hg5; have i5b := i5.below (laidNew w5 (.cells #[.string nb] 9)); have z5 := i5b.le; have c5 := hg5.cell (ans_cell w2 (.string vb) (.bool true) 69) (by intro e; injection e with e; simp at e; omega))
            | (at_builtin; refine wpList_append_own _ rfl _ _ 40 rfl w.heap.size 9 i0 (.string ⟨#[]⟩) 1 16 Try.underlying40 hi hz0 hz1 hz2 rfl (by decide) _ _ _ rfl i5b.row ⟨w5.heap.size, 0, none⟩ 1 1 [.string nb] rfl rfl (one_new _ _ _) (str_one _) hm1.out hm2.out (by omega) ?_; intro nv6 w6 r6 g6 _; have i6 := i5b.named (asked' := asked ++ [nb.data.toList]) (by rw [← map_snoc, List.length_append]; exact r6) g6; have z6 := i6.le; have c6 := g6.cell (((laidNew w5 (.cells #[.string nb] 9)).cell (p := ⟨w2.heap.size, 0, none⟩) (World.block_lt_of_cell? w5 _ c5)).trans c5) (fun e => by have := (i2.row.lt _ e.symm).2; simp at this)))
          go_roundw
          case rel => exact ⟨bb, rfl, acc ++ ab.data.toList ++ vb.data.toList, asked ++ [nb.data.toList], D.put (.string nb.data.toList) (.held (ansV vb true)), by have := ZA.out; omega, HGO.out, by have := ZA.out; simp; omega, by have := ZA.out; simp; omega, HMP.out, by rw [List.length_append, ← Nat.add_assoc]; exact i7⟩
          case measure => have := ZA.out; simp [lenS]; omega
end Go.Proofs.Ytcdlleeonfnamaa
