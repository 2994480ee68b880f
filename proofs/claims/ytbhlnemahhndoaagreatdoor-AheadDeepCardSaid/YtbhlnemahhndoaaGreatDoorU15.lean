/- Merged: FillI, FillC, AskC. -/
import Derived.Test.YtbhlnemahhndoaaGreatDoorU10
import Derived.Test.YtbhlnemahhndoaaGreatDoorVAsksC
import Derived.Test.YtbhlnemahhndoaaGreatDoorBuild
import Derived.Test.YtbhlnemahhndoaaGreatDoorU4
import Derived.Lib.Hide
import Derived.Maps.OwnSet
namespace Go.Proofs.YtbhlnemahhndoaaGreatDoor
open Go.RowKit Go.Maps
set_option maxRecDepth 100000

/-! ### what stays while other blocks are written -/
theorem builder_same {T e : TypeId} {B b : Nat} {bs : List Value} {w w' : World} (h : Lib.IsBuilderF T e B b bs w) (hb : w'.heap[b]? = w.heap[b]?) (hr : ∀ (g : Nat) (c : Array Value) (fz : Nat × Nat), w.heap[g]? = some (.cells c e fz) → w'.heap[g]? = w.heap[g]?) : Lib.IsBuilderF T e B b bs w' := by
  have one : ∀ p, Lib.BuilderAtF T e B b p bs w → Lib.BuilderAtF T e B b p bs w' := by
    rintro p ⟨hB, v, hbk, hown, hne⟩
    refine ⟨hB, v, hb.trans hbk, ⟨hown.1, ?_⟩, hne⟩
    rcases hown.2 with h0 | ⟨g, cap, cur, fz, hv, hg0, hg, r⟩
    · exact .inl h0
    · exact .inr ⟨g, cap, cur, fz, hv, hg0, (hr g _ _ hg).trans hg, r⟩
  exact h.imp (one _) (one _)
theorem row_same {base n sz : Nat} {e : TypeId} {v : Value} {xs : List Value} {w w' : World} (h : w.ownsRow base e sz v n xs) (hr : ∀ (g : Nat) (c : Array Value) (fz : Nat × Nat), w.heap[g]? = some (.cells c e fz) → w'.heap[g]? = w.heap[g]?) : w'.ownsRow base e sz v n xs := by
  obtain ⟨h1, h2⟩ := h
  refine ⟨h1, ?_⟩
  rcases h2 with h2 | ⟨g, cap, cur, rfl, hB, hg, r⟩
  · exact .inl h2
  · exact .inr ⟨g, cap, cur, rfl, hB, (hr g _ _ hg).trans hg, r⟩
theorem map_same {H : Type} {P : Program} {k : TypeId} {R : Value → Option (DataW H × List MemPlace)} {b n : Nat} {D : DataW H} {w w' : World} (h : w.ownsMap P k R b n D) (hb : ∀ es c, w.heap[b]? = some (.map es c) → w'.heap[b]? = w.heap[b]?) : w'.ownsMap P k R b n D := by
  obtain ⟨es, c, hm, r⟩ := h
  exact ⟨es, c, (hb es c hm).trans hm, r⟩

/-- what Fill holds: the text so far, the names so far, where each stands -/
structure FillI (W : World) (B : Nat) (acc : List UInt8) (nv : Value) (asked : List (List UInt8)) (m : Nat) (D : DataW Value) (w : World) : Prop where
  bld : Lib.IsBuilderF 87 5 B B (Lib.byteCells acc) w
  row : w.ownsRow B 9 1 nv asked.length (asked.map strV)
  map : w.ownsMap Tryz.prog 9 heldR (B + 1) m D
  le : B + 1 < w.heap.size
  bel : Below B W w

theorem lt_of {w : World} {g : Nat} {o : Obj} (h : w.heap[g]? = some o) : g < w.heap.size := (Array.getElem?_eq_some_iff.1 h).1
theorem builder_block {T e : TypeId} {B b : Nat} {bs : List Value} {w : World} (h : Lib.IsBuilderF T e B b bs w) : ∃ c, w.heap[b]? = some (.cells c T (0, 0)) := by
  rcases h with ⟨_, v, hb, _⟩ | ⟨_, v, hb, _⟩ <;> exact ⟨_, hb⟩
theorem FillI.below {W : World} {B m : Nat} {acc : List UInt8} {nv : Value} {asked : List (List UInt8)} {D : DataW Value} {w w' : World} (h : FillI W B acc nv asked m D w) (hb : Below w.heap.size w w') : FillI W B acc nv asked m D w' := by
  obtain ⟨c, hbk⟩ := builder_block h.bld
  exact ⟨builder_same h.bld (hb.block _ (lt_of hbk)) (fun g c fz hg => hb.block g (lt_of hg)), row_same h.row (fun g c fz hg => hb.block g (lt_of hg)), map_same h.map (fun es c hm => hb.block _ (lt_of hm)), Nat.lt_of_lt_of_le h.le hb.size, h.bel.trans (hb.mono (by have := h.le; omega))⟩
theorem FillI.wrote {W : World} {B m : Nat} {acc acc' : List UInt8} {nv : Value} {asked : List (List UInt8)} {D : DataW Value} {w w' : World} (h : FillI W B acc nv asked m D w) (h1 : Lib.IsBuilderF 87 5 B B (Lib.byteCells acc') w') (hb : Below B w w') (hk : Lib.OthersKept 5 (some B) w w') : FillI W B acc' nv asked m D w' := by
  refine ⟨h1, row_same h.row (fun g c fz hg => ?_), map_same h.map (fun es c hm => ?_), Nat.lt_of_lt_of_le h.le hb.size, h.bel.trans hb⟩
  · rw [hg]
    obtain ⟨c0, hbk⟩ := builder_block h.bld
    refine hk g _ hg (fun e => ?_) (fun c fz e => by injection e with _ e2 _; exact absurd e2 (by decide))
    injection e with e; subst e
    rw [hbk] at hg; injection hg with hg; injection hg with _ e2 _; exact absurd e2 (by decide)
  · rw [hm]
    exact hk _ _ hm (fun e => by injection e with e; omega) (fun c fz e => by cases e)
theorem FillI.mapped {W : World} {B m m' : Nat} {acc : List UInt8} {nv : Value} {asked : List (List UInt8)} {D D' : DataW Value} {w w' : World} (h : FillI W B acc nv asked m D w) (h1 : w'.ownsMap Tryz.prog 9 heldR (B + 1) m' D') (hg : w.grownBy w' (some (B + 1))) : FillI W B acc nv asked m' D' w' := by
  obtain ⟨c, hbk⟩ := builder_block h.bld
  obtain ⟨es, cl, hm, _⟩ := h.map
  have hc : ∀ (g : Nat) (c : Array Value) (t : TypeId) (fz : Nat × Nat), w.heap[g]? = some (.cells c t fz) → w'.heap[g]? = w.heap[g]? := fun g c t fz hg' => hg.block g (lt_of hg') (fun e => by injection e with e; subst e; rw [hm] at hg'; cases hg')
  exact ⟨builder_same h.bld (hc _ _ _ _ hbk) (fun g c fz hg' => hc _ _ _ _ hg'), row_same h.row (fun g c fz hg' => hc _ _ _ _ hg'), h1, Nat.lt_of_lt_of_le h.le hg.size, h.bel.grown hg (by have := h.le; omega) (fun k e => by injection e with e; omega)⟩
theorem row_block {base n sz : Nat} {e : TypeId} {v : Value} {xs : List Value} {w : World} (h : w.ownsRow base e sz v n xs) : ∀ g, v.ownBlock = some g → base ≤ g ∧ ∃ c fz, w.heap[g]? = some (.cells c e fz) := by
  intro g hg
  rcases h.2 with ⟨rfl, _⟩ | ⟨g', cap, cur, rfl, hB, hgg, _⟩
  · simp [Value.ownBlock] at hg
  · simp [Value.ownBlock] at hg
    subst hg
    exact ⟨hB, _, _, hgg⟩
theorem FillI.named {W : World} {B m : Nat} {acc : List UInt8} {nv nv' : Value} {asked asked' : List (List UInt8)} {D : DataW Value} {w w' : World} (h : FillI W B acc nv asked m D w) (h1 : w'.ownsRow B 9 1 nv' asked'.length (asked'.map strV)) (hg : w.grownBy w' nv.ownBlock) : FillI W B acc nv' asked' m D w' := by
  obtain ⟨c, hbk⟩ := builder_block h.bld
  have hr := row_block h.row
  have hc : ∀ (g : Nat) (c : Array Value) (t : TypeId) (fz : Nat × Nat), t ≠ 9 → w.heap[g]? = some (.cells c t fz) → w'.heap[g]? = w.heap[g]? := fun g c t fz ht hg' => hg.block g (lt_of hg') (fun e => by
    obtain ⟨_, c2, fz2, h2⟩ := hr g e.symm
    rw [h2] at hg'; injection hg' with hg'; injection hg' with _ e2 _; exact ht e2.symm)
  refine ⟨builder_same h.bld (hc _ _ _ _ (by decide) hbk) (fun g c fz hg' => hc _ _ _ _ (by decide) hg'), h1, map_same h.map (fun es c hm => hg.block _ (lt_of hm) (fun e => ?_)), Nat.lt_of_lt_of_le h.le hg.size, h.bel.grown hg (by have := h.le; omega) (fun k e => (hr k e).1)⟩
  obtain ⟨_, c2, fz2, h2⟩ := hr _ e.symm
  rw [h2] at hm; cases hm

/-! ### what the map says -/
/-- an answer as it is held -/
def ansV (v : ByteArray) (a : Bool) : Value := .agg #[.string v, .bool a]
def AnsIs (D : DataW Value) (l : List At) (asked : List (List UInt8)) : Prop :=
  IsMap D ∧ ∀ nm : List UInt8, Maps.has D (.string nm) = (decide (nm ∈ asked) || (getL l (bT nm)).isSome) ∧ (Maps.has D (.string nm) = true → ∀ z, D.atKey (.string nm) z = .held (ansV (bT (valueL l nm)) (decide (nm ∈ asked))))
theorem ansIs_nil : AnsIs (.map []) [] [] := ⟨⟨[], rfl⟩, fun nm => ⟨rfl, fun h => by cases h⟩⟩
theorem ansIs_put {D : DataW Value} {l : List At} {asked : List (List UInt8)} (h : AnsIs D l asked) (nm : List UInt8) : AnsIs (D.put (.string nm) (.held (ansV (bT (valueL l nm)) true))) l (asked ++ [nm]) := by
  obtain ⟨hm, h⟩ := h
  refine ⟨hm.put _ _, fun x => ?_⟩
  by_cases e : x = nm
  · subst e
    refine ⟨?_, fun _ z => ?_⟩
    · rw [has_put_same (k := Lit.string x) hm trivial]; simp
    · rw [atKey_put_same (k := Lit.string x) hm trivial]; simp
  · have hne : (Lit.string x : Lit) ≠ .string nm := fun h => by injection h with h; exact e h
    have hd : decide (x ∈ asked ++ [nm]) = decide (x ∈ asked) := by simp [e]
    refine ⟨?_, fun hx z => ?_⟩
    · rw [has_put_other hne, (h x).1, hd]
    · rw [has_put_other hne] at hx
      rw [atKey_put_other hne, hd]
      exact (h x).2 hx z
theorem getL_snoc (l : List At) (a : At) (nm : ByteArray) : getL (l ++ [a]) nm = (getL l nm).or (if (a.1.toList == nm.toList) = true then some a.2 else none) := by
  unfold getL
  rw [List.find?_append]
  cases l.find? (fun a => a.1.toList == nm.toList) with
  | some x => rfl
  | none =>
    by_cases e : (a.1.toList == nm.toList) = true
    · simp [e]
    · simp [e]
theorem ansIs_known {D : DataW Value} {l : List At} (h : AnsIs D l []) (a : At) (hk : Maps.has D (.string a.1.data.toList) = true) : AnsIs D (l ++ [a]) [] := by
  obtain ⟨hm, h⟩ := h
  have h0 := (h a.1.data.toList).1
  rw [hk, bT_data] at h0
  have hs : (getL l a.1).isSome = true := by simpa using h0.symm
  have hg : ∀ nm, getL (l ++ [a]) nm = getL l nm := fun nm => by
    rw [getL_snoc]
    cases e : getL l nm with
    | some x => rfl
    | none =>
      by_cases e2 : (a.1.toList == nm.toList) = true
      · have e3 : a.1 = nm := by
          rw [beq_iff_eq, Lib.toList_data, Lib.toList_data] at e2
          exact ByteArray.ext (Array.toList_inj.1 e2)
        rw [e3, e] at hs; cases hs
      · simp [e2]
  have hv : ∀ nm, valueL (l ++ [a]) nm = valueL l nm := fun nm => by unfold valueL; rw [hg]
  exact ⟨hm, fun nm => by rw [hg, hv]; exact h nm⟩
theorem ansIs_more {D : DataW Value} {l : List At} (h : AnsIs D l []) (a : At) (hk : Maps.has D (.string a.1.data.toList) = false) : AnsIs (D.put (.string a.1.data.toList) (.held (ansV a.2 false))) (l ++ [a]) [] := by
  obtain ⟨hm, h⟩ := h
  have h0 := (h a.1.data.toList).1
  rw [hk, bT_data] at h0
  have hs : getL l a.1 = none := by
    cases e : getL l a.1 with
    | none => rfl
    | some x => rw [e] at h0; simp at h0
  refine ⟨hm.put _ _, fun x => ?_⟩
  by_cases e : x = a.1.data.toList
  · subst e
    have hg : getL (l ++ [a]) (bT a.1.data.toList) = some a.2 := by
      rw [bT_data, getL_snoc, hs]; simp
    have hv : valueL (l ++ [a]) a.1.data.toList = a.2.data.toList := by unfold valueL; rw [hg]
    refine ⟨?_, fun _ z => ?_⟩
    · rw [has_put_same (k := Lit.string _) hm trivial, hg]; rfl
    · rw [atKey_put_same (k := Lit.string _) hm trivial, hv, bT_data]; rfl
  · have hne : (Lit.string x : Lit) ≠ .string a.1.data.toList := fun h => by injection h with h; exact e h
    have hg : getL (l ++ [a]) (bT x) = getL l (bT x) := by
      rw [getL_snoc]
      have : ¬ (a.1.toList == (bT x).toList) = true := by
        rw [beq_iff_eq, Lib.toList_data, Lib.toList_data]
        intro e2; exact e (by rw [e2]; simp [bT])
      rw [if_neg this]; cases getL l (bT x) <;> rfl
    have hv : valueL (l ++ [a]) x = valueL l x := by unfold valueL; rw [hg]
    refine ⟨?_, fun hx z => ?_⟩
    · rw [has_put_other hne, hg]; exact (h x).1
    · rw [has_put_other hne] at hx
      rw [atKey_put_other hne, hv]
      exact (h x).2 hx z
end Go.Proofs.YtbhlnemahhndoaaGreatDoor
namespace Go.Proofs.YtbhlnemahhndoaaGreatDoor
open Go.RowKit Go.Maps
set_option maxRecDepth 100000

theorem strInfo : (Tryz.prog.info? 9).map (fun i => (i.zero, i.size, i.bytes)) = some (some (.string ⟨#[]⟩), 1, 16) := by kernel_rfl
theorem zero_ans (w : World) : (zeroValue 98).run Tryz.prog w = .ok (ansV ⟨#[]⟩ false) w := by rfl
theorem cat_data (a b : ByteArray) : (a ++ b).data.toList = a.data.toList ++ b.data.toList := by rw [ByteArray.data_append]; simp
theorem cells_cat (a : List UInt8) (s : ByteArray) : Lib.byteCells a ++ Lib.strCells s = Lib.byteCells (a ++ s.data.toList) := by rw [Lib.strCells_eq]; simp [Lib.byteCells]
/-- what is gone through: not too many, none too long -/
def Loose (l : List At) : Prop := l.length ≤ 1000000 ∧ ∀ a ∈ l, a.1.size ≤ 100000 ∧ a.2.size ≤ 100000
theorem small_loose {l : List At} (h : Small l) : Loose l := ⟨by have := h.1; omega, fun a ha => by
  have h1 := sumL_mem l a ha
  have h2 := h.2
  omega⟩
theorem value_size {l : List At} (h : Loose l) (nm : List UInt8) : (valueL l nm).length ≤ nm.length + 100002 := by
  unfold valueL
  cases e : getL l (bT nm) with
  | none => simp
  | some v =>
    have : ∃ a ∈ l, a.2 = v := by
      unfold getL at e
      cases e2 : l.find? (fun a => a.1.toList == (bT nm).toList) with
      | none => rw [e2] at e; cases e
      | some a => rw [e2] at e; injection e with e; exact ⟨a, List.mem_of_find?_eq_some e2, e⟩
    obtain ⟨a, ha, rfl⟩ := this
    have := (h.2 a ha).2
    simp; omega
/-- a look at the answers -/
theorem look_yes {w : World} {b m : Nat} {D : DataW Value} {l : List At} {asked : List (List UInt8)} (h : w.ownsMap Tryz.prog 9 heldR b m D) (hM : AnsIs D l asked) (nb : ByteArray) (hs : nb.size ≤ maxLen) (hk : Maps.has D (.string nb.data.toList) = true) {vb : ByteArray} (hv : bT (valueL l nb.data.toList) = vb) {a : Bool} (ha : decide (nb.data.toList ∈ asked) = a) :
    (Instr.lookup 88 (.map (some b)) (.string nb) true).run Tryz.prog w = .ok (.tuple #[.agg #[.string vb, .bool a], .bool true]) w := by
  obtain ⟨v, ps, hrun, hR⟩ := h.look_ok key_k Tryz.underlying88 (zero_ans _) (zd := .held (ansV ⟨#[]⟩ false)) (zp := []) rfl (key_of nb hs)
  rw [hrun, hk, heldR_out hR ((hM.2 nb.data.toList).2 hk _), hv, ha]
  rfl
theorem look_no {w : World} {b m : Nat} {D : DataW Value} (h : w.ownsMap Tryz.prog 9 heldR b m D) (nb : ByteArray) (hs : nb.size ≤ maxLen) (hk : Maps.has D (.string nb.data.toList) = false) :
    (Instr.lookup 88 (.map (some b)) (.string nb) true).run Tryz.prog w = .ok (.tuple #[.agg #[.string ⟨#[]⟩, .bool false], .bool false]) w := by
  obtain ⟨v, ps, hrun, hR⟩ := h.look_ok key_k Tryz.underlying88 (zero_ans _) (zd := .held (ansV ⟨#[]⟩ false)) (zp := []) rfl (key_of nb hs)
  rw [hrun, hk, heldR_out hR (Maps.atKey_of_not_has hk _)]
  rfl
theorem one_new (w : World) (x : ByteArray) (t : TypeId) : ∀ j u, [Value.string x][j]? = some u → (w.alloc (.cells #[.string x] t)).cell? ((⟨w.heap.size, 0, none⟩ : Addr).add j) = some u := cell_one_new w (.string x) t
theorem str_one (x : ByteArray) : ∀ u ∈ [Value.string x], u.oneCell' = true := by intro u hu; simp only [List.mem_singleton] at hu; subst hu; rfl
theorem map_snoc (asked : List (List UInt8)) (nb : ByteArray) : asked.map strV ++ [.string nb] = (asked ++ [nb.data.toList]).map strV := by
  rw [List.map_append]; congr 2

set_option maxHeartbeats 4000000 in
theorem answersOf_any (v : Value) (l : List At) (w : World) (h : Attrs w v l) (hl2 : Loose l) : Calls Tryz.prog 38 #[v] w fun e w' =>
    ∃ D, e = .returned (.map (some w.heap.size)) ∧ w'.ownsMap Tryz.prog 9 heldR w.heap.size l.length D ∧ AnsIs D l [] ∧ Below w.heap.size w w' := by
  have hmm := @run_makeMap Tryz.prog
  have h' := h
  obtain ⟨p, cap, rfl, hl, -, hc⟩ := h'
  have hll := hl2.1
  have O0 := Lib.hid (World.ownsMap_made w Tryz.prog 9 heldR)
  go_enter Tryz.func38, Tryz.ntmps38
  go_wp2
  go_loopw [11] (fun i wr => ∃ (k : Nat) (D : DataW Value), k ≤ l.length ∧ i = .int .i64 k ∧ wr.ownsMap Tryz.prog 9 heldR w.heap.size k D ∧ AnsIs D (l.take k) [] ∧ Below w.heap.size w wr) (fun i _ => l.length - (intOf i).toNat)
  case atStart => exact ⟨0, .map [], Nat.zero_le _, rfl, O0.out, ansIs_nil, laidNew _ _⟩
  case round =>
    clear O0
    obtain ⟨k, D, hk, rfl, hown, hM, hbel⟩ := hrel
    have HM := Lib.hid hM
    have HO := Lib.hid hown
    clear hM hown
    by_cases hlt : k < l.length
    · obtain ⟨b, o, rfl, hb, hcc⟩ := hc (by omega)
      obtain ⟨c1, c2⟩ := hcc k hlt
      have d1 := (hbel.cell (p := ⟨b, o + k * 2, none⟩) hb).trans c1
      have d2 := (hbel.cell (p := ⟨b, o + k * 2 + 1, none⟩) hb).trans c2
      have hsz := (hl2.2 l[k] (List.getElem_mem hlt)).1
      have hn : l[k].1.size ≤ maxLen := by unfold maxLen; omega
      have HT : Hid (l.take (k + 1) = l.take k ++ [l[k]]) := Lib.hid (List.take_succ_eq_append_getElem hlt)
      obtain ⟨nb, hnb⟩ : ∃ nb, l[k].1 = nb := ⟨_, rfl⟩
      obtain ⟨vb, hvb⟩ : ∃ vb, l[k].2 = vb := ⟨_, rfl⟩
      have HP : Hid (l[k] = (nb, vb)) := Lib.hid (by rw [← hnb, ← hvb])
      rw [hnb] at d1 hn
      rw [hvb] at d2
      clear hc hcc c1 c2 hnb hvb hsz
      cases hk2 : Maps.has D (.string nb.data.toList) with
      | true =>
        have HK := Lib.hid hk2
        obtain ⟨vv, hvv⟩ : ∃ vv, bT (valueL (l.take k) nb.data.toList) = vv := ⟨_, rfl⟩
        have HV := Lib.hid hvv
        clear hk2 hvv
        go_wp2_with (refine wpList_lookup_run _ rfl _ _ _ _ rfl _ _ rfl rfl _ (look_yes (HO.out.alloc _) HM.out nb hn HK.out HV.out rfl) ?_)
        go_roundw
        case rel => exact ⟨k + 1, D, by omega, by go_num, ((HO.out.alloc _).alloc _).mono (by omega), by rw [HT.out, HP.out]; exact ansIs_known HM.out (nb, vb) HK.out, behind (behind hbel (laidNew _ _)) (laidNew _ _)⟩
        case measure => simp [intOf]; omega
      | false =>
        have HK := Lib.hid hk2
        clear hk2
        have hkm : k < maxLen := by unfold maxLen; omega
        go_wp2_with (first
          | (refine wpList_lookup_run _ rfl _ _ _ _ rfl _ _ rfl rfl _ (look_no (HO.out.alloc _) nb hn HK.out) ?_)
          | (at_mapUpdate; refine wpList_mapUpdate_own _ rfl _ _ _ 88 rfl 9 98 key_k Tryz.underlying88 heldR w.heap.size k D rfl ((HO.out.alloc _).alloc _) hkm _ _ _ rfl rfl (key_of nb hn) _ [] rfl ?_; intro w5 hm5 hg5))
        go_roundw
        case rel => exact ⟨k + 1, _, by omega, by go_num, hm5, by rw [HT.out, HP.out]; exact ansIs_more HM.out (nb, vb) HK.out, (behind (behind hbel (laidNew _ _)) (laidNew _ _)).grown hg5 (by have := hbel.size; simp; omega) (fun j e => by injection e with e; omega)⟩
        case measure => simp [intOf]; omega
    · have HE : Hid (l.take k = l) := Lib.hid (List.take_of_length_le (by omega))
      go_wp2
      go_ret
      exact ⟨D, rfl, HO.out.mono (by omega), by rw [← HE.out]; exact HM.out, hbel⟩

/-- the loop's word -/
def FillR (l : List At) (s : ByteArray) (W : World) (c : ByteArray) (nv : Value) (w : World) : Prop :=
  ∃ (acc : List UInt8) (asked : List (List UInt8)) (D : DataW Value), c.size ≤ s.size ∧ fillL l s.data.toList = goL l c.data.toList acc asked ∧ acc.length + 100002 * c.size ≤ 100002 * s.size ∧ asked.length + c.size ≤ s.size ∧ AnsIs D l asked ∧ FillI W W.heap.size acc nv asked (l.length + asked.length) D w
/-- a text's bytes -/
def lenS : Value → Nat
  | .string c => c.size
  | _ => 0
theorem ans_cell (w : World) (a b : Value) (t : TypeId) : (w.alloc (.cells #[a, b] t)).cell? ⟨w.heap.size, 0, none⟩ = some a := by
  rw [World.cell?_alloc_new]; rfl

set_option maxHeartbeats 8000000 in
theorem fill_any (v : Value) (l : List At) (s : ByteArray) (w : World) (h : Attrs w v l) (hl2s : Loose l) (hs : s.size ≤ 100000) : Calls Tryz.prog 13 #[v, .string s] w fun e w' =>
    ∃ a, e = .returned (.tuple #[.string (bT (fillL l s.data.toList).1), a]) ∧ w'.ownsRow w.heap.size 9 1 a (fillL l s.data.toList).2.length ((fillL l s.data.toList).2.map strV) ∧ Below w.heap.size w w' := by
  obtain ⟨i0, hi, hz0, hz1, hz2⟩ := info_parts strInfo
  have hll := hl2s.1
  have hW1 : (w.alloc (.cells #[.pointer none, .slice none 0 0] 87)).heap.size = w.heap.size + 1 := by simp
  have hA := answersOf_any v l (w.alloc (.cells #[.pointer none, .slice none 0 0] 87)) (h.below (laidNew _ _)) hl2s
  rw [hW1] at hA
  clear hW1
  go_enter Tryz.func13, Tryz.ntmps13
  go_wp2_with fail
  refine hA.mono ?_
  clear hA
  rintro e w0 ⟨D0, rfl, hown0, hM0, hb0⟩
  have hstart : FillR l s w s (.slice none 0 0) w0 := by
    refine ⟨[], [], D0, Nat.le_refl _, rfl, by simp, by simp, hM0, ⟨?_, ⟨rfl, .inl ⟨rfl, rfl⟩⟩, hown0, hown0.lt, ?_⟩⟩
    · exact builder_same (Lib.IsBuilderF.of (Lib.fresh_isBuilder 87 5 w)) (hb0.block _ (by omega)) (fun g c fz hg => hb0.block _ (by have := lt_of hg; simp at this; omega))
    · exact (laidNew w (.cells #[.pointer none, .slice none 0 0] 87)).trans (hb0.mono (by omega))
  have HST := Lib.hid hstart
  clear hstart hown0 hM0 hb0
  go_wp2
  go_loopw [1, 7] (fun sv nv wr => ∃ c : ByteArray, sv = .string c ∧ FillR l s w c nv wr) (fun sv _ _ => lenS sv)
  case atStart => exact ⟨s, rfl, HST.out⟩
  case round =>
    clear HST
    obtain ⟨c, rfl, acc, asked, D, hcs, hg, ha, hb0, hM, hI⟩ := hrel
    have HM := Lib.hid hM
    have HG := Lib.hid hg
    have hI := Lib.hid hI
    clear hM hg
    have hX := fun w => next_c c w (by omega)
    cases hnx : nextL c.data.toList with
    | none =>
      have HF : Hid (fillL l s.data.toList = (acc ++ c.data.toList, asked)) := Lib.hid (by rw [HG.out, go_none l _ _ _ hnx])
      rw [hnx] at hX
      unfold nextV at hX
      clear hnx
      have hl1 : Hid ((Lib.byteCells acc).length + c.size ≤ 140737488355328) := Lib.hid (by rw [Lib.byteCells_length]; omega)
      go_wp2_with (first
        | (go_at_call 39; refine (hX _).mono ?_; rintro e w1 ⟨rfl, hb1⟩; have i1 := hI.out.below hb1; have z1 := i1.le)
        | (go_at_call 40; refine (writeString_c w.heap.size w.heap.size (Lib.byteCells acc) c _ i1.bld hl1.out (by omega)).mono ?_; rintro e w2 ⟨rfl, hbd2, hb2, hk2⟩; rw [cells_cat] at hbd2; have i2 := i1.wrote hbd2 hb2 hk2; have z2 := i2.le)
        | (go_at_call 41; refine (Tryz.Builder_String_any_k w.heap.size w.heap.size (acc ++ c.data.toList) _ i2.bld (by omega)).mono ?_; rintro e w3 ⟨rfl, hbd3, hb3, hk3⟩; have i3 := i2.wrote hbd3 hb3 hk3))
      go_ret2
      rw [HF.out]
      exact ⟨_, rfl, i3.row, i3.bel⟩
    | some x =>
      obtain ⟨a, nm, b0⟩ := x
      obtain ⟨hnm, hlen⟩ := next_parts hnx
      obtain ⟨ab, hab⟩ : ∃ ab : ByteArray, bT a = ab := ⟨_, rfl⟩
      obtain ⟨nb, hnb⟩ : ∃ nb : ByteArray, bT nm = nb := ⟨_, rfl⟩
      obtain ⟨bb, hbb⟩ : ∃ bb : ByteArray, bT b0 = bb := ⟨_, rfl⟩
      have ea : a = ab.data.toList := by rw [← hab]; rfl
      have en : nm = nb.data.toList := by rw [← hnb]; rfl
      have eb : b0 = bb.data.toList := by rw [← hbb]; rfl
      have HX := Lib.hid hnx
      rw [hnx] at hX
      unfold nextV at hX
      simp only [hab, hnb, hbb] at hX
      clear hnx hab hnb hbb
      rw [ea, en, eb] at HX hlen
      rw [en] at hnm
      clear ea en eb
      have hsz : c.size = ab.size + nb.size + 2 + bb.size := by simpa using hlen
      obtain ⟨n1, n2⟩ := name_size hnm
      have hnz : nb.size ≤ maxLen := by unfold maxLen; simp at n2; omega
      have hn1 : 1 ≤ nb.size := by simpa using n1
      have hn60 : nb.size ≤ 60 := by simpa using n2
      have hne : nb.toList.isEmpty = false := by
        rw [empty_list]
        cases e : nb.data.toList with
        | nil => rw [e] at n1; simp at n1
        | cons x t => rfl
      have hne2 : (nb.toList == []) = false := by
        rw [beq_eq_false_iff_ne]; intro e; rw [e] at hne; cases hne
      clear hnm hlen n1 n2
      obtain ⟨vb, hvb⟩ : ∃ vb : ByteArray, bT (valueL l nb.data.toList) = vb := ⟨_, rfl⟩
      have hv : valueL l nb.data.toList = vb.data.toList := by rw [← hvb]; rfl
      have hvz : vb.size ≤ nb.size + 100002 := by
        have h1 := value_size hl2s nb.data.toList
        rw [hv] at h1
        simpa using h1
      have HV := Lib.hid hv
      have HVB := Lib.hid hvb
      clear hv hvb
      have hl1 : Hid ((Lib.byteCells acc).length + ab.size ≤ 140737488355328) := Lib.hid (by rw [Lib.byteCells_length]; omega)
      have hl2 : Hid ((Lib.byteCells (acc ++ ab.data.toList)).length + vb.size ≤ 140737488355328) := Lib.hid (by rw [Lib.byteCells_length, List.length_append]; simp; omega)
      have ZA := Lib.hid hsz
      clear hsz
      by_cases hk : nb.data.toList ∈ asked
      · have HK : Hid (Maps.has D (.string nb.data.toList) = true) := Lib.hid (by rw [(HM.out.2 _).1, decide_eq_true hk]; rfl)
        have HD : Hid (decide (nb.data.toList ∈ asked) = true) := Lib.hid (decide_eq_true hk)
        have HGO : Hid (fillL l s.data.toList = goL l bb.data.toList (acc ++ ab.data.toList ++ vb.data.toList) asked) := Lib.hid (by rw [HG.out, go_some l _ _ _ HX.out, HV.out, if_pos hk])
        clear hk HX
        go_wp2_with (first
          | (go_at_call 39; refine (hX _).mono ?_; rintro e w1 ⟨rfl, hb1⟩; have i1 := hI.out.below hb1; have z1 := i1.le)
          | (go_at_call 40; refine (writeString_c w.heap.size w.heap.size _ vb _ i3.bld hl2.out (by omega)).mono ?_; rintro e w7 ⟨rfl, hbd7, hb7, hk7⟩; rw [cells_cat] at hbd7; have i7 := i3.wrote hbd7 hb7 hk7)
          | (go_at_call 40; refine (writeString_c w.heap.size w.heap.size (Lib.byteCells acc) ab _ i1.bld hl1.out (by omega)).mono ?_; rintro e w2 ⟨rfl, hbd2, hb2, hk2⟩; rw [cells_cat] at hbd2; have i2 := i1.wrote hbd2 hb2 hk2; have z2 := i2.le; have i3 := i2.below (laidNew w2 (.cells #[.string vb, .bool true] 98)); have z3 := i3.le)
          | (refine wpList_lookup_run _ rfl _ _ _ _ rfl _ _ rfl rfl _ (look_yes i2.map HM.out nb hnz HK.out HVB.out HD.out) ?_))
        go_roundw
        case rel => exact ⟨bb, rfl, acc ++ ab.data.toList ++ vb.data.toList, asked, D, by have := ZA.out; omega, HGO.out, by have := ZA.out; simp; omega, by have := ZA.out; simp; omega, HM.out, i7⟩
        case measure => have := ZA.out; simp [lenS]; omega
      · have HD : Hid (decide (nb.data.toList ∈ asked) = false) := Lib.hid (decide_eq_false hk)
        have HGO : Hid (fillL l s.data.toList = goL l bb.data.toList (acc ++ ab.data.toList ++ vb.data.toList) (asked ++ [nb.data.toList])) := Lib.hid (by rw [HG.out, go_some l _ _ _ HX.out, HV.out, if_neg hk])
        have HMP : Hid (AnsIs (D.put (.string nb.data.toList) (.held (ansV vb true))) l (asked ++ [nb.data.toList])) := Lib.hid (by have := ansIs_put HM.out nb.data.toList; rw [HVB.out] at this; exact this)
        have hmx : Hid (l.length + asked.length < maxLen) := Lib.hid (by unfold maxLen; omega)
        have hm1 : Hid (asked.length + 1 ≤ maxLen) := Lib.hid (by unfold maxLen; omega)
        have hm2 : Hid ((asked.length + 1) * 16 ≤ 140737488355328) := Lib.hid (by omega)
        clear HX
        cases hkn : Maps.has D (.string nb.data.toList) with
        | true =>
          have HK := Lib.hid hkn
          clear hk hkn
          go_wp2_with (first
            | (go_at_call 39; refine (hX _).mono ?_; rintro e w1 ⟨rfl, hb1⟩; have i1 := hI.out.below hb1; have z1 := i1.le)
            | (go_at_call 40; refine (writeString_c w.heap.size w.heap.size _ vb _ i6.bld hl2.out (by omega)).mono ?_; rintro e w7 ⟨rfl, hbd7, hb7, hk7⟩; rw [cells_cat] at hbd7; have i7 := i6.wrote hbd7 hb7 hk7)
            | (go_at_call 40; refine (writeString_c w.heap.size w.heap.size (Lib.byteCells acc) ab _ i1.bld hl1.out (by omega)).mono ?_; rintro e w2 ⟨rfl, hbd2, hb2, hk2⟩; rw [cells_cat] at hbd2; have i2 := i1.wrote hbd2 hb2 hk2; have z2 := i2.le; have i3 := i2.below (laidNew w2 (.cells #[.string vb, .bool true] 98)); have z3 := i3.le)
            | (refine wpList_lookup_run _ rfl _ _ _ _ rfl _ _ rfl rfl _ (look_yes i2.map HM.out nb hnz HK.out HVB.out HD.out) ?_)
            | (at_mapUpdate; refine wpList_mapUpdate_own _ rfl _ _ _ 88 rfl 9 98 key_k Tryz.underlying88 heldR (w.heap.size + 1) (l.length + asked.length) D rfl i3.map hmx.out _ _ _ rfl rfl (key_of nb hnz) _ [] rfl ?_; intro w5 hm5 hg5; have i5 := i3.mapped hm5 hg5; have i5b := i5.below (laidNew w5 (.cells #[.string nb] 9)); have z5 := i5b.le; have c5 := hg5.cell (ans_cell w2 (.string vb) (.bool true) 98) (by intro e; injection e with e; simp at e; omega))
            | (at_builtin; refine wpList_append_own _ rfl _ _ 25 rfl w.heap.size 9 i0 (.string ⟨#[]⟩) 1 16 Tryz.underlying25 hi hz0 hz1 hz2 rfl (by decide) _ _ _ rfl i5b.row ⟨w5.heap.size, 0, none⟩ 1 1 [.string nb] rfl rfl (one_new _ _ _) (str_one _) hm1.out hm2.out (by omega) ?_; intro nv6 w6 r6 g6 _; have i6 := i5b.named (asked' := asked ++ [nb.data.toList]) (by rw [← map_snoc, List.length_append]; exact r6) g6; have z6 := i6.le; have c6 := g6.cell (((laidNew w5 (.cells #[.string nb] 9)).cell (p := ⟨w2.heap.size, 0, none⟩) (World.block_lt_of_cell? w5 _ c5)).trans c5) (fun e => by have := (i2.row.lt _ e.symm).2; simp at this)))
          go_roundw
          case rel => exact ⟨bb, rfl, acc ++ ab.data.toList ++ vb.data.toList, asked ++ [nb.data.toList], D.put (.string nb.data.toList) (.held (ansV vb true)), by have := ZA.out; omega, HGO.out, by have := ZA.out; simp; omega, by have := ZA.out; simp; omega, HMP.out, by rw [List.length_append, ← Nat.add_assoc]; exact i7⟩
          case measure => have := ZA.out; simp [lenS]; omega
        | false =>
          have HK := Lib.hid hkn
          have hvx : (⟨#[123]⟩ : ByteArray) ++ nb ++ ⟨#[125]⟩ = vb := by
            have h0 := (HM.out.2 nb.data.toList).1
            rw [hkn, decide_eq_false hk, bT_data] at h0
            have hgn : getL l nb = none := by
              cases e : getL l nb with
              | none => rfl
              | some x => rw [e] at h0; simp at h0
            rw [← HVB.out]
            unfold valueL
            rw [bT_data, hgn]
            rw [← bT_data ((⟨#[123]⟩ : ByteArray) ++ nb ++ ⟨#[125]⟩), cat_data, cat_data]
            rfl
          clear hk hkn
          go_wp2_with (first
            | (go_at_call 39; refine (hX _).mono ?_; rintro e w1 ⟨rfl, hb1⟩; have i1 := hI.out.below hb1; have z1 := i1.le)
            | (go_at_call 40; refine (writeString_c w.heap.size w.heap.size _ vb _ i6.bld hl2.out (by omega)).mono ?_; rintro e w7 ⟨rfl, hbd7, hb7, hk7⟩; rw [cells_cat] at hbd7; have i7 := i6.wrote hbd7 hb7 hk7)
            | (go_at_call 40; refine (writeString_c w.heap.size w.heap.size (Lib.byteCells acc) ab _ i1.bld hl1.out (by omega)).mono ?_; rintro e w2 ⟨rfl, hbd2, hb2, hk2⟩; rw [cells_cat] at hbd2; have i2 := i1.wrote hbd2 hb2 hk2; have z2 := i2.le; have i3 := i2.below (laidNew w2 (.cells #[.string vb, .bool true] 98)); have z3 := i3.le)
            | (refine wpList_lookup_run _ rfl _ _ _ _ rfl _ _ rfl rfl _ (look_no i2.map nb hnz HK.out) ?_)
            | (at_mapUpdate; refine wpList_mapUpdate_own _ rfl _ _ _ 88 rfl 9 98 key_k Tryz.underlying88 heldR (w.heap.size + 1) (l.length + asked.length) D rfl i3.map hmx.out _ _ _ rfl rfl (key_of nb hnz) _ [] rfl ?_; intro w5 hm5 hg5; have i5 := i3.mapped hm5 hg5; have i5b := i5.below (laidNew w5 (.cells #[.string nb] 9)); have z5 := i5b.le; have c5 := hg5.cell (ans_cell w2 (.string vb) (.bool true) 98) (by intro e; injection e with e; simp at e; omega))
            | (at_builtin; refine wpList_append_own _ rfl _ _ 25 rfl w.heap.size 9 i0 (.string ⟨#[]⟩) 1 16 Tryz.underlying25 hi hz0 hz1 hz2 rfl (by decide) _ _ _ rfl i5b.row ⟨w5.heap.size, 0, none⟩ 1 1 [.string nb] rfl rfl (one_new _ _ _) (str_one _) hm1.out hm2.out (by omega) ?_; intro nv6 w6 r6 g6 _; have i6 := i5b.named (asked' := asked ++ [nb.data.toList]) (by rw [← map_snoc, List.length_append]; exact r6) g6; have z6 := i6.le; have c6 := g6.cell (((laidNew w5 (.cells #[.string nb] 9)).cell (p := ⟨w2.heap.size, 0, none⟩) (World.block_lt_of_cell? w5 _ c5)).trans c5) (fun e => by have := (i2.row.lt _ e.symm).2; simp at this)))
          go_roundw
          case rel => exact ⟨bb, rfl, acc ++ ab.data.toList ++ vb.data.toList, asked ++ [nb.data.toList], D.put (.string nb.data.toList) (.held (ansV vb true)), by have := ZA.out; omega, HGO.out, by have := ZA.out; simp; omega, by have := ZA.out; simp; omega, HMP.out, by rw [List.length_append, ← Nat.add_assoc]; exact i7⟩
          case measure => have := ZA.out; simp [lenS]; omega
end Go.Proofs.YtbhlnemahhndoaaGreatDoor
namespace Go.Proofs.YtbhlnemahhndoaaGreatDoor
open Go.RowKit Go.Maps
set_option maxRecDepth 100000

theorem zero_fn (w : World) : (zeroValue 51).run Tryz.prog w = .ok .nilFunc w := by rfl
theorem look_any {w w' : World} {u t : ByteArray} {b : Bool} (h : Asked w w' u b t) (s : ByteArray) (hs : s.size ≤ maxLen) (f : Value) (hf : ∀ z, (asksD w.heap.size).atKey (.string s.data.toList) z = .held f) :
    (Instr.lookup 284 (.map (some (w.heap.size + 4))) (.string s) false).run Tryz.prog w' = .ok f w' := by
  obtain ⟨v, ps, hrun, hv⟩ := h.own.lookup key_k Tryz.underlying284 (zero_fn _) (zd := .held .nilFunc) (zp := []) rfl (key_of s hs)
  rw [← heldR_out hv (hf _)]; exact hrun
def isV (o : Option ByteArray) (t : ByteArray) : Bool := match o with
  | some g => g.toList == t.toList
  | none => false
theorem isV_eq (o : Option ByteArray) (t : ByteArray) : isV o t = decide (o = some t) := by
  cases o with
  | none => simp [isV]
  | some g =>
    show (g.toList == t.toList) = _
    rw [Bool.eq_iff_iff, decide_eq_true_eq, beq_iff_eq, Lib.toList_data, Lib.toList_data]
    constructor
    · intro e; rw [ByteArray.ext (Array.toList_inj.1 e)]
    · intro e; injection e with e; rw [e]
theorem ask_ok {n : ByteArray} {b c : Bool} (h : b = c) : Value.tuple #[.string n, .bool b, .int .i64 0] = askV (some (n.data.toList, c)) := by rw [h]; exact ask_some rfl

set_option maxHeartbeats 2000000 in
theorem askC_set (v : Value) (l : List At) (n nm tx : ByteArray) (w : World) (h : Attrs w v l) (hz : nm.size ≤ maxLen) (hp : Calls Tryz.prog 218 #[.string n] w fun e w' => e = .returned (.tuple #[.string ⟨#[]⟩, .string nm, .string tx]) ∧ Below w.heap.size w w') :
    Calls Tryz.prog 186 #[v, .string n] w fun e w' => e = .returned (askV (if nameB nm.data.toList = true then some (nm.data.toList, (getL l nm).isSome) else none)) ∧ Below w.heap.size w w' := by
  have hN := fun w => name_any nm w hz
  have hG := fun w h => get_any v l nm w h
  cases hn : nameB nm.data.toList with
  | false =>
    rw [hn] at hN
    clear hn
    go_enter Tryz.func186, Tryz.ntmps186
    go_wp2_with (first
      | (go_at_call 218; refine hp.mono ?_; rintro e w2 ⟨rfl, hb2⟩)
      | (go_at_call 37; refine (hN _).mono ?_; rintro e w3 ⟨rfl, rfl⟩))
    go_ret3
    exact ⟨rfl, hb2⟩
  | true =>
    rw [hn] at hN
    cases hg : getL l nm with
    | none =>
      rw [hg] at hG
      unfold getV at hG
      clear hn hg
      go_enter Tryz.func186, Tryz.ntmps186
      go_wp2_with (first
        | (go_at_call 218; refine hp.mono ?_; rintro e w2 ⟨rfl, hb2⟩)
        | (go_at_call 37; refine (hN _).mono ?_; rintro e w3 ⟨rfl, rfl⟩)
        | (go_at_call 219; refine (hG _ (h.below hb2)).mono ?_; rintro e w3 ⟨rfl, hb3⟩)
        | (go_at_call 220; refine (asks_c ⟨#[]⟩ false tx _).mono ?_; rintro e w4 ⟨rfl, hA⟩; have hL := look_any hA ⟨#[]⟩ (by decide) _ (asksD_set _); unfold fSet at hL)
        | (go_at_call 245; refine (asks2_c _ false _ hA.c1).mono ?_; rintro e w5 ⟨rfl, rfl⟩))
      go_ret3
      exact ⟨ret_v (ask_ok rfl), behind (behind hb2 hb3) hA.bel⟩
    | some g =>
      rw [hg] at hG
      unfold getV at hG
      clear hn hg
      go_enter Tryz.func186, Tryz.ntmps186
      go_wp2_with (first
        | (go_at_call 218; refine hp.mono ?_; rintro e w2 ⟨rfl, hb2⟩)
        | (go_at_call 37; refine (hN _).mono ?_; rintro e w3 ⟨rfl, rfl⟩)
        | (go_at_call 219; refine (hG _ (h.below hb2)).mono ?_; rintro e w3 ⟨rfl, hb3⟩)
        | (go_at_call 220; refine (asks_c g true tx _).mono ?_; rintro e w4 ⟨rfl, hA⟩; have hL := look_any hA ⟨#[]⟩ (by decide) _ (asksD_set _); unfold fSet at hL)
        | (go_at_call 245; refine (asks2_c _ true _ hA.c1).mono ?_; rintro e w5 ⟨rfl, rfl⟩))
      go_ret3
      exact ⟨ret_v (ask_ok rfl), behind (behind hb2 hb3) hA.bel⟩

set_option maxHeartbeats 2000000 in
theorem askC_not (v : Value) (l : List At) (n nm tx : ByteArray) (w : World) (h : Attrs w v l) (hz : nm.size ≤ maxLen) (hp : Calls Tryz.prog 218 #[.string n] w fun e w' => e = .returned (.tuple #[.string ⟨#[33]⟩, .string nm, .string tx]) ∧ Below w.heap.size w w') :
    Calls Tryz.prog 186 #[v, .string n] w fun e w' => e = .returned (askV (if nameB nm.data.toList = true then some (nm.data.toList, !(getL l nm).isSome) else none)) ∧ Below w.heap.size w w' := by
  have hN := fun w => name_any nm w hz
  have hG := fun w h => get_any v l nm w h
  cases hn : nameB nm.data.toList with
  | false =>
    rw [hn] at hN
    clear hn
    go_enter Tryz.func186, Tryz.ntmps186
    go_wp2_with (first
      | (go_at_call 218; refine hp.mono ?_; rintro e w2 ⟨rfl, hb2⟩)
      | (go_at_call 37; refine (hN _).mono ?_; rintro e w3 ⟨rfl, rfl⟩))
    go_ret3
    exact ⟨rfl, hb2⟩
  | true =>
    rw [hn] at hN
    cases hg : getL l nm with
    | none =>
      rw [hg] at hG
      unfold getV at hG
      clear hn hg
      go_enter Tryz.func186, Tryz.ntmps186
      go_wp2_with (first
        | (go_at_call 218; refine hp.mono ?_; rintro e w2 ⟨rfl, hb2⟩)
        | (go_at_call 37; refine (hN _).mono ?_; rintro e w3 ⟨rfl, rfl⟩)
        | (go_at_call 219; refine (hG _ (h.below hb2)).mono ?_; rintro e w3 ⟨rfl, hb3⟩)
        | (go_at_call 220; refine (asks_c ⟨#[]⟩ false tx _).mono ?_; rintro e w4 ⟨rfl, hA⟩; have hL := look_any hA ⟨#[33]⟩ (by decide) _ (asksD_not _); unfold fNot at hL)
        | (go_at_call 246; refine (asks3_c _ false _ hA.c1).mono ?_; rintro e w5 ⟨rfl, rfl⟩))
      go_ret3
      exact ⟨ret_v (ask_ok rfl), behind (behind hb2 hb3) hA.bel⟩
    | some g =>
      rw [hg] at hG
      unfold getV at hG
      clear hn hg
      go_enter Tryz.func186, Tryz.ntmps186
      go_wp2_with (first
        | (go_at_call 218; refine hp.mono ?_; rintro e w2 ⟨rfl, hb2⟩)
        | (go_at_call 37; refine (hN _).mono ?_; rintro e w3 ⟨rfl, rfl⟩)
        | (go_at_call 219; refine (hG _ (h.below hb2)).mono ?_; rintro e w3 ⟨rfl, hb3⟩)
        | (go_at_call 220; refine (asks_c g true tx _).mono ?_; rintro e w4 ⟨rfl, hA⟩; have hL := look_any hA ⟨#[33]⟩ (by decide) _ (asksD_not _); unfold fNot at hL)
        | (go_at_call 246; refine (asks3_c _ true _ hA.c1).mono ?_; rintro e w5 ⟨rfl, rfl⟩))
      go_ret3
      exact ⟨ret_v (ask_ok rfl), behind (behind hb2 hb3) hA.bel⟩

set_option maxHeartbeats 2000000 in
theorem askC_is (v : Value) (l : List At) (n nm tx : ByteArray) (w : World) (h : Attrs w v l) (hz : nm.size ≤ maxLen) (hp : Calls Tryz.prog 218 #[.string n] w fun e w' => e = .returned (.tuple #[.string ⟨#[61]⟩, .string nm, .string tx]) ∧ Below w.heap.size w w') :
    Calls Tryz.prog 186 #[v, .string n] w fun e w' => e = .returned (askV (if nameB nm.data.toList = true then some (nm.data.toList, isV (getL l nm) tx) else none)) ∧ Below w.heap.size w w' := by
  have hN := fun w => name_any nm w hz
  have hG := fun w h => get_any v l nm w h
  cases hn : nameB nm.data.toList with
  | false =>
    rw [hn] at hN
    clear hn
    go_enter Tryz.func186, Tryz.ntmps186
    go_wp2_with (first
      | (go_at_call 218; refine hp.mono ?_; rintro e w2 ⟨rfl, hb2⟩)
      | (go_at_call 37; refine (hN _).mono ?_; rintro e w3 ⟨rfl, rfl⟩))
    go_ret3
    exact ⟨rfl, hb2⟩
  | true =>
    rw [hn] at hN
    cases hg : getL l nm with
    | none =>
      rw [hg] at hG
      unfold getV at hG
      clear hn hg
      go_enter Tryz.func186, Tryz.ntmps186
      go_wp2_with (first
        | (go_at_call 218; refine hp.mono ?_; rintro e w2 ⟨rfl, hb2⟩)
        | (go_at_call 37; refine (hN _).mono ?_; rintro e w3 ⟨rfl, rfl⟩)
        | (go_at_call 219; refine (hG _ (h.below hb2)).mono ?_; rintro e w3 ⟨rfl, hb3⟩)
        | (go_at_call 220; refine (asks_c ⟨#[]⟩ false tx _).mono ?_; rintro e w4 ⟨rfl, hA⟩; have hL := look_any hA ⟨#[61]⟩ (by decide) _ (asksD_is _); unfold fIs at hL)
        | (go_at_call 244; refine (asks1_c _ _ _ ⟨#[]⟩ tx false _ hA.c1 hA.c0 hA.c2).mono ?_; rintro e w5 ⟨rfl, rfl⟩))
      go_ret3
      exact ⟨ret_v (ask_ok rfl), behind (behind hb2 hb3) hA.bel⟩
    | some g =>
      rw [hg] at hG
      unfold getV at hG
      clear hn hg
      go_enter Tryz.func186, Tryz.ntmps186
      go_wp2_with (first
        | (go_at_call 218; refine hp.mono ?_; rintro e w2 ⟨rfl, hb2⟩)
        | (go_at_call 37; refine (hN _).mono ?_; rintro e w3 ⟨rfl, rfl⟩)
        | (go_at_call 219; refine (hG _ (h.below hb2)).mono ?_; rintro e w3 ⟨rfl, hb3⟩)
        | (go_at_call 220; refine (asks_c g true tx _).mono ?_; rintro e w4 ⟨rfl, hA⟩; have hL := look_any hA ⟨#[61]⟩ (by decide) _ (asksD_is _); unfold fIs at hL)
        | (go_at_call 244; refine (asks1_c _ _ _ g tx true _ hA.c1 hA.c0 hA.c2).mono ?_; rintro e w5 ⟨rfl, rfl⟩))
      go_ret3
      exact ⟨ret_v (ask_ok rfl), behind (behind hb2 hb3) hA.bel⟩

set_option maxHeartbeats 2000000 in
theorem askC_isnt (v : Value) (l : List At) (n nm tx : ByteArray) (w : World) (h : Attrs w v l) (hz : nm.size ≤ maxLen) (hp : Calls Tryz.prog 218 #[.string n] w fun e w' => e = .returned (.tuple #[.string ⟨#[33, 61]⟩, .string nm, .string tx]) ∧ Below w.heap.size w w') :
    Calls Tryz.prog 186 #[v, .string n] w fun e w' => e = .returned (askV (if nameB nm.data.toList = true then some (nm.data.toList, !isV (getL l nm) tx) else none)) ∧ Below w.heap.size w w' := by
  have hN := fun w => name_any nm w hz
  have hG := fun w h => get_any v l nm w h
  cases hn : nameB nm.data.toList with
  | false =>
    rw [hn] at hN
    clear hn
    go_enter Tryz.func186, Tryz.ntmps186
    go_wp2_with (first
      | (go_at_call 218; refine hp.mono ?_; rintro e w2 ⟨rfl, hb2⟩)
      | (go_at_call 37; refine (hN _).mono ?_; rintro e w3 ⟨rfl, rfl⟩))
    go_ret3
    exact ⟨rfl, hb2⟩
  | true =>
    rw [hn] at hN
    cases hg : getL l nm with
    | none =>
      rw [hg] at hG
      unfold getV at hG
      clear hn hg
      go_enter Tryz.func186, Tryz.ntmps186
      go_wp2_with (first
        | (go_at_call 218; refine hp.mono ?_; rintro e w2 ⟨rfl, hb2⟩)
        | (go_at_call 37; refine (hN _).mono ?_; rintro e w3 ⟨rfl, rfl⟩)
        | (go_at_call 219; refine (hG _ (h.below hb2)).mono ?_; rintro e w3 ⟨rfl, hb3⟩)
        | (go_at_call 220; refine (asks_c ⟨#[]⟩ false tx _).mono ?_; rintro e w4 ⟨rfl, hA⟩; have hL := look_any hA ⟨#[33, 61]⟩ (by decide) _ (asksD_isnt _); unfold fIsnt at hL)
        | (go_at_call 247; refine (asks4_c _ _ _ _ ⟨#[]⟩ tx false _ hA.c3 hA.c1 hA.c0 hA.c2).mono ?_; rintro e w5 ⟨rfl, rfl⟩))
      go_ret3
      exact ⟨ret_v (ask_ok rfl), behind (behind hb2 hb3) hA.bel⟩
    | some g =>
      rw [hg] at hG
      unfold getV at hG
      clear hn hg
      go_enter Tryz.func186, Tryz.ntmps186
      go_wp2_with (first
        | (go_at_call 218; refine hp.mono ?_; rintro e w2 ⟨rfl, hb2⟩)
        | (go_at_call 37; refine (hN _).mono ?_; rintro e w3 ⟨rfl, rfl⟩)
        | (go_at_call 219; refine (hG _ (h.below hb2)).mono ?_; rintro e w3 ⟨rfl, hb3⟩)
        | (go_at_call 220; refine (asks_c g true tx _).mono ?_; rintro e w4 ⟨rfl, hA⟩; have hL := look_any hA ⟨#[33, 61]⟩ (by decide) _ (asksD_isnt _); unfold fIsnt at hL)
        | (go_at_call 247; refine (asks4_c _ _ _ _ g tx true _ hA.c3 hA.c1 hA.c0 hA.c2).mono ?_; rintro e w5 ⟨rfl, rfl⟩))
      go_ret3
      exact ⟨ret_v (ask_ok rfl), behind (behind hb2 hb3) hA.bel⟩

theorem head_cut {a b : List UInt8} (h : (a ++ 33 :: 61 :: b).head? ≠ some 33) : (a ++ [33]).head? ≠ some 33 := by
  cases a with
  | nil => exact fun _ => h rfl
  | cons x a => exact fun e => h e
theorem bT_size (l : List UInt8) : (bT l).size = l.length := by show l.toArray.size = _; simp
theorem ask_any (v : Value) (l : List At) (s : ByteArray) (w : World) (h : Attrs w v l) (hs : s.size ≤ 140737488351232) : Calls Tryz.prog 186 #[v, .string s] w fun e w' => e = .returned (askV (askL l s.data.toList)) ∧ Below w.heap.size w w' := by
  have hz : s.data.toList.length = s.size := by simp
  by_cases h33 : s.data.toList.head? = some 33
  · obtain ⟨t, ht⟩ : ∃ t, s.data.toList = 33 :: t := by
      cases e : s.data.toList with
      | nil => rw [e] at h33; cases h33
      | cons x t => rw [e] at h33; injection h33 with h33; exact ⟨t, by rw [h33]⟩
    have := askC_not v l s (bT t) ⟨#[]⟩ w h (by rw [bT_size]; rw [ht] at hz; simp at hz; unfold maxLen; omega) (parts_not s t w ht)
    rw [ht, ask_not]
    exact this
  · by_cases h6 : (61 : UInt8) ∈ s.data.toList
    · obtain ⟨a, b, hab, ha⟩ : ∃ a b, s.data.toList = a ++ 61 :: b ∧ (61 : UInt8) ∉ a := by
        rcases index_at 61 s.data.toList with ⟨h1, _⟩ | ⟨a, b, h1, h2, _⟩
        · exact absurd h6 h1
        · exact ⟨a, b, h1, h2⟩
      by_cases h3 : a.getLast? = some 33
      · obtain ⟨a', rfl⟩ : ∃ a', a = a' ++ [33] := List.getLast?_eq_some_iff.1 h3
        have h6' : (61 : UInt8) ∉ a' := fun hm => ha (by simp [hm])
        have hab' : s.data.toList = a' ++ 33 :: 61 :: b := by rw [hab]; simp
        have := askC_isnt v l s (bT a') (bT b) w h (by rw [bT_size]; rw [hab] at hz; simp at hz; unfold maxLen; omega) (partC_ne s a' b w hs h33 h6' hab')
        rw [hab', ask_ne l (head_cut (by rw [hab'] at h33; exact h33)) h6', ← isV_eq]
        exact this
      · have := askC_is v l s (bT a) (bT b) w h (by rw [bT_size]; rw [hab] at hz; simp at hz; unfold maxLen; omega) (parts_eq s a b w hs h33 ha h3 hab)
        rw [hab, ask_eq l (by rw [← hab]; exact h33) ha h3, ← isV_eq]
        exact this
    · have := askC_set v l s s ⟨#[]⟩ w h (by unfold maxLen; omega) (parts_is s w h33 h6)
      rw [ask_is l h33 h6, bT_data]
      exact this
end Go.Proofs.YtbhlnemahhndoaaGreatDoor
