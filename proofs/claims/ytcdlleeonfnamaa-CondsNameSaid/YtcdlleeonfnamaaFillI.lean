import Derived.Test.YtcdlleeonfnamaaNextC
import Derived.Test.YtcdlleeonfnamaaAsksC
import Derived.Test.YtcdlleeonfnamaaBuild
import Derived.Test.YtcdlleeonfnamaaSameT
namespace Go.Proofs.Ytcdlleeonfnamaa
open Go.RowKit Go.Maps
set_option maxRecDepth 100000

/-! ### what stays while other blocks are written -/
theorem builder_same {T e : TypeId} {B b : Nat} {bs : List Value} {w w' : World} (h : Lib.IsBuilderF T e B b bs w) (hb : w'.heap[b]? = w.heap[b]?) (hr : ∀ (g : Nat) (c : Array Value) (fz : Nat × Nat), w.heap[g]? = some (.cells c e fz) → w'.heap[g]? = w.heap[g]?) : Lib.IsBuilderF T e B b bs w' := by
  have one : ∀ p, Lib.BuilderAtF T e B b p bs w → Lib.BuilderAtF T e B b p bs w' := by
    rintro p ⟨hB, v, hbk, hown, hne⟩
    refine ⟨hB, v, hb.trans hbk, ⟨hown.1, ?_⟩, hne⟩
    rcases hown.2 with h0 | ⟨g, cap, cur, fz, hv, hg0, hg, r⟩
    · exact .inl h0
    · exact .inr ⟨g, cap, cur, fz, hv, hg0, (hr g _ _ hg).trans hg, r⟩
  exact h.imp (one _) (one _)
theorem row_same {base n sz : Nat} {e : TypeId} {v : Value} {xs : List Value} {w w' : World} (h : w.ownsRow base e sz v n xs) (hr : ∀ (g : Nat) (c : Array Value) (fz : Nat × Nat), w.heap[g]? = some (.cells c e fz) → w'.heap[g]? = w.heap[g]?) : w'.ownsRow base e sz v n xs := by
  obtain ⟨h1, h2⟩ := h
  refine ⟨h1, ?_⟩
  rcases h2 with h2 | ⟨g, cap, cur, rfl, hB, hg, r⟩
  · exact .inl h2
  · exact .inr ⟨g, cap, cur, rfl, hB, (hr g _ _ hg).trans hg, r⟩
theorem map_same {H : Type} {P : Program} {k : TypeId} {R : Value → Option (DataW H × List MemPlace)} {b n : Nat} {D : DataW H} {w w' : World} (h : w.ownsMap P k R b n D) (hb : ∀ es c, w.heap[b]? = some (.map es c) → w'.heap[b]? = w.heap[b]?) : w'.ownsMap P k R b n D := by
  obtain ⟨es, c, hm, r⟩ := h
  exact ⟨es, c, (hb es c hm).trans hm, r⟩

/-- what Fill holds: the text so far, the names so far, where each stands -/
structure FillI (W : World) (B : Nat) (acc : List UInt8) (nv : Value) (asked : List (List UInt8)) (m : Nat) (D : DataW Value) (w : World) : Prop where
  bld : Lib.IsBuilderF 60 5 B B (Lib.byteCells acc) w
  row : w.ownsRow B 9 1 nv asked.length (asked.map strV)
  map : w.ownsMap Try.prog 9 heldR (B + 1) m D
  le : B + 1 < w.heap.size
  bel : Below B W w

theorem lt_of {w : World} {g : Nat} {o : Obj} (h : w.heap[g]? = some o) : g < w.heap.size := (Array.getElem?_eq_some_iff.1 h).1
theorem builder_block {T e : TypeId} {B b : Nat} {bs : List Value} {w : World} (h : Lib.IsBuilderF T e B b bs w) : ∃ c, w.heap[b]? = some (.cells c T (0, 0)) := by
  rcases h with ⟨_, v, hb, _⟩ | ⟨_, v, hb, _⟩ <;> exact ⟨_, hb⟩
theorem FillI.below {W : World} {B m : Nat} {acc : List UInt8} {nv : Value} {asked : List (List UInt8)} {D : DataW Value} {w w' : World} (h : FillI W B acc nv asked m D w) (hb : Below w.heap.size w w') : FillI W B acc nv asked m D w' := by
  obtain ⟨c, hbk⟩ := builder_block h.bld
  exact ⟨builder_same h.bld (hb.block _ (lt_of hbk)) (fun g c fz hg => hb.block g (lt_of hg)), row_same h.row (fun g c fz hg => hb.block g (lt_of hg)), map_same h.map (fun es c hm => hb.block _ (lt_of hm)), Nat.lt_of_lt_of_le h.le hb.size, h.bel.trans (hb.mono (by have := h.le; omega))⟩
theorem FillI.wrote {W : World} {B m : Nat} {acc acc' : List UInt8} {nv : Value} {asked : List (List UInt8)} {D : DataW Value} {w w' : World} (h : FillI W B acc nv asked m D w) (h1 : Lib.IsBuilderF 60 5 B B (Lib.byteCells acc') w') (hb : Below B w w') (hk : Lib.OthersKept 5 (some B) w w') : FillI W B acc' nv asked m D w' := by
  refine ⟨h1, row_same h.row (fun g c fz hg => ?_), map_same h.map (fun es c hm => ?_), Nat.lt_of_lt_of_le h.le hb.size, h.bel.trans hb⟩
  · rw [hg]
    obtain ⟨c0, hbk⟩ := builder_block h.bld
    refine hk g _ hg (fun e => ?_) (fun c fz e => by injection e with _ e2 _; exact absurd e2 (by decide))
    injection e with e; subst e
    rw [hbk] at hg; injection hg with hg; injection hg with _ e2 _; exact absurd e2 (by decide)
  · rw [hm]
    exact hk _ _ hm (fun e => by injection e with e; omega) (fun c fz e => by cases e)
theorem FillI.mapped {W : World} {B m m' : Nat} {acc : List UInt8} {nv : Value} {asked : List (List UInt8)} {D D' : DataW Value} {w w' : World} (h : FillI W B acc nv asked m D w) (h1 : w'.ownsMap Try.prog 9 heldR (B + 1) m' D') (hg : w.grownBy w' (some (B + 1))) : FillI W B acc nv asked m' D' w' := by
  obtain ⟨c, hbk⟩ := builder_block h.bld
  obtain ⟨es, cl, hm, _⟩ := h.map
  have hc : ∀ (g : Nat) (c : Array Value) (t : TypeId) (fz : Nat × Nat), w.heap[g]? = some (.cells c t fz) → w'.heap[g]? = w.heap[g]? := fun g c t fz hg' => hg.block g (lt_of hg') (fun e => by injection e with e; subst e; rw [hm] at hg'; cases hg')
  exact ⟨builder_same h.bld (hc _ _ _ _ hbk) (fun g c fz hg' => hc _ _ _ _ hg'), row_same h.row (fun g c fz hg' => hc _ _ _ _ hg'), h1, Nat.lt_of_lt_of_le h.le hg.size, h.bel.grown hg (by have := h.le; omega) (fun k e => by injection e with e; omega)⟩
theorem row_block {base n sz : Nat} {e : TypeId} {v : Value} {xs : List Value} {w : World} (h : w.ownsRow base e sz v n xs) : ∀ g, v.ownBlock = some g → base ≤ g ∧ ∃ c fz, w.heap[g]? = some (.cells c e fz) := by
  intro g hg
  rcases h.2 with ⟨rfl, _⟩ | ⟨g', cap, cur, rfl, hB, hgg, _⟩
  · simp [Value.ownBlock] at hg
  · simp [Value.ownBlock] at hg
    subst hg
    exact ⟨hB, _, _, hgg⟩
theorem FillI.named {W : World} {B m : Nat} {acc : List UInt8} {nv nv' : Value} {asked asked' : List (List UInt8)} {D : DataW Value} {w w' : World} (h : FillI W B acc nv asked m D w) (h1 : w'.ownsRow B 9 1 nv' asked'.length (asked'.map strV)) (hg : w.grownBy w' nv.ownBlock) : FillI W B acc nv' asked' m D w' := by
  obtain ⟨c, hbk⟩ := builder_block h.bld
  have hr := row_block h.row
  have hc : ∀ (g : Nat) (c : Array Value) (t : TypeId) (fz : Nat × Nat), t ≠ 9 → w.heap[g]? = some (.cells c t fz) → w'.heap[g]? = w.heap[g]? := fun g c t fz ht hg' => hg.block g (lt_of hg') (fun e => by
    obtain ⟨_, c2, fz2, h2⟩ := hr g e.symm
    rw [h2] at hg'; injection hg' with hg'; injection hg' with _ e2 _; exact ht e2.symm)
  refine ⟨builder_same h.bld (hc _ _ _ _ (by decide) hbk) (fun g c fz hg' => hc _ _ _ _ (by decide) hg'), h1, map_same h.map (fun es c hm => hg.block _ (lt_of hm) (fun e => ?_)), Nat.lt_of_lt_of_le h.le hg.size, h.bel.grown hg (by have := h.le; omega) (fun k e => (hr k e).1)⟩
  obtain ⟨_, c2, fz2, h2⟩ := hr _ e.symm
  rw [h2] at hm; cases hm

/-! ### what the map says -/
/-- an answer as it is held -/
def ansV (v : ByteArray) (a : Bool) : Value := .agg #[.string v, .bool a]
def AnsIs (D : DataW Value) (l : List At) (asked : List (List UInt8)) : Prop :=
  IsMap D ∧ ∀ nm : List UInt8, Maps.has D (.string nm) = (decide (nm ∈ asked) || (getL l (bT nm)).isSome) ∧ (Maps.has D (.string nm) = true → ∀ z, D.atKey (.string nm) z = .held (ansV (bT (valueL l nm)) (decide (nm ∈ asked))))
theorem ansIs_nil : AnsIs (.map []) [] [] := ⟨⟨[], rfl⟩, fun nm => ⟨rfl, fun h => by cases h⟩⟩
theorem ansIs_put {D : DataW Value} {l : List At} {asked : List (List UInt8)} (h : AnsIs D l asked) (nm : List UInt8) : AnsIs (D.put (.string nm) (.held (ansV (bT (valueL l nm)) true))) l (asked ++ [nm]) := by
  obtain ⟨hm, h⟩ := h
  refine ⟨hm.put _ _, fun x => ?_⟩
  by_cases e : x = nm
  · subst e
    refine ⟨?_, fun _ z => ?_⟩
    · rw [has_put_same (k := Lit.string x) hm trivial]; simp
    · rw [atKey_put_same (k := Lit.string x) hm trivial]; simp
  · have hne : (Lit.string x : Lit) ≠ .string nm := fun h => by injection h with h; exact e h
    have hd : decide (x ∈ asked ++ [nm]) = decide (x ∈ asked) := by simp [e]
    refine ⟨?_, fun hx z => ?_⟩
    · rw [has_put_other hne, (h x).1, hd]
    · rw [has_put_other hne] at hx
      rw [atKey_put_other hne, hd]
      exact (h x).2 hx z
theorem getL_snoc (l : List At) (a : At) (nm : ByteArray) : getL (l ++ [a]) nm = (getL l nm).or (if (a.1.toList == nm.toList) = true then some a.2 else none) := by
  unfold getL
  rw [List.find?_append]
  cases l.find? (fun a => a.1.toList == nm.toList) with
  | some x => rfl
  | none =>
    by_cases e : (a.1.toList == nm.toList) = true
    · simp [e]
    · simp [e]
theorem ansIs_known {D : DataW Value} {l : List At} (h : AnsIs D l []) (a : At) (hk : Maps.has D (.string a.1.data.toList) = true) : AnsIs D (l ++ [a]) [] := by
  obtain ⟨hm, h⟩ := h
  have h0 := (h a.1.data.toList).1
  rw [hk, bT_data] at h0
  have hs : (getL l a.1).isSome = true := by simpa using h0.symm
  have hg : ∀ nm, getL (l ++ [a]) nm = getL l nm := fun nm => by
    rw [getL_snoc]
    cases e : getL l nm with
    | some x => rfl
    | none =>
      by_cases e2 : (a.1.toList == nm.toList) = true
      · have e3 : a.1 = nm := by
          rw [beq_iff_eq, Lib.toList_data, Lib.toList_data] at e2
          exact ByteArray.ext (Array.toList_inj.1 e2)
        rw [e3, e] at hs; cases hs
      · simp [e2]
  have hv : ∀ nm, valueL (l ++ [a]) nm = valueL l nm := fun nm => by unfold valueL; rw [hg]
  exact ⟨hm, fun nm => by rw [hg, hv]; exact h nm⟩
theorem ansIs_more {D : DataW Value} {l : List At} (h : AnsIs D l []) (a : At) (hk : Maps.has D (.string a.1.data.toList) = false) : AnsIs (D.put (.string a.1.data.toList) (.held (ansV a.2 false))) (l ++ [a]) [] := by
  obtain ⟨hm, h⟩ := h
  have h0 := (h a.1.data.toList).1
  rw [hk, bT_data] at h0
  have hs : getL l a.1 = none := by
    cases e : getL l a.1 with
    | none => rfl
    | some x => rw [e] at h0; simp at h0
  refine ⟨hm.put _ _, fun x => ?_⟩
  by_cases e : x = a.1.data.toList
  · subst e
    have hg : getL (l ++ [a]) (bT a.1.data.toList) = some a.2 := by
      rw [bT_data, getL_snoc, hs]; simp
    have hv : valueL (l ++ [a]) a.1.data.toList = a.2.data.toList := by unfold valueL; rw [hg]
    refine ⟨?_, fun _ z => ?_⟩
    · rw [has_put_same (k := Lit.string _) hm trivial, hg]; rfl
    · rw [atKey_put_same (k := Lit.string _) hm trivial, hv, bT_data]; rfl
  · have hne : (Lit.string x : Lit) ≠ .string a.1.data.toList := fun h => by injection h with h; exact e h
    have hg : getL (l ++ [a]) (bT x) = getL l (bT x) := by
      rw [getL_snoc]
      have : ¬ (a.1.toList == (bT x).toList) = true := by
        rw [beq_iff_eq, Lib.toList_data, Lib.toList_data]
        intro e2; exact e (by rw [e2]; simp [bT])
      rw [if_neg this]; cases getL l (bT x) <;> rfl
    have hv : valueL (l ++ [a]) x = valueL l x := by unfold valueL; rw [hg]
    refine ⟨?_, fun hx z => ?_⟩
    · rw [has_put_other hne, hg]; exact (h x).1
    · rw [has_put_other hne] at hx
      rw [atKey_put_other hne, hv]
      exact (h x).2 hx z
end Go.Proofs.Ytcdlleeonfnamaa
