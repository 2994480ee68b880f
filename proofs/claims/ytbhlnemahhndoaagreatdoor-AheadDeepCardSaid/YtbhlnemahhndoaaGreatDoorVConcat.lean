/- Merged: Concat. -/
import Derived.Test.YtbhlnemahhndoaaGreatDoorU4
import Derived.Test.YtbhlnemahhndoaaGreatDoorUnder
import Derived.Lib.AppendZeros
import Derived.Laws.AppendOwnNone
namespace Go.Proofs.YtbhlnemahhndoaaGreatDoor
open Go.RowKit
set_option maxRecDepth 100000

theorem zero_cells (n : Nat) : (Builtin.zeroCells #[Value.string ⟨#[]⟩, .string ⟨#[]⟩] n).size = n * 2 := by
  rw [size_zeroCells]; show n * 2 = _; rfl

set_option maxHeartbeats 1000000 in
theorem grow_c (n : Nat) (w : World) (hn : n ≤ 100000) : Calls Tryz.prog 231 #[.slice none 0 0, .int .i64 n] w fun e w' =>
    ∃ v, e = .returned v ∧ w'.ownsRow w.heap.size 84 2 v 0 [] ∧ Below w.heap.size w w' := by
  obtain ⟨i0, hi, hz0, hz1, hz2⟩ := info_parts info48
  by_cases h0 : 0 < n
  · have hrun := fun ty => Lib.run_append_nil_zeros (P := Tryz.prog) w 22 3 ty 84 i0 _ .i64 .i64 Tryz.underlying22 Tryz.underlying3 hi hz0 n h0 (by omega) (by omega) (by rw [hz2]; omega)
    have hge := grownCap_ge w n 0 84
    have hle := grownCap_le_maxLen w n 0 84 (by unfold maxLen; omega)
    obtain ⟨cp, hcp⟩ : ∃ cp, grownCap w n 0 84 = cp := ⟨_, rfl⟩
    rw [hcp] at hge hle
    simp only [hcp] at hrun
    clear hcp
    have e1 : IntKind.i64.wrap ((n : Int) - 0) = (n : Int) := by rw [IntKind.wrap_i64]; omega
    have hc0 : ¬ cp = 0 := by omega
    go_enter Tryz.func231, Tryz.ntmps231
    go_wp2_with (at_builtin; refine Lib.wpList_append_run _ rfl _ _ 22 3 rfl _ _ rfl rfl _ _ (hrun _) ?_)
    go_ret
    refine ⟨_, rfl, ⟨rfl, .inr ⟨w.heap.size, cp, _, rfl, Nat.le_refl _, heap_alloc_new _ _, Nat.zero_le _, hle, ?_, rfl⟩⟩, ((Below.refl _ _).drew).alloc (Nat.le_refl _) _⟩
    rw [Array.size_append, zero_cells, zero_cells]; omega
  · have : n = 0 := by omega
    subst this
    go_enter Tryz.func231, Tryz.ntmps231
    go_wp2
    go_ret
    exact ⟨_, rfl, ⟨rfl, .inl ⟨rfl, rfl⟩⟩, Below.refl _ _⟩

theorem cells_at {w : World} {b o : Nat} {l : List At} (h : AtCells w b o l) : ∀ j u, (atCells l)[j]? = some u → w.cell? ⟨b, o + j, none⟩ = some u := by
  intro j u hj
  have hlt : j < l.length * 2 := by rw [← atCells_length]; exact (List.getElem?_eq_some_iff.1 hj).1
  obtain ⟨e1, e2⟩ := atCells_at l (j / 2) (by omega)
  obtain ⟨c1, c2⟩ := h (j / 2) (by omega)
  by_cases hp : j % 2 = 0
  · have e : j / 2 * 2 = j := by omega
    rw [e] at e1 c1
    rw [e1] at hj; injection hj with hj; rw [← hj]; exact c1
  · have e : j / 2 * 2 + 1 = j := by omega
    rw [e] at e2
    rw [Nat.add_assoc, e] at c2
    rw [e2] at hj; injection hj with hj; rw [← hj]; exact c2
theorem add_any (b o j : Nat) : (⟨b, o, none⟩ : Addr).add j = ⟨b, o + j, none⟩ := by by_cases hj : j = 0 <;> simp [Addr.add, hj]
theorem attrs_cells {w : World} {ad : Addr} {c : Nat} {l : List At} (h : Attrs w (.slice (some ad) l.length c) l) : ∀ j u, (atCells l)[j]? = some u → w.cell? (ad.add j) = some u := by
  intro j u hj
  have hlt : j < l.length * 2 := by rw [← atCells_length]; exact (List.getElem?_eq_some_iff.1 hj).1
  obtain ⟨p, cap, hv, _, _, hc⟩ := h
  obtain ⟨b, o, hp, _, hcc⟩ := hc (by omega)
  injection hv with h1 h2 h3
  rw [← h1] at hp
  injection hp with hp
  rw [hp, add_any]
  exact cells_at hcc j u hj
theorem at_one (l : List At) : ∀ u ∈ atCells l, u.oneCell' = true := by
  intro u hu
  unfold atCells at hu
  obtain ⟨a, _, ha⟩ := List.mem_flatMap.1 hu
  exact pair_one a.1 a.2 u ha

/-- the parts of a list of lists, one behind the other -/
def flatK (ps : List (List At)) (k : Nat) : List At := (ps.take k).flatten
theorem flat_next (ps : List (List At)) (k : Nat) (h : k < ps.length) : flatK ps (k + 1) = flatK ps k ++ ps[k] := by
  unfold flatK; rw [List.take_succ_eq_append_getElem h, List.flatten_append, List.flatten_cons, List.flatten_nil, List.append_nil]
theorem flat_end (ps : List (List At)) (k : Nat) (h : ps.length ≤ k) : flatK ps k = ps.flatten := by unfold flatK; rw [List.take_of_length_le h]
theorem flat_le (ps : List (List At)) (k : Nat) : (flatK ps k).length ≤ ps.flatten.length := by
  have h : ps.flatten = flatK ps k ++ (ps.drop k).flatten := by unfold flatK; rw [← List.flatten_append, List.take_append_drop]
  rw [h, List.length_append]; omega

set_option maxHeartbeats 4000000 in
theorem concat_c (P : Nat) (vs : Nat → Value) (ps : List (List At)) (w : World) (hP : P < w.heap.size) (hn : ps.flatten.length ≤ 100000) (hk : ps.length ≤ 100000)
    (hv : ∀ k (h : k < ps.length), w.cell? ⟨P, k, none⟩ = some (vs k) ∧ Attrs w (vs k) ps[k]) :
    Calls Tryz.prog 195 #[.slice (some ⟨P, 0, none⟩) ps.length ps.length] w fun e w' =>
      ∃ v, e = .returned v ∧ w'.ownsRow w.heap.size 84 2 v ps.flatten.length (atCells ps.flatten) ∧ Below w.heap.size w w' := by
  obtain ⟨i0, hi, hz0, hz1, hz2⟩ := info_parts info48
  have HV := Lib.hid hv
  clear hv
  go_enter Tryz.func195, Tryz.ntmps195
  go_wp2
  go_loop [3, 11] (fun sz i => ∃ k : Nat, k ≤ ps.length ∧ i = .int .i64 k ∧ sz = .int .i64 ((flatK ps k).length : Nat)) (fun _ i => ps.length - (intOf i).toNat)
  case atStart => exact ⟨0, by omega, rfl, rfl⟩
  case round =>
    obtain ⟨k, hkl, rfl, rfl⟩ := hrel
    by_cases hlt : k < ps.length
    · obtain ⟨c1, hA⟩ := HV.out k hlt
      obtain ⟨p, cap, hvk, _, _, _⟩ := hA
      rw [hvk] at c1
      have HN := Lib.hid (flat_next ps k hlt)
      have hle := flat_le ps (k + 1)
      rw [HN.out, List.length_append] at hle
      have e1 : IntKind.i64.wrap (((flatK ps k).length : Int) + (ps[k].length : Int)) = (((flatK ps k).length + ps[k].length : Nat) : Int) := by rw [IntKind.wrap_i64]; omega
      clear hvk
      go_wp2
      go_round
      case rel => exact ⟨k + 1, by omega, by go_num, by rw [HN.out, List.length_append, Int.natCast_add]⟩
      case measure => simp [intOf]; omega
    · have HE := Lib.hid (flat_end ps k (by omega))
      rw [HE.out]
      obtain ⟨n, hnn⟩ : ∃ n : Nat, ps.flatten.length = n := ⟨_, rfl⟩
      have hG := grow_c n w (by omega)
      rw [hnn]
      go_wp2_with (go_at_call 231; refine hG.mono ?_; rintro e w2 ⟨v2, rfl, r2, b2⟩)
      have R2 := Lib.hid r2
      clear r2 hG
      go_loopw [6, 27] (fun nv i wr => ∃ k : Nat, k ≤ ps.length ∧ i = .int .i64 k ∧ wr.ownsRow w.heap.size 84 2 nv (flatK ps k).length (atCells (flatK ps k)) ∧ Below w.heap.size w wr) (fun _ i _ => ps.length - (intOf i).toNat)
      case atStart => exact ⟨0, by omega, rfl, R2.out, b2⟩
      case round =>
        clear R2 b2
        obtain ⟨j, hjl, rfl, hown, hbel⟩ := hrel
        by_cases hlj : j < ps.length
        · obtain ⟨c1, hA⟩ := HV.out j hlj
          have c1 := (hbel.cell (p := ⟨P, j, none⟩) hP).trans c1
          have hA := hA.below hbel
          have HN := Lib.hid (flat_next ps j hlj)
          have HC : Hid (atCells (flatK ps (j + 1)) = atCells (flatK ps j) ++ atCells ps[j]) := Lib.hid (by rw [HN.out, atCells_append])
          have hle := flat_le ps (j + 1)
          rw [HN.out, List.length_append] at hle
          have hA2 := hA
          obtain ⟨p, cap, hvk, _, ⟨_, h0, _⟩, _⟩ := hA2
          rw [hvk] at c1 hA
          cases p with
          | none =>
            have hcap := h0 rfl
            have hl0 : ps[j].length = 0 := by
              obtain ⟨p3, c3, h3, _, _, h4⟩ := hA
              by_cases hz : 0 < ps[j].length
              · obtain ⟨b, o, hp, _⟩ := h4 hz
                injection h3 with h3 _ _
                rw [hp] at h3; cases h3
              · omega
            have hnil : ps[j] = [] := List.length_eq_zero_iff.1 hl0
            rw [hcap, hl0] at c1
            have HS : Hid (flatK ps (j + 1) = flatK ps j) := Lib.hid (by rw [HN.out, hnil, List.append_nil])
            clear hvk hA h0 hcap hnil hl0
            go_wp2_with (at_builtin; refine wpList_append_own_none rfl _ _ 22 rfl w.heap.size 84 i0 2 Tryz.underlying22 hi _ _ _ rfl hown rfl ?_)
            refine ⟨⟨j + 1, by omega, by go_num, by rw [HS.out]; exact hown, hbel⟩, by simp [intOf]; omega⟩
          | some ad =>
            have hz := hbel.size
            have hm1 : Hid ((flatK ps j).length + ps[j].length ≤ maxLen) := Lib.hid (by unfold maxLen; omega)
            have hm2 : Hid (((flatK ps j).length + ps[j].length) * 32 ≤ 140737488355328) := Lib.hid (by omega)
            clear hvk h0
            go_wp2_with (at_builtin; refine wpList_append_own _ rfl _ _ 22 rfl w.heap.size 84 i0 _ 2 32 Tryz.underlying22 hi hz0 hz1 hz2 rfl (by decide) _ _ _ rfl hown ad ps[j].length cap (atCells ps[j]) rfl (atCells_length _) (attrs_cells hA) (at_one _) hm1.out hm2.out hz ?_; intro v6 w6 r6 g6 _)
            refine ⟨⟨j + 1, by omega, by go_num, by rw [HC.out, HN.out, List.length_append]; exact r6, ?_⟩, by simp [intOf]; omega⟩
            exact hbel.grown g6 hz (fun k e => (hown.lt k e).1)
        · have HE2 := Lib.hid (flat_end ps j (by omega))
          rw [HE2.out] at hown
          go_wp2
          go_ret
          exact ⟨_, rfl, by rw [← hnn]; exact hown, hbel⟩
end Go.Proofs.YtbhlnemahhndoaaGreatDoor
