import Derived.Test.YtikeaiibociapaaGreatDoorSize
import Derived.OwnWalk
import Derived.OneCell
import Derived.ArgAppend
import Derived.Maps.AppendAt
namespace Go.Proofs.YtikeaiibociapaaGreatDoor
open Go.RowKit
set_option maxRecDepth 100000

/-- attributes' cells -/
def atCells (l : List At) : List Value := l.flatMap fun a => [.string a.1, .string a.2]
theorem atCells_length (l : List At) : (atCells l).length = l.length * 2 := by
  induction l with
  | nil => rfl
  | cons a l ih => simp [atCells] at ih ⊢; omega
theorem atCells_append (a b : List At) : atCells (a ++ b) = atCells a ++ atCells b := by simp [atCells]
theorem atCells_take (l : List At) (k : Nat) (h : k < l.length) : atCells (l.take (k + 1)) = atCells (l.take k) ++ [.string l[k].1, .string l[k].2] := by
  rw [List.take_succ_eq_append_getElem h, atCells_append]; rfl
theorem atCells_at : ∀ (l : List At) (i : Nat) (h : i < l.length), (atCells l)[i * 2]? = some (.string l[i].1) ∧ (atCells l)[i * 2 + 1]? = some (.string l[i].2)
  | a :: l, 0, _ => ⟨rfl, rfl⟩
  | a :: l, i + 1, h => by
    have ih := atCells_at l i (by simpa using h)
    have e : atCells (a :: l) = [.string a.1, .string a.2] ++ atCells l := rfl
    have a1 : (i + 1) * 2 = i * 2 + 2 := by omega
    rw [e, a1]
    refine ⟨?_, ?_⟩
    · rw [List.getElem?_append_right (by simp)]; simpa using ih.1
    · rw [List.getElem?_append_right (by simp)]; simpa using ih.2

theorem info48 : (Tryz.prog.info? 84).map (fun i => (i.zero, i.size, i.bytes)) = some (some (.agg #[.string ⟨#[]⟩, .string ⟨#[]⟩]), 2, 32) := by kernel_rfl
theorem add_at (b j : Nat) : (⟨b, 0, none⟩ : Addr).add j = ⟨b, j, none⟩ := by by_cases hj : j = 0 <;> simp [Addr.add, hj]
theorem pair_new (w : World) (u v : Value) (t : TypeId) : ∀ j y, [u, v][j]? = some y → (w.alloc (.cells #[u, v] t)).cell? ((⟨w.heap.size, 0, none⟩ : Addr).add j) = some y := by
  intro j y hj
  rw [add_at, World.cell?_alloc_new]
  simpa using hj
theorem pair_one (a b : ByteArray) : ∀ u ∈ [Value.string a, .string b], u.oneCell' = true := by
  intro u hu
  simp only [List.mem_cons, List.not_mem_nil, or_false] at hu
  rcases hu with rfl | rfl <;> rfl

/-- a row of attributes reads as they do -/
theorem row_attrs {w : World} {base n : Nat} {v : Value} {l : List At} (h : w.ownsRow base 84 2 v n (atCells l)) (hn : n = l.length) (hs : Sized l) (hm : l.length ≤ 9223372036854775807) : Attrs w v l := by
  subst hn
  obtain ⟨h1, ⟨rfl, h0⟩ | ⟨g, cap, cur, rfl, hb, hg, hn, hc, hcs, htk⟩⟩ := h
  · exact ⟨none, 0, by rw [h0], hm, ⟨hs, fun _ => rfl, by omega⟩, fun h => by omega⟩
  · refine ⟨some ⟨g, 0, none⟩, cap, rfl, hm, ⟨hs, (fun h => by cases h), hn⟩, fun _ => ⟨g, 0, rfl, (Array.getElem?_eq_some_iff.1 hg).1, fun i hi => ?_⟩⟩
    obtain ⟨e1, e2⟩ := atCells_at l i hi
    rw [← htk, List.getElem?_take] at e1 e2
    rw [if_pos (by omega)] at e1 e2
    rw [Nat.zero_add]
    simp only [World.cell?, hg]
    exact ⟨by simpa using e1, by simpa using e2⟩

/-- "spare" -/
def spareA : At := (⟨#[115, 112, 97, 114, 101]⟩, ⟨#[]⟩)
/-- a twin: a list with a spare attribute behind -/
structure Twin (w : World) (base : Nat) (v : Value) (l : List At) : Prop where
  row : ∃ T cap, v = .slice (some ⟨T, 0, none⟩) l.length cap ∧ w.ownsRow base 84 2 (.slice (some ⟨T, 0, none⟩) (l.length + 1) cap) (l.length + 1) (atCells (l ++ [spareA]))
  sized : Sized l
  len : l.length ≤ 1000

set_option maxHeartbeats 1000000 in
theorem twinAttrs_any (v : Value) (l : List At) (w : World) (h : Attrs w v l) (hl1 : l.length ≤ 1000) : Calls Tryz.prog 12 #[v] w fun e w' => ∃ t, e = .returned t ∧ Twin w' w.heap.size t l ∧ Below w.heap.size w w' := by
  obtain ⟨p, cap, rfl, hl, ⟨hs, -⟩, hc⟩ := h
  obtain ⟨i0, hi, hz0, hz1, hz2⟩ := info_parts info48
  go_enter Tryz.func12, Tryz.ntmps12
  have hb32 : 32 * (l.length + 1) ≤ 281474976710656 := by omega
  go_wp2_with (at_make; refine wpList_make_own _ rfl _ _ 22 rfl w.heap.size 84 i0 _ 2 Tryz.underlying22 hi hz0 hz1 .i64 .i64 _ (l.length + 1) rfl rfl (by simp) (by rw [hz2]; exact hb32) (by unfold maxLen; omega) (Nat.le_refl _) ?_; intro w0 hown0 hgrow0)
  have hbel0 : Below w.heap.size w w0 := (Below.refl _ _).grown hgrow0 (Nat.le_refl _) (by intro k e; cases e)
  go_loopw [3, 4] (fun t i wr => ∃ k : Nat, k ≤ l.length ∧ i = .int .i64 k ∧ t = .slice (some ⟨w.heap.size, 0, none⟩) k (l.length + 1) ∧ wr.ownsRow w.heap.size 84 2 (.slice (some ⟨w.heap.size, 0, none⟩) k (l.length + 1)) k (atCells (l.take k)) ∧ Below w.heap.size w wr) (fun _ i _ => l.length - (intOf i).toNat)
  case atStart => exact ⟨0, by omega, rfl, rfl, hown0, hbel0⟩
  case round =>
    clear hown0 hbel0 hgrow0
    obtain ⟨k, hk, rfl, rfl, hown, hbel⟩ := hrel
    by_cases hlt : k < l.length
    · obtain ⟨b, o, rfl, hb, hcc⟩ := hc (by omega)
      obtain ⟨c1, c2⟩ := hcc k hlt
      have c1 := (hbel.cell (p := ⟨b, o + k * 2, none⟩) hb).trans c1
      have c2 := (hbel.cell (p := ⟨b, o + k * 2 + 1, none⟩) hb).trans c2
      have HS := Lib.hid (atCells_take l k hlt)
      clear hc hcc
      go_wp2_with (at_builtin; refine wpList_append_fits _ rfl (.tmp 15) (.tmp 20) 22 rfl w.heap.size 84 i0 2 Tryz.underlying22 hi hz1 w.heap.size k (l.length + 1) _ rfl (hown.alloc _) ⟨wr.heap.size, 0, none⟩ 1 1 [.string l[k].1, .string l[k].2] rfl rfl (pair_new _ _ _ _) (pair_one _ _) (by omega) ?_; intro w2 r1 r2)
      refine ⟨⟨k + 1, by omega, by go_num, rfl, by rw [HS.out]; exact r1, ?_⟩, by simp [intOf]; omega⟩
      exact (hbel.alloc hbel.size _).grown r2 (hbel.alloc hbel.size _).size (by intro k e; cases e; exact Nat.le_refl _)
    · have hke : k = l.length := by omega
      subst hke
      rw [List.take_length] at hown
      have HSP : Hid (atCells (l ++ [spareA]) = atCells l ++ [.string ⟨#[115, 112, 97, 114, 101]⟩, .string ⟨#[]⟩]) := Lib.hid (by rw [atCells_append]; rfl)
      go_wp2_with (at_builtin; refine wpList_append_fits _ rfl (.tmp 22) (.tmp 24) 22 rfl w.heap.size 84 i0 2 Tryz.underlying22 hi hz1 w.heap.size l.length (l.length + 1) _ rfl (hown.alloc _) ⟨wr.heap.size, 0, none⟩ 1 1 [.string ⟨#[115, 112, 97, 114, 101]⟩, .string ⟨#[]⟩] rfl rfl (pair_new _ _ _ _) (pair_one _ _) (by omega) ?_; intro w2 r1 r2)
      go_ret
      refine ⟨_, rfl, ⟨⟨_, _, rfl, ?_⟩, hs, hl1⟩, ?_⟩
      · rw [HSP.out]; exact r1
      · exact (hbel.alloc hbel.size _).grown r2 (hbel.alloc hbel.size _).size (by intro k e; cases e; exact Nat.le_refl _)
end Go.Proofs.YtikeaiibociapaaGreatDoor
