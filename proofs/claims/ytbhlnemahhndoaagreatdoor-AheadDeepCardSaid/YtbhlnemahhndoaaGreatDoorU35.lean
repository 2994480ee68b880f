/- Merged: AliveM, AliveC, AliveW, SizeB, DeepM, SameL. -/
import Derived.Test.YtbhlnemahhndoaaGreatDoorU32
import Derived.Test.YtbhlnemahhndoaaGreatDoorU4
import Derived.Test.YtbhlnemahhndoaaGreatDoorU34
namespace Go.Proofs.YtbhlnemahhndoaaGreatDoor
open Go.RowKit Go.Maps
set_option maxRecDepth 100000

/-! ### alive -/
theorem attrs_row {w : World} {base n : Nat} {e : TypeId} {v : Value} {l : List At} (h : w.ownsRow base e 2 v n (atCells l)) (hn : n = l.length) (hs : Sized l) (hm : l.length ≤ 9223372036854775807) : Attrs w v l := by
  subst hn
  obtain ⟨h1, ⟨rfl, h0⟩ | ⟨g, cap, cur, rfl, hb, hg, hn, hc, hcs, htk⟩⟩ := h
  · exact ⟨none, 0, by rw [h0], hm, ⟨hs, fun _ => rfl, by omega⟩, fun h => by omega⟩
  · refine ⟨some ⟨g, 0, none⟩, cap, rfl, hm, ⟨hs, (fun h => by cases h), hn⟩, fun _ => ⟨g, 0, rfl, (Array.getElem?_eq_some_iff.1 hg).1, fun i hi => ?_⟩⟩
    obtain ⟨e1, e2⟩ := atCells_at l i hi
    rw [← htk, List.getElem?_take] at e1 e2
    rw [if_pos (by omega)] at e1 e2
    rw [Nat.zero_add]
    simp only [World.cell?, hg]
    exact ⟨by simpa using e1, by simpa using e2⟩
theorem laid_row (w : World) (cs : Array Value) (e : TypeId) (n z : Nat) (hz : cs.size = n * z) (hn : n ≤ maxLen) : (w.alloc (.cells cs e)).ownsRow w.heap.size e z (.slice (some ⟨w.heap.size, 0, none⟩) n n) n cs.toList := by
  refine ⟨by simpa using hz, .inr ⟨w.heap.size, n, cs, rfl, Nat.le_refl _, heap_alloc_new w _, Nat.le_refl _, hn, hz, ?_⟩⟩
  exact List.take_of_length_le (by simp; omega)
theorem laid_attrs (w : World) (cs : Array Value) (e : TypeId) (l : List At) (h : cs.toList = atCells l) (hs : Sized l) (hn : l.length ≤ 1000) : Attrs (w.alloc (.cells cs e)) (.slice (some ⟨w.heap.size, 0, none⟩) l.length l.length) l := by
  have hz : cs.size = l.length * 2 := by
    have : cs.toList.length = (atCells l).length := by rw [h]
    simpa [atCells_length] using this
  have := laid_row w cs e l.length 2 hz (by unfold maxLen; omega)
  rw [h] at this
  exact attrs_row this rfl hs (by omega)
/-- what Read answers, with the places of what is not empty -/
theorem cells_of {w w' : World} {B n z : Nat} {e : TypeId} {v : Value} {xs : List Value} (h : w.ownsRow B e z v n xs) (h0 : 0 < n) (hb : Below w.heap.size w w') : ∃ g c, v = .slice (some ⟨g, 0, none⟩) n c ∧ g < w'.heap.size ∧ ∀ (i : Nat) (u : Value), xs[i]? = some u → w'.cell? ⟨g, i, none⟩ = some u := by
  obtain ⟨g, c, cur, rfl, -, hg, -⟩ := row_here h h0
  exact ⟨g, c, rfl, Nat.lt_of_lt_of_le (heap_lt hg) hb.size, fun i u hu => keep_cell hb (row_cell h i u hu)⟩
theorem sized_small {l : List At} (h : ∀ a ∈ l, a.1.size ≤ 1000 ∧ a.2.size ≤ 1000) : Sized l := fun a ha => by have := h a ha; exact ⟨by omega, by omega⟩

theorem sized_bT {a t : List UInt8} (h1 : a.length ≤ 1000) (h2 : t.length ≤ 1000) : (bT a).size ≤ 1000 ∧ (bT t).size ≤ 1000 := ⟨by rw [bT_size]; exact h1, by rw [bT_size]; exact h2⟩
theorem srcs1_sized : Sized srcs1 := sized_small (fun a ha => by
  rcases List.mem_cons.1 ha with rfl | ha
  · exact sized_bT (by decide) (by decide)
  · rcases List.mem_cons.1 ha with rfl | ha
    · exact sized_bT (by decide) (by decide)
    · cases ha)
theorem srcs2_sized : Sized srcs2 := sized_small (fun a ha => by
  rcases List.mem_cons.1 ha with rfl | ha
  · exact sized_bT (by decide) (by decide)
  · cases ha)
theorem one_sized : Sized [(bT [120], bT [49])] := sized_small (fun a ha => by
  rcases List.mem_cons.1 ha with rfl | ha
  · exact sized_bT (by decide) (by decide)
  · cases ha)
theorem srcs1_laid (w : World) : Attrs (w.alloc (.cells #[.string ⟨#[109]⟩, .string (bT tM), .string ⟨#[110]⟩, .string ⟨#[123, 120, 125]⟩] 69)) (.slice (some ⟨w.heap.size, 0, none⟩) 2 2) srcs1 := laid_attrs w _ _ srcs1 rfl srcs1_sized (by decide)
theorem srcs2_laid (w : World) : Attrs (w.alloc (.cells #[.string ⟨#[109]⟩, .string (bT tF)] 69)) (.slice (some ⟨w.heap.size, 0, none⟩) 1 1) srcs2 := laid_attrs w _ _ srcs2 rfl srcs2_sized (by decide)
theorem one_laid (w : World) (n : Nat) (hn : w.heap.size = n) : Attrs (w.alloc (.cells #[.string ⟨#[120]⟩, .string ⟨#[49]⟩] 84)) (.slice (some ⟨n, 0, none⟩) 1 1) [(bT [120], bT [49])] := by subst hn; exact laid_attrs w _ _ [(bT [120], bT [49])] rfl one_sized (by decide)
end Go.Proofs.YtbhlnemahhndoaaGreatDoor
namespace Go.Proofs.YtbhlnemahhndoaaGreatDoor
open Go.RowKit Go.Maps
set_option maxRecDepth 100000

/-! ### what alive reads of Read's answers -/
theorem row_all {w : World} {B n z : Nat} {e : TypeId} {v : Value} {xs : List Value} (h : w.ownsRow B e z v n xs) (h0 : 0 < n) : ∃ g c, v = .slice (some ⟨g, 0, none⟩) n c ∧ g < w.heap.size ∧ ∀ w', Below w.heap.size w w' → ∀ (i : Nat) (u : Value), xs[i]? = some u → w'.cell? ⟨g, i, none⟩ = some u := by
  obtain ⟨g, c, cur, rfl, -, hg, -⟩ := row_here h h0
  exact ⟨g, c, rfl, heap_lt hg, fun w' hb i u hu => keep_cell hb (row_cell h i u hu)⟩
theorem row_texts {w : World} {B n : Nat} {v : Value} {l : List (List UInt8)} (h : w.ownsRow B 9 1 v n (l.map strV)) (hn : n = l.length) (hl : l.length ≤ 1000000) : ∃ p c, v = .slice p n c ∧ ∀ w', Below w.heap.size w w' → Texts w' v l := by
  obtain ⟨p, c, rfl⟩ := row_slice h
  refine ⟨p, c, rfl, fun w' hb => ?_⟩
  subst hn
  refine ⟨p, c, rfl, by omega, fun h0 => ?_⟩
  obtain ⟨g, c', hv, -, hc⟩ := row_all h h0
  simp only [Value.slice.injEq] at hv
  obtain ⟨rfl, -, -⟩ := hv
  exact ⟨g, rfl, fun j hj => hc w' hb j _ (by rw [List.getElem?_map, List.getElem?_eq_getElem hj]; rfl)⟩
theorem cells_a {w : World} {B : Nat} {v : Value} (h : w.ownsRow B 82 3 v 3 (lnCells [([109], 1, [97]), ([110], 1, [49]), ([109], 4, [98])])) : ∃ g c, v = .slice (some ⟨g, 0, none⟩) 3 c ∧ ∀ w', Below w.heap.size w w' → w'.cell? ⟨g, 3, none⟩ = some (.string ⟨#[110]⟩) ∧ w'.cell? ⟨g, 4, none⟩ = some (.int .i64 1) ∧ w'.cell? ⟨g, 5, none⟩ = some (.string ⟨#[49]⟩) ∧ w'.cell? ⟨g, 6, none⟩ = some (.string ⟨#[109]⟩) ∧ w'.cell? ⟨g, 7, none⟩ = some (.int .i64 4) ∧ w'.cell? ⟨g, 8, none⟩ = some (.string ⟨#[98]⟩) := by
  obtain ⟨g, c, rfl, -, hc⟩ := row_all h (by decide)
  exact ⟨g, c, rfl, fun w' hb => ⟨hc w' hb 3 _ rfl, hc w' hb 4 _ rfl, hc w' hb 5 _ rfl, hc w' hb 6 _ rfl, hc w' hb 7 _ rfl, hc w' hb 8 _ rfl⟩⟩
theorem cells_x {w : World} {B : Nat} {v : Value} (h : w.ownsRow B 82 3 v 3 (lnCells [([109], 1, [97]), ([110], 1, [123, 120, 125]), ([109], 6, [99])])) : ∃ g c, v = .slice (some ⟨g, 0, none⟩) 3 c ∧ ∀ w', Below w.heap.size w w' → w'.cell? ⟨g, 8, none⟩ = some (.string ⟨#[99]⟩) := by
  obtain ⟨g, c, rfl, -, hc⟩ := row_all h (by decide)
  exact ⟨g, c, rfl, fun w' hb => hc w' hb 8 _ rfl⟩
theorem cells_y {w : World} {B : Nat} {v : Value} (h : w.ownsRow B 77 4 v 4 (dgCells [([109], 1, 2, [109]), ([109], 2, 3, [64, 102, 111, 111]), ([109], 3, 4, wEnd), ([109], 4, 4, [])])) : ∃ g c, v = .slice (some ⟨g, 0, none⟩) 4 c ∧ ∀ w', Below w.heap.size w w' → w'.cell? ⟨g, 0, none⟩ = some (.string ⟨#[109]⟩) ∧ w'.cell? ⟨g, 1, none⟩ = some (.int .i64 1) ∧ w'.cell? ⟨g, 2, none⟩ = some (.int .i64 2) ∧ w'.cell? ⟨g, 3, none⟩ = some (.string ⟨#[109]⟩) ∧ w'.cell? ⟨g, 6, none⟩ = some (.int .i64 3) ∧ w'.cell? ⟨g, 11, none⟩ = some (.string ⟨#[64, 101, 110, 100]⟩) ∧ w'.cell? ⟨g, 12, none⟩ = some (.string ⟨#[109]⟩) ∧ w'.cell? ⟨g, 13, none⟩ = some (.int .i64 4) ∧ w'.cell? ⟨g, 14, none⟩ = some (.int .i64 4) ∧ w'.cell? ⟨g, 15, none⟩ = some (.string ⟨#[]⟩) := by
  obtain ⟨g, c, rfl, -, hc⟩ := row_all h (by decide)
  exact ⟨g, c, rfl, fun w' hb => ⟨hc w' hb 0 _ rfl, hc w' hb 1 _ rfl, hc w' hb 2 _ rfl, hc w' hb 3 _ rfl, hc w' hb 6 _ rfl, hc w' hb 11 _ rfl, hc w' hb 12 _ rfl, hc w' hb 13 _ rfl, hc w' hb 14 _ rfl, hc w' hb 15 _ rfl⟩⟩
theorem cells_z {w : World} {B : Nat} {v : Value} (h : w.ownsRow B 77 4 v 1 (dgCells [([107], 0, 1, [107])])) : ∃ g c, v = .slice (some ⟨g, 0, none⟩) 1 c ∧ ∀ w', Below w.heap.size w w' → w'.cell? ⟨g, 0, none⟩ = some (.string ⟨#[107]⟩) ∧ w'.cell? ⟨g, 1, none⟩ = some (.int .i64 0) ∧ w'.cell? ⟨g, 2, none⟩ = some (.int .i64 1) ∧ w'.cell? ⟨g, 3, none⟩ = some (.string ⟨#[107]⟩) := by
  obtain ⟨g, c, rfl, -, hc⟩ := row_all h (by decide)
  exact ⟨g, c, rfl, fun w' hb => ⟨hc w' hb 0 _ rfl, hc w' hb 1 _ rfl, hc w' hb 2 _ rfl, hc w' hb 3 _ rfl⟩⟩
theorem lit_two (w : World) (a b : ByteArray) : Texts (w.alloc (.cells #[.string a, .string b] 9)) (.slice (some ⟨w.heap.size, 0, none⟩) 2 2) [a.data.toList, b.data.toList] := by
  refine ⟨_, _, rfl, by simp, fun _ => ⟨_, rfl, fun j hj => ?_⟩⟩
  rw [World.cell?_alloc_new]
  match j, hj with
  | 0, _ => show some (Value.string a) = some (Value.string (bT a.data.toList)); rw [bT_data]
  | 1, _ => show some (Value.string b) = some (Value.string (bT b.data.toList)); rw [bT_data]
theorem lit_one (w : World) (a : ByteArray) : Texts (w.alloc (.cells #[.string a] 9)) (.slice (some ⟨w.heap.size, 0, none⟩) 1 1) [a.data.toList] := by
  refine ⟨_, _, rfl, by simp, fun _ => ⟨_, rfl, fun j hj => ?_⟩⟩
  rw [World.cell?_alloc_new]
  match j, hj with
  | 0, _ => show some (Value.string a) = some (Value.string (bT a.data.toList)); rw [bT_data]
end Go.Proofs.YtbhlnemahhndoaaGreatDoor
namespace Go.Proofs.YtbhlnemahhndoaaGreatDoor
open Go.RowKit Go.Maps
set_option maxRecDepth 100000

set_option maxHeartbeats 8000000 in
theorem alive_m (w : World) : Calls Tryz.prog 29 #[] w fun e w' => e = .returned (.bool true) ∧ Below w.heap.size w w' := by
  have hM : (⟨#[97, 10, 64, 105, 110, 99, 108, 117, 100, 101, 32, 110, 10, 64, 105, 102, 32, 120, 10, 98, 10, 64, 101, 108, 115, 101, 10, 99, 10, 64, 101, 110, 100, 10]⟩ : ByteArray) = bT tM := by decide
  have hF : (⟨#[64, 105, 110, 99, 108, 117, 100, 101, 32, 109, 10, 64, 102, 111, 111, 10, 64, 101, 110, 100, 10, 64, 105, 102, 32, 120]⟩ : ByteArray) = bT tF := by decide
  have hMs := fun w => src_m ⟨#[109]⟩ (bT tM) w
  have hNs := fun w => src_m ⟨#[110]⟩ ⟨#[123, 120, 125]⟩ w
  have hFs := fun w => src_m ⟨#[109]⟩ (bT tF) w
  have h1 := fun sv av w hS hA => (alive_r1 sv av w hS hA : Calls Tryz.prog 32 #[sv, av, .string ⟨#[109]⟩] w _)
  have h2 := fun sv av w hS hA => (alive_r2 sv av w hS hA : Calls Tryz.prog 32 #[sv, av, .string ⟨#[109]⟩] w _)
  have h3 := fun sv av w hS hA => (alive_r3 sv av w hS hA : Calls Tryz.prog 32 #[sv, av, .string ⟨#[109]⟩] w _)
  have h4 := fun sv av w hS => (alive_r4 sv av w hS : Calls Tryz.prog 32 #[sv, av, .string ⟨#[107]⟩] w _)
  go_enter Tryz.func29, Tryz.ntmps29
  go_wp2_with (first
    | (go_at_call 33; refine (hMs _).mono ?_; rintro e w1 ⟨rfl, hb1⟩)
    | (go_at_call 33; refine (hNs _).mono ?_; rintro e w2 ⟨rfl, hb2⟩; have hS2 := (srcs1_laid w2).below (laidNew _ (.cells #[.string ⟨#[120]⟩, .string ⟨#[49]⟩] 84)); have hA := one_laid (w2.alloc (.cells #[.string ⟨#[109]⟩, .string (bT tM), .string ⟨#[110]⟩, .string ⟨#[123, 120, 125]⟩] 69)) (w2.heap.size + 1) (by simp))
    | (go_at_call 33; refine (hFs _).mono ?_; rintro e w5 ⟨rfl, hb5⟩; have hS5 := srcs2_laid w5)
    | (go_at_call 32; refine (h1 _ _ _ hS2 hA).mono ?_; rintro e w3 ⟨⟨a1, a2, a3, a4, rfl, ra1, ra2, ra3, ra4⟩, hb3⟩; have hS3 := hS2.below hb3; obtain ⟨ga1, ca1, rfl, fa1⟩ := cells_a ra1; obtain ⟨pa2, ca2, rfl⟩ := row_slice ra2; obtain ⟨pa3, ca3, rfl, fa3⟩ := row_texts (n := 2) (l := [[109], [110]]) ra3 rfl (by decide); obtain ⟨pa4, ca4, rfl, fa4⟩ := row_texts (n := 1) (l := [[120]]) ra4 rfl (by decide); have FA1 := Lib.hid fa1; have FA3 := Lib.hid fa3; have FA4 := Lib.hid fa4; clear ra1 ra2 ra3 ra4 hS2 hA fa1 fa3 fa4)
    | (go_at_call 32; refine (h2 _ _ _ hS3 (nil_attrs _)).mono ?_; rintro e w4 ⟨⟨x1, x2, x3, x4, rfl, rx1, -, -, -⟩, hb4⟩; obtain ⟨gx1, cx1, rfl, fx1⟩ := cells_x rx1; have FX1 := Lib.hid fx1; clear rx1 hS3 fx1)
    | (go_at_call 32; refine (h3 _ _ _ hS5 (nil_attrs _)).mono ?_; rintro e w6 ⟨⟨y1, y2, y3, y4, rfl, -, ry2, -, -⟩, hb6⟩; obtain ⟨gy2, cy2, rfl, fy2⟩ := cells_y ry2; have FY2 := Lib.hid fy2; clear ry2 hS5 fy2)
    | (go_at_call 32; refine (h4 _ _ _ (nil_attrs _)).mono ?_; rintro e w7 ⟨⟨z1, z2, z3, z4, rfl, -, rz2, rz3, -⟩, hb7⟩; obtain ⟨gz2, cz2, rfl, fz2⟩ := cells_z rz2; obtain ⟨pz3, cz3, rfl⟩ := row_slice rz3; have FZ2 := Lib.hid fz2; clear rz2 rz3 fz2; have b47 : Below w4.heap.size w4 w7 := behind (behind (behind hb5 (laidNew w5 _)) hb6) hb7; have b37 : Below w3.heap.size w3 w7 := behind hb4 b47; have b17 : Below w.heap.size w w7 := behind (behind (behind (behind (behind hb1 hb2) (laidNew w2 _)) (laidNew _ _)) hb3) b37; obtain ⟨a3c, a4c, a5c, a6c, a7c, a8c⟩ := FA1.out w7 b37; have x8c := FX1.out w7 b47; have T1 := FA3.out _ (behind b37 (laidNew w7 (.cells #[.string ⟨#[109]⟩, .string ⟨#[110]⟩] 9))); have T2 := lit_two w7 ⟨#[109]⟩ ⟨#[110]⟩; have HS1 := sameTexts_any _ _ _ _ _ T1 T2; have HB17 := Lib.hid b17; have HB67 := Lib.hid hb7; have HS2 := fun w8 (h : Below w7.heap.size w7 w8) => sameTexts_any _ _ _ _ _ (FA4.out _ (behind (behind b37 h) (laidNew w8 (.cells #[.string ⟨#[120]⟩] 9)))) (lit_one w8 ⟨#[120]⟩); clear b47 b37 b17 hb1 hb2 hb3 hb4 hb5 hb6 T1 T2 hMs hNs hFs h1 h2 h3 h4 hM hF)
    | (go_at_call 15; (with_reducible refine HS1.mono ?_); rintro e w8 ⟨rfl, q8, hw8⟩; have hb8 : Below w7.heap.size w7 w8 := (by rw [hw8]; exact below_drewN (laidNew w7 _) q8); clear hw8)
    | (go_at_call 15; (with_reducible refine (HS2 _ hb8).mono ?_); rintro e w9 ⟨rfl, q9, hw9⟩; have hb9 : Below w7.heap.size w7 w9 := (by rw [hw9]; exact behind hb8 (below_drewN (laidNew w8 _) q9)); clear hw9; obtain ⟨y0, y1c, y2c, y3c, y6c, y11c, y12c, y13c, y14c, y15c⟩ := FY2.out w9 (behind HB67.out hb9); obtain ⟨z0c, z1c, z2c, z3c⟩ := FZ2.out w9 hb9))
  go_ret
  exact ⟨rfl, behind HB17.out hb9⟩
end Go.Proofs.YtbhlnemahhndoaaGreatDoor
namespace Go.Proofs.YtbhlnemahhndoaaGreatDoor
open Go.RowKit Go.Maps
set_option maxRecDepth 100000

set_option maxHeartbeats 400000 in
/-- the size of attributes, however many there are -/
theorem attrsSize_all (v : Value) (l : List At) (w : World) (h : Attrs w v l) : Calls Tryz.prog 30 #[v] w fun e w' => ∃ N : Nat, e = .returned (.int .i64 (N : Int)) ∧ (N ≤ 1048576 → N = l.length + sumL l) ∧ ∃ q, w' = w.drewN q := by
  obtain ⟨p, cap, rfl, hl, ⟨hs, -⟩, hc⟩ := h
  go_enter Tryz.func30, Tryz.ntmps30
  go_wp2
  go_loopw [3, 4] (fun n i wr => ∃ k N q : Nat, k ≤ l.length ∧ i = .int .i64 k ∧ n = .int .i64 (N : Int) ∧ N = l.length + sumL (l.take k) ∧ wr = w.drewN q) (fun _ i _ => l.length - (intOf i).toNat)
  case atStart => exact ⟨0, l.length, 0, by omega, rfl, rfl, by simp [sumL], rfl⟩
  case round =>
    obtain ⟨k, N, q, hk, rfl, rfl, hN, rfl⟩ := hrel
    have HN := Lib.hid hN
    clear hN
    by_cases hlt : k < l.length
    · by_cases hmo : N ≤ 1048576
      · obtain ⟨b, o, rfl, hb, hcc⟩ := hc (by omega)
        obtain ⟨c1, c2⟩ := hcc k hlt
        obtain ⟨s1, s2⟩ := hs l[k] (List.getElem_mem hlt)
        have HS := Lib.hid (sumL_take l k hlt)
        clear hc hcc
        go_wp2
        go_quiet (fail)
        go_wp2
        refine ⟨⟨k + 1, N + l[k].1.size + l[k].2.size, _, by omega, by go_num, by go_num, ?_, rfl⟩, by simp [intOf]; omega⟩
        rw [HS.out, HN.out]; omega
      · go_wp2
        go_ret
        exact ⟨N, rfl, fun h => by omega, q, rfl⟩
    · have HE := Lib.hid (show l.take k = l from List.take_of_length_le (by omega))
      go_wp2
      go_ret
      exact ⟨N, rfl, fun _ => by rw [HN.out, HE.out], q, rfl⟩

/-- one source, laid -/
theorem src_laid (w : World) (n s : ByteArray) (hn : n.size ≤ 140737488351232) (hs : s.size ≤ 140737488351232) : Attrs (w.alloc (.cells #[.string n, .string s] 69)) (.slice (some ⟨w.heap.size, 0, none⟩) 1 1) [(n, s)] :=
  laid_attrs w _ _ [(n, s)] rfl (fun a ha => by rcases List.mem_cons.1 ha with rfl | ha; exact ⟨hn, hs⟩; cases ha) (by simp)
/-- Read of one plain source -/
theorem read_plain_m (sv av : Value) (attrs : List At) (n s : ByteArray) (w : World) (hS : Attrs w sv [(n, s)]) (hA : Attrs w av attrs) (hp : PlainL s.data.toList) (hs : s.size ≤ 10000) (hval : ∀ a ∈ attrs, a.2.size ≤ 100000) :
    Calls Tryz.prog 32 #[sv, av, .string n] w (ReadOut w (numL n.data.toList 1 (linesL s.data.toList), [], [n.data.toList], [])) := by
  have hlen : (linesL s.data.toList).length ≤ 10001 := by
    have := lines_len [] s.data.toList
    have e : s.data.toList.length = s.size := by simp
    unfold linesL; omega
  have hr := read_plain [(n, s)] 16 [] n.data.toList s.data.toList (startR attrs) hp rfl (by show 0 + _ ≤ 16384; omega)
  have hg : getL [(n, s)] n = some s := by
    have := find_one n.data.toList s.data.toList
    rw [bT_data, bT_data] at this
    have h2 := get_find this
    rw [bT_data, bT_data] at h2
    exact h2
  have h := read_some sv av [(n, s)] attrs n s w hS hA hg (fun a ha => by
    rcases List.mem_cons.1 ha with rfl | ha
    · exact textOk_plain (fun c hc e => (hp c hc).1 e) (by show s.size ≤ _; omega)
    · cases ha) hval (by rw [hr]; rfl) (by rw [hr]; exact Nat.zero_le _)
  have e := readL_plain attrs n.data.toList s.data.toList hp (by omega)
  rw [bT_data, bT_data] at e
  rw [e] at h
  exact h
end Go.Proofs.YtbhlnemahhndoaaGreatDoor
namespace Go.Proofs.YtbhlnemahhndoaaGreatDoor
open Go.RowKit Go.Maps
set_option maxRecDepth 100000

/-! ### AheadDeep: its Reads -/
theorem dp_sized {i : Nat} {more : List At} (hm : ∀ a ∈ more, a.1.size ≤ 1000 ∧ a.2.size ≤ 1000) : ∀ a ∈ dpF 0 i ++ more, a.1.size ≤ 1000 ∧ a.2.size ≤ 1000 := fun a ha => by
  rcases List.mem_append.1 ha with ha | ha
  · unfold dpF at ha
    obtain ⟨j, hj, rfl⟩ := List.mem_map.1 ha
    rw [bT_size, bT_size]
    have e1 : (nm j).length = 2 := rfl
    have e2 : (txI j).length = 13 := rfl
    omega
  · exact hm a ha
theorem deep_m (sv : Value) (i : Nat) (more : List At) (w : World) (h1 : 16 ≤ i) (h2 : i ≤ 20) (hm : ∀ a ∈ more, a.1.size ≤ 1000 ∧ a.2.size ≤ 1000) (hS : Attrs w sv (dpF 0 i ++ more)) :
    Calls Tryz.prog 32 #[sv, .slice none 0 0, .string ⟨#[115, 97]⟩] w (ReadOut w (lnsF 0 16, [(nm 15, 2, 5, nm 16)], nmsF 0 16, [])) := by
  have hf : ∀ j, j ≤ 15 → findL (dpF 0 i ++ more) (nm j) = some (txI j) := fun j hj => (find_dp more i 0 j (by omega) (by omega)).1 (by omega) (by omega)
  obtain ⟨l, o, cnt, hr⟩ := readR_deep hf
  exact read_is sv (.slice none 0 0) (dpF 0 i ++ more) [] (nm 0) (txI 0) _ w hS (nil_attrs w) (hf 0 (by omega)) (fun a ha => textOk_any (by have := dp_sized hm a ha; omega)) (by simp) hr rfl (Nat.zero_le _)
theorem lack_m (sv : Value) (L : Nat) (w : World) (hL : L ≤ 14) (hS : Attrs w sv (dpF 0 (L + 1))) :
    Calls Tryz.prog 32 #[sv, .slice none 0 0, .string ⟨#[115, 97]⟩] w (ReadOut w (lnsF 0 (L + 1), [(nm L, 2, 1, nm (L + 1))], nmsF 0 (L + 1), [])) := by
  have e : dpF 0 (L + 1) = dpF 0 (L + 1) ++ [] := (List.append_nil _).symm
  have hf : ∀ j, j ≤ L → findL (dpF 0 (L + 1)) (nm j) = some (txI j) := fun j hj => by rw [e]; exact (find_dp [] (L + 1) 0 j (by omega) (by omega)).1 (by omega) (by omega)
  have hg : findL (dpF 0 (L + 1)) (nm (L + 1)) = none := by rw [e, (find_dp [] (L + 1) 0 (L + 1) (by omega) (by omega)).2 (by omega)]; rfl
  obtain ⟨l, o, cnt, hr⟩ := readR_none hL hf hg
  exact read_is sv (.slice none 0 0) (dpF 0 (L + 1)) [] (nm 0) (txI 0) _ w hS (nil_attrs w) (hf 0 (by omega)) (fun a ha => textOk_any (by rw [e] at ha; have := dp_sized (by simp) a ha; omega)) (by simp) hr rfl (Nat.zero_le _)
theorem more_m (sv : Value) (L : Nat) (s : ByteArray) (rest : List At) (w : World) (hL : L ≤ 14) (hs : s.size ≤ 500) (hp : PlainL s.data.toList) (hm : ∀ a ∈ rest, a.1.size ≤ 1000 ∧ a.2.size ≤ 1000) (hS : Attrs w sv (dpF 0 (L + 1) ++ (bT (nm (L + 1)), s) :: rest)) :
    Calls Tryz.prog 32 #[sv, .slice none 0 0, .string ⟨#[115, 97]⟩] w (ReadOut w (lnsF 0 (L + 1) ++ numL (nm (L + 1)) 1 (linesL s.data.toList), [], nmsF 0 (L + 2), [])) := by
  have hf : ∀ j, j ≤ L → findL (dpF 0 (L + 1) ++ (bT (nm (L + 1)), s) :: rest) (nm j) = some (txI j) := fun j hj => (find_dp _ (L + 1) 0 j (by omega) (by omega)).1 (by omega) (by omega)
  have hg : findL (dpF 0 (L + 1) ++ (bT (nm (L + 1)), s) :: rest) (nm (L + 1)) = some s.data.toList := by
    rw [(find_dp _ (L + 1) 0 (L + 1) (by omega) (by omega)).2 (by omega)]
    have := find_here (nm (L + 1)) s.data.toList rest
    rwa [bT_data] at this
  obtain ⟨l, o, cnt, hr⟩ := readR_more hL hf (by simpa using hs) hp hg
  exact read_is sv (.slice none 0 0) _ [] (nm 0) (txI 0) _ w hS (nil_attrs w) (hf 0 (by omega)) (fun a ha => textOk_any (by
    have := dp_sized (more := (bT (nm (L + 1)), s) :: rest) (fun a ha => by
      rcases List.mem_cons.1 ha with rfl | ha
      · rw [bT_size]
        have e1 : (nm (L + 1)).length = 2 := rfl
        simp only; omega
      · exact hm a ha) a ha
    omega)) (by simp) hr rfl (Nat.zero_le _)
theorem lns_len (m : Nat) : (lnsF 0 m).length = m := by simp [lnsF]
/-- two rows of the same texts -/
theorem same_rows {w4 w5 w : World} {B1 B2 n : Nat} {p1 p2 : Option Addr} {c1 c2 : Nat} {l : List (List UInt8)} (h1 : w4.ownsRow B1 9 1 (.slice p1 n c1) n (l.map strV)) (h2 : w5.ownsRow B2 9 1 (.slice p2 n c2) n (l.map strV))
    (hb1 : Below w4.heap.size w4 w) (hb2 : Below w5.heap.size w5 w) (hl : l.length = n) (hn : n ≤ 1000000 := by decide) :
    Calls Tryz.prog 15 #[.slice p1 n c1, .slice p2 n c2] w fun e w' => e = .returned (.bool true) ∧ Below w.heap.size w w' := by
  obtain ⟨q1, d1, -, f1⟩ := row_texts h1 hl.symm (by omega)
  obtain ⟨q2, d2, -, f2⟩ := row_texts h2 hl.symm (by omega)
  refine (sameTexts_any _ _ l l w (f1 w hb1) (f2 w hb2)).mono ?_
  rintro e w' ⟨rfl, q, hq⟩
  exact ⟨by rw [decide_eq_true rfl], by rw [hq]; exact below_drewN (Below.refl _ _) q⟩
end Go.Proofs.YtbhlnemahhndoaaGreatDoor
namespace Go.Proofs.YtbhlnemahhndoaaGreatDoor
open Go.RowKit Go.Maps
set_option maxRecDepth 100000

/-! ### two rows of the same lines, two rows of the same faults -/
set_option maxHeartbeats 1000000 in
theorem sameLines_eq (B1 B2 : Nat) (va vb : Value) (l : List Ln) (w : World) (h1 : w.ownsRow B1 82 3 va l.length (lnCells l)) (h2 : w.ownsRow B2 82 3 vb l.length (lnCells l)) (hl : l.length ≤ 1000000) :
    Calls Tryz.prog 35 #[va, vb] w fun e w' => e = .returned (.bool true) ∧ Below w.heap.size w w' := by
  obtain ⟨p1, c1, rfl⟩ := row_slice h1
  obtain ⟨p2, c2, rfl⟩ := row_slice h2
  have hc : ∀ k (hk : k < l.length), ∃ g1 g2, p1 = some ⟨g1, 0, none⟩ ∧ p2 = some ⟨g2, 0, none⟩ ∧ g1 < w.heap.size ∧ g2 < w.heap.size ∧ ∃ (x : ByteArray) (m : Nat) (y : ByteArray),
      w.cell? ⟨g1, k * 3, none⟩ = some (.string x) ∧ w.cell? ⟨g1, k * 3 + 1, none⟩ = some (.int .i64 (m : Int)) ∧ w.cell? ⟨g1, k * 3 + 2, none⟩ = some (.string y) ∧
      w.cell? ⟨g2, k * 3, none⟩ = some (.string x) ∧ w.cell? ⟨g2, k * 3 + 1, none⟩ = some (.int .i64 (m : Int)) ∧ w.cell? ⟨g2, k * 3 + 2, none⟩ = some (.string y) := fun k hk => by
    obtain ⟨g1, d1, hv1, hg1, hx1⟩ := row_all h1 (by omega)
    obtain ⟨g2, d2, hv2, hg2, hx2⟩ := row_all h2 (by omega)
    simp only [Value.slice.injEq] at hv1 hv2
    have hx := List.getElem?_eq_getElem hk
    exact ⟨g1, g2, hv1.1, hv2.1, hg1, hg2, bT l[k].1, l[k].2.1, bT l[k].2.2,
      hx1 w (Below.refl _ _) (k * 3 + 0) _ (ln_at _ _ _ hx 0 (by omega)), hx1 w (Below.refl _ _) (k * 3 + 1) _ (ln_at _ _ _ hx 1 (by omega)), hx1 w (Below.refl _ _) (k * 3 + 2) _ (ln_at _ _ _ hx 2 (by omega)),
      hx2 w (Below.refl _ _) (k * 3 + 0) _ (ln_at _ _ _ hx 0 (by omega)), hx2 w (Below.refl _ _) (k * 3 + 1) _ (ln_at _ _ _ hx 1 (by omega)), hx2 w (Below.refl _ _) (k * 3 + 2) _ (ln_at _ _ _ hx 2 (by omega))⟩
  clear h1 h2
  obtain ⟨Q, hQ⟩ : ∃ Q, l.length = Q := ⟨_, rfl⟩
  rw [hQ] at hc hl ⊢
  clear hQ
  have HC := Lib.hid hc
  clear hc
  go_enter Tryz.func35, Tryz.ntmps35
  go_wp2
  go_loopw [5] (fun i wr => ∃ k : Nat, k ≤ Q ∧ i = .int .i64 k ∧ Below w.heap.size w wr) (fun i _ => Q - (intOf i).toNat)
  case atStart => exact ⟨0, by omega, rfl, Below.refl _ _⟩
  case round =>
    obtain ⟨k, hk, rfl, hbel⟩ := hrel
    by_cases hlk : k < Q
    · obtain ⟨g1, g2, rfl, rfl, hg1, hg2, x, m, y, e1, e2, e3, e4, e5, e6⟩ := HC.out k hlk
      have e1 := keep_cell hbel e1
      have e2 := keep_cell hbel e2
      have e3 := keep_cell hbel e3
      have e4 := keep_cell hbel e4
      have e5 := keep_cell hbel e5
      have e6 := keep_cell hbel e6
      have hxx : (x.toList == x.toList) = true := by simp
      have hyy : (y.toList == y.toList) = true := by simp
      go_wp2
      go_quiet (fail)
      go_wp2
      exact ⟨⟨k + 1, by omega, by go_num, below_drewN hbel _⟩, by simp [intOf]; omega⟩
    · go_wp2
      go_ret
      exact ⟨rfl, hbel⟩
theorem dg_at : ∀ (l : List Dg) (k : Nat) (x : Dg), l[k]? = some x → ∀ j, j < 4 → (dgCells l)[k * 4 + j]? = ([.string (bT x.1), .int .i64 (x.2.1 : Int), .int .i64 (x.2.2.1 : Int), .string (bT x.2.2.2)] : List Value)[j]?
  | [], k, x, h, j, hj => by simp at h
  | a :: l, k, x, h, j, hj => by
    have e : dgCells (a :: l) = [.string (bT a.1), .int .i64 (a.2.1 : Int), .int .i64 (a.2.2.1 : Int), .string (bT a.2.2.2)] ++ dgCells l := rfl
    rw [e]
    cases k with
    | zero =>
      simp only [List.getElem?_cons_zero, Option.some.injEq] at h
      subst h
      rw [List.getElem?_append_left (by simp; omega)]
      simp
    | succ k =>
      rw [List.getElem?_append_right (by simp; omega)]
      have h2 : l[k]? = some x := by simpa using h
      have := dg_at l k x h2 j hj
      rw [← this]
      congr 1
      simp; omega

set_option maxHeartbeats 1000000 in
theorem sameDiags_eq (B1 B2 : Nat) (va vb : Value) (l : List Dg) (w : World) (h1 : w.ownsRow B1 77 4 va l.length (dgCells l)) (h2 : w.ownsRow B2 77 4 vb l.length (dgCells l)) (hl : l.length ≤ 1000000) :
    Calls Tryz.prog 36 #[va, vb] w fun e w' => e = .returned (.bool true) ∧ Below w.heap.size w w' := by
  obtain ⟨p1, c1, rfl⟩ := row_slice h1
  obtain ⟨p2, c2, rfl⟩ := row_slice h2
  have hc : ∀ k (hk : k < l.length), ∃ g1 g2, p1 = some ⟨g1, 0, none⟩ ∧ p2 = some ⟨g2, 0, none⟩ ∧ g1 < w.heap.size ∧ g2 < w.heap.size ∧ ∃ (x : ByteArray) (m f : Nat) (y : ByteArray),
      w.cell? ⟨g1, k * 4, none⟩ = some (.string x) ∧ w.cell? ⟨g1, k * 4 + 1, none⟩ = some (.int .i64 (m : Int)) ∧ w.cell? ⟨g1, k * 4 + 2, none⟩ = some (.int .i64 (f : Int)) ∧ w.cell? ⟨g1, k * 4 + 3, none⟩ = some (.string y) ∧
      w.cell? ⟨g2, k * 4, none⟩ = some (.string x) ∧ w.cell? ⟨g2, k * 4 + 1, none⟩ = some (.int .i64 (m : Int)) ∧ w.cell? ⟨g2, k * 4 + 2, none⟩ = some (.int .i64 (f : Int)) ∧ w.cell? ⟨g2, k * 4 + 3, none⟩ = some (.string y) := fun k hk => by
    obtain ⟨g1, d1, hv1, hg1, hx1⟩ := row_all h1 (by omega)
    obtain ⟨g2, d2, hv2, hg2, hx2⟩ := row_all h2 (by omega)
    simp only [Value.slice.injEq] at hv1 hv2
    have hx := List.getElem?_eq_getElem hk
    exact ⟨g1, g2, hv1.1, hv2.1, hg1, hg2, bT l[k].1, l[k].2.1, l[k].2.2.1, bT l[k].2.2.2,
      hx1 w (Below.refl _ _) (k * 4 + 0) _ (dg_at _ _ _ hx 0 (by omega)), hx1 w (Below.refl _ _) (k * 4 + 1) _ (dg_at _ _ _ hx 1 (by omega)), hx1 w (Below.refl _ _) (k * 4 + 2) _ (dg_at _ _ _ hx 2 (by omega)), hx1 w (Below.refl _ _) (k * 4 + 3) _ (dg_at _ _ _ hx 3 (by omega)),
      hx2 w (Below.refl _ _) (k * 4 + 0) _ (dg_at _ _ _ hx 0 (by omega)), hx2 w (Below.refl _ _) (k * 4 + 1) _ (dg_at _ _ _ hx 1 (by omega)), hx2 w (Below.refl _ _) (k * 4 + 2) _ (dg_at _ _ _ hx 2 (by omega)), hx2 w (Below.refl _ _) (k * 4 + 3) _ (dg_at _ _ _ hx 3 (by omega))⟩
  clear h1 h2
  obtain ⟨Q, hQ⟩ : ∃ Q, l.length = Q := ⟨_, rfl⟩
  rw [hQ] at hc hl ⊢
  clear hQ
  have HC := Lib.hid hc
  clear hc
  go_enter Tryz.func36, Tryz.ntmps36
  go_wp2
  go_loopw [5] (fun i wr => ∃ k : Nat, k ≤ Q ∧ i = .int .i64 k ∧ Below w.heap.size w wr) (fun i _ => Q - (intOf i).toNat)
  case atStart => exact ⟨0, by omega, rfl, Below.refl _ _⟩
  case round =>
    obtain ⟨k, hk, rfl, hbel⟩ := hrel
    by_cases hlk : k < Q
    · obtain ⟨g1, g2, rfl, rfl, hg1, hg2, x, m, f, y, e1, e2, e3, e4, e5, e6, e7, e8⟩ := HC.out k hlk
      have e1 := keep_cell hbel e1
      have e2 := keep_cell hbel e2
      have e3 := keep_cell hbel e3
      have e4 := keep_cell hbel e4
      have e5 := keep_cell hbel e5
      have e6 := keep_cell hbel e6
      have e7 := keep_cell hbel e7
      have e8 := keep_cell hbel e8
      have hxx : (x.toList == x.toList) = true := by simp
      have hyy : (y.toList == y.toList) = true := by simp
      go_wp2
      go_quiet (fail)
      go_wp2
      exact ⟨⟨k + 1, by omega, by go_num, below_drewN hbel _⟩, by simp [intOf]; omega⟩
    · go_wp2
      go_ret
      exact ⟨rfl, hbel⟩
end Go.Proofs.YtbhlnemahhndoaaGreatDoor
