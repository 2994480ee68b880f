/-
  EscapeTags: any element is exactly the documented text; for any element whose four texts have at most 1048576 bytes together; true is answered beyond. No conditions: every element.
-/
import Derived.Test.YtbhipobedijfbaaEscRG
import Derived.Test.YtbhipobedijfbaaEscE
import Derived.Test.YtbhipobedijfbaaBeyond
namespace Go.Proofs.Ytbhipobedijfbaa.tagsLaw
open Go.ChangeShapes Go.WideShapes Go.ChangeAt Go.RowKit
set_option maxRecDepth 100000

theorem beyond4 (b : Nat) (x y z u : Int) (w : World) (h0 : w.cell? ⟨b, 0, none⟩ = some (.int .i64 x)) (h1 : w.cell? ⟨b, 1, none⟩ = some (.int .i64 y)) (h2 : w.cell? ⟨b, 2, none⟩ = some (.int .i64 z)) (h3 : w.cell? ⟨b, 3, none⟩ = some (.int .i64 u))
    (hx : 0 ≤ x ∧ x ≤ 140737488351232) (hy : 0 ≤ y ∧ y ≤ 140737488351232) (hz : 0 ≤ z ∧ z ≤ 140737488351232) (hu : 0 ≤ u ∧ u ≤ 140737488351232) :
    Calls Try.prog 9 #[.slice (some ⟨b, 0, none⟩) 4 4] w fun e w' => e = .returned (.bool (decide (1048576 < x + y + z + u))) ∧ w = w' := by
  have := beyond_any b [x, y, z, u] w (by simp) (by intro i hi; have : i = 0 ∨ i = 1 ∨ i = 2 ∨ i = 3 := by simp at hi; omega
                                                    rcases this with rfl | rfl | rfl | rfl <;> simpa) (by simpa using ⟨hx, hy, hz, hu⟩)
  have e : x + (y + (z + u)) = x + y + z + u := by omega
  simpa [e] using this

set_option maxHeartbeats 8000000 in
theorem walk (w : World) (n c i t : ByteArray) (hn : n.size ≤ 140737488351232) (hc : c.size ≤ 140737488351232) (hi : i.size ≤ 140737488351232) (ht : t.size ≤ 140737488351232) :
    Calls Try.prog 4 #[.agg #[.string n, .string c, .string i, .string t]] w fun e w' => e = .returned (.bool true) ∧ Below w.heap.size w w' := by
  obtain ⟨W1, hW1⟩ : ∃ W1, w.alloc (.cells #[.string n, .string c, .string i, .string t] 29) = W1 := ⟨_, rfl⟩
  have hz1 : W1.heap.size = w.heap.size + 1 := by rw [← hW1]; simp
  have p0 : W1.cell? ⟨w.heap.size, 0, none⟩ = some (.string n) := by rw [← hW1, World.cell?_alloc_new]; rfl
  have p1 : W1.cell? ⟨w.heap.size, 1, none⟩ = some (.string c) := by rw [← hW1, World.cell?_alloc_new]; rfl
  have p2 : W1.cell? ⟨w.heap.size, 2, none⟩ = some (.string i) := by rw [← hW1, World.cell?_alloc_new]; rfl
  have p3 : W1.cell? ⟨w.heap.size, 3, none⟩ = some (.string t) := by rw [← hW1, World.cell?_alloc_new]; rfl
  have hb1 : Below w.heap.size w W1 := by rw [← hW1]; exact laidNew _ _
  have HB1 := Lib.hid hb1
  clear hb1
  go_enter Try.func4, Try.ntmps4
  go_wp2_with fail
  obtain ⟨W2, hW2⟩ : ∃ W2, W1.alloc (.cells #[.int .i64 (n.size : Int), .int .i64 (c.size : Int), .int .i64 (i.size : Int), .int .i64 (t.size : Int)] 3) = W2 := ⟨_, rfl⟩
  have hcell : ∀ j v, (#[Value.int .i64 (n.size : Int), .int .i64 (c.size : Int), .int .i64 (i.size : Int), .int .i64 (t.size : Int)] : Array Value)[j]? = some v → W2.cell? ⟨w.heap.size + 1, j, none⟩ = some v := fun j v hv => by
    rw [← hW2, ← hz1, World.cell?_alloc_new]; exact hv
  have hbel : Below W1.heap.size W1 W2 := by rw [← hW2]; exact laidNew _ _
  have q0 := (hbel.cell (p := ⟨w.heap.size, 0, none⟩) (by show w.heap.size < _; omega)).trans p0
  have q1 := (hbel.cell (p := ⟨w.heap.size, 1, none⟩) (by show w.heap.size < _; omega)).trans p1
  have q2 := (hbel.cell (p := ⟨w.heap.size, 2, none⟩) (by show w.heap.size < _; omega)).trans p2
  have q3 := (hbel.cell (p := ⟨w.heap.size, 3, none⟩) (by show w.heap.size < _; omega)).trans p3
  have hzz : w.heap.size < W2.heap.size := by have := hbel.size; omega
  have HB2 : Hid (Below w.heap.size w W2) := Lib.hid (behind HB1.out hbel)
  rw [hW2]
  refine (beyond4 (w.heap.size + 1) (n.size : Int) (c.size : Int) (i.size : Int) (t.size : Int) W2 (hcell 0 _ rfl) (hcell 1 _ rfl) (hcell 2 _ rfl) (hcell 3 _ rfl) (by omega) (by omega) (by omega) (by omega)).mono ?_
  rintro e w' ⟨rfl, rfl⟩
  clear hW2 hcell hbel p0 p1 p2 p3
  by_cases hs : n.size + c.size + i.size + t.size ≤ 1048576
  · have hs' : (n.size : Int) + (c.size : Int) + (i.size : Int) + (t.size : Int) ≤ 1048576 := by omega
    obtain ⟨tb, htb⟩ : ∃ tb, bT (tagL n c i t) = tb := ⟨_, rfl⟩
    have H1 := fun w => tag_c n c i t w (by omega) (by omega) (by omega) (by omega)
    have H2 := fun w => refTag_c n c i t w (by omega) (by omega) (by omega) (by omega)
    rw [htb] at H1 H2
    clear htb
    have hzd : w.heap.size < W2.drew.heap.size := hzz
    go_wp2
    go_region_held3 (fun w' => w'.cell? ⟨w.heap.size, 0, none⟩ = some (.string n) ∧ w'.cell? ⟨w.heap.size, 1, none⟩ = some (.string c) ∧ w'.cell? ⟨w.heap.size, 2, none⟩ = some (.string i) ∧ w'.cell? ⟨w.heap.size, 3, none⟩ = some (.string t))
      (first
        | go_keep
        | (refine ⟨?_, ?_, ?_, ?_⟩ <;> assumption))
      (first
        | (go_at_call 14; (with_reducible refine (H1 _).mono ?_); rintro e w3 ⟨rfl, hb3⟩; have r0 := (hb3.cell (p := ⟨w.heap.size, 0, none⟩) hzd).trans q0; have r1 := (hb3.cell (p := ⟨w.heap.size, 1, none⟩) hzd).trans q1; have r2 := (hb3.cell (p := ⟨w.heap.size, 2, none⟩) hzd).trans q2; have r3 := (hb3.cell (p := ⟨w.heap.size, 3, none⟩) hzd).trans q3; have hz3 : w.heap.size < w3.heap.size := Nat.lt_of_lt_of_le hzd hb3.size)
        | (go_at_call 15; (with_reducible refine (H2 _).mono ?_); rintro e w4 ⟨rfl, hb4⟩; have u0 := (hb4.cell (p := ⟨w.heap.size, 0, none⟩) hz3).trans r0; have u1 := (hb4.cell (p := ⟨w.heap.size, 1, none⟩) hz3).trans r1; have u2 := (hb4.cell (p := ⟨w.heap.size, 2, none⟩) hz3).trans r2; have u3 := (hb4.cell (p := ⟨w.heap.size, 3, none⟩) hz3).trans r3))
    go_wp2
    go_ret
    exact ⟨rfl, behind (behind (behind HB2.out (Below.refl _ _).drew) hb3) hb4⟩
  · have hs' : ¬ ((n.size : Int) + (c.size : Int) + (i.size : Int) + (t.size : Int) ≤ 1048576) := by omega
    go_wp2
    go_ret
    exact ⟨rfl, HB2.out⟩
theorem readable : ∀ t ∈ #[29].toList, Try.prog.readableRec t = true ∧ t < Try.prog.types.size := by
  intro t ht
  have h : t ∈ ([29] : List TypeId) := ht
  simp only [List.mem_cons, List.not_mem_nil, or_false] at h
  rcases h with rfl
  · exact ⟨by kernel_rfl, of_decide_eq_true (by kernel_rfl)⟩

theorem lifted (os : Os) (started : os.Started) (H : Type) (enc : TypeId × Value → H) :
    ReturnsInHanded {} Try.checked os 4 .any (Rows.escapeTagsSpec.pre6 enc Try.prog Try.f4 Rows.escapeTagsRow.domain false) (Rows.escapeTagsSpec.post enc Try.prog Try.f4 false true false false) := by
  refine returnsInHanded_of_change_sized (C := Try.checked) own started (by kernel_rfl) Try.func4
    (ChangeSpec.witness6 (enc := enc) (C := Try.checked) false ⟨#[], #[.agg #[.string ⟨#[]⟩, .string ⟨#[]⟩, .string ⟨#[]⟩, .string ⟨#[]⟩]], []⟩ 8 (by kernel_rfl) (by kernel_rfl) (by kernel_rfl) (by kernel_rfl)) ?_
  intro W base args ds gs before hval hW _ hz _
  have hW' := hW
  obtain ⟨p, q, hA, hV, rfl, hfz, hnd⟩ := hW
  rw [Try.params4] at hA hval
  obtain ⟨v0, vs0, d0, ds0, p0, q0, hargs0, rfl, rfl, h0, r0⟩ := trodAll_cons hA
  obtain ⟨rfl, rfl, rfl⟩ := trodAll_nil r0
  obtain rfl : args = #[v0] := by cases args; simp_all
  obtain ⟨rfl, rfl⟩ := trodVars_none hV
  obtain ⟨s0, t0, u0, z0, rfl, hs0, ht0, hu0, hz0⟩ := four_str (hval 0 29 v0 rfl rfl) h0 (fun n hn => by have := List.all_eq_true.1 hz n (DataW.weights_mem_each (j := 0) rfl rfl n hn); simpa using this)
  refine (walk W s0 t0 u0 z0 hs0 ht0 hu0 hz0).mono fun e W' ⟨he, hb⟩ => ⟨_, he, law_post rfl rfl ?_ hW' rfl hb⟩
  rw [Try.params4]
  exact readable

theorem proved : Rows.EscapeTagsSaid :=
  OpenClaim.holds_of_wide 4 Try.f4 rfl rfl rfl rfl rfl rfl rfl ⟨rfl, rfl, rfl, rfl, rfl⟩ rfl rfl rfl rfl rfl (by kernel_rfl) Try.func4 (by kernel_rfl)
    (of_decide_eq_true (by kernel_rfl)) (by unfold Func.isWrapper; first | (rw [if_pos (by decide +kernel)]; kernel_rfl) | (rw [if_neg (by decide +kernel)]; exact ⟨rfl, rfl⟩))
    (fun os started H enc _ => lifted os started H enc)
end Go.Proofs.Ytbhipobedijfbaa.tagsLaw
