/-
  EscapeWhole: an element begins with its name, ends with it, and has its content between; its class and id stand in quotation marks, as texts for a page, if they are not empty; for any element whose four texts have at most 1048576 bytes together; true is answered beyond. No conditions: every element.
-/
import Derived.Test.YtbhipobedijfbaaEscV
import Derived.Test.YtbhipobedijfbaaEscRG
import Derived.Test.YtbhipobedijfbaaEscE
namespace Go.Proofs.Ytbhipobedijfbaa.wholeLaw
open Go.ChangeShapes Go.WideShapes Go.ChangeAt Go.RowKit
set_option maxRecDepth 100000

theorem beyond4 (b : Nat) (x y z u : Int) (w : World) (h0 : w.cell? ⟨b, 0, none⟩ = some (.int .i64 x)) (h1 : w.cell? ⟨b, 1, none⟩ = some (.int .i64 y)) (h2 : w.cell? ⟨b, 2, none⟩ = some (.int .i64 z)) (h3 : w.cell? ⟨b, 3, none⟩ = some (.int .i64 u))
    (hx : 0 ≤ x ∧ x ≤ 140737488351232) (hy : 0 ≤ y ∧ y ≤ 140737488351232) (hz : 0 ≤ z ∧ z ≤ 140737488351232) (hu : 0 ≤ u ∧ u ≤ 140737488351232) :
    Calls Try.prog 9 #[.slice (some ⟨b, 0, none⟩) 4 4] w fun e w' => e = .returned (.bool (decide (1048576 < x + y + z + u))) ∧ w = w' := by
  have := beyond_any b [x, y, z, u] w (by simp) (by intro i hi; have : i = 0 ∨ i = 1 ∨ i = 2 ∨ i = 3 := by simp at hi; omega
                                                    rcases this with rfl | rfl | rfl | rfl <;> simpa) (by simpa using ⟨hx, hy, hz, hu⟩)
  have e : x + (y + (z + u)) = x + y + z + u := by omega
  simpa [e] using this


set_option maxHeartbeats 8000000 in
theorem walk (w : World) (n c i t : ByteArray) (hn : n.size ≤ 140737488351232) (hc : c.size ≤ 140737488351232) (hi : i.size ≤ 140737488351232) (ht : t.size ≤ 140737488351232) :
    Calls Try.prog 8 #[.agg #[.string n, .string c, .string i, .string t]] w fun e w' => e = .returned (.bool true) ∧ Below w.heap.size w w' := by
  obtain ⟨W1, hW1⟩ : ∃ W1, w.alloc (.cells #[.string n, .string c, .string i, .string t] 29) = W1 := ⟨_, rfl⟩
  have hz1 : W1.heap.size = w.heap.size + 1 := by rw [← hW1]; simp
  have p0 : W1.cell? ⟨w.heap.size, 0, none⟩ = some (.string n) := by rw [← hW1, World.cell?_alloc_new]; rfl
  have p1 : W1.cell? ⟨w.heap.size, 1, none⟩ = some (.string c) := by rw [← hW1, World.cell?_alloc_new]; rfl
  have p2 : W1.cell? ⟨w.heap.size, 2, none⟩ = some (.string i) := by rw [← hW1, World.cell?_alloc_new]; rfl
  have p3 : W1.cell? ⟨w.heap.size, 3, none⟩ = some (.string t) := by rw [← hW1, World.cell?_alloc_new]; rfl
  have hb1 : Below w.heap.size w W1 := by rw [← hW1]; exact laidNew _ _
  have HB1 := Lib.hid hb1
  have hlt1 : w.heap.size < W1.heap.size := by omega
  clear hb1
  go_enter Try.func8, Try.ntmps8
  go_wp2_with fail
  refine (alive_e W1).mono ?_
  rintro e w1 ⟨rfl, hb2⟩
  have p0 := (hb2.cell (p := ⟨w.heap.size, 0, none⟩) hlt1).trans p0
  have p1 := (hb2.cell (p := ⟨w.heap.size, 1, none⟩) hlt1).trans p1
  have p2 := (hb2.cell (p := ⟨w.heap.size, 2, none⟩) hlt1).trans p2
  have p3 := (hb2.cell (p := ⟨w.heap.size, 3, none⟩) hlt1).trans p3
  have hlt2 : w.heap.size < w1.heap.size := Nat.lt_of_lt_of_le hlt1 hb2.size
  have HB2 := Lib.hid (behind HB1.out hb2)
  clear hb2
  go_wp2_with fail
  obtain ⟨W2, hW2⟩ : ∃ W2, w1.alloc (.cells #[.int .i64 (n.size : Int), .int .i64 (c.size : Int), .int .i64 (i.size : Int), .int .i64 (t.size : Int)] 3) = W2 := ⟨_, rfl⟩
  have hcell : ∀ j v, (#[Value.int .i64 (n.size : Int), .int .i64 (c.size : Int), .int .i64 (i.size : Int), .int .i64 (t.size : Int)] : Array Value)[j]? = some v → W2.cell? ⟨w1.heap.size, j, none⟩ = some v := fun j v hv => by
    rw [← hW2, World.cell?_alloc_new]; exact hv
  have hbel : Below w1.heap.size w1 W2 := by rw [← hW2]; exact laidNew _ _
  have q0 := (hbel.cell (p := ⟨w.heap.size, 0, none⟩) hlt2).trans p0
  have q1 := (hbel.cell (p := ⟨w.heap.size, 1, none⟩) hlt2).trans p1
  have q2 := (hbel.cell (p := ⟨w.heap.size, 2, none⟩) hlt2).trans p2
  have q3 := (hbel.cell (p := ⟨w.heap.size, 3, none⟩) hlt2).trans p3
  have hzz : w.heap.size < W2.heap.size := by have := hbel.size; omega
  have HB3 : Hid (Below w.heap.size w W2) := Lib.hid (behind HB2.out hbel)
  rw [hW2]
  refine (beyond4 w1.heap.size (n.size : Int) (c.size : Int) (i.size : Int) (t.size : Int) W2 (hcell 0 _ rfl) (hcell 1 _ rfl) (hcell 2 _ rfl) (hcell 3 _ rfl) (by omega) (by omega) (by omega) (by omega)).mono ?_
  rintro e w' ⟨rfl, rfl⟩
  clear hW2 hcell hbel p0 p1 p2 p3
  by_cases hs : n.size + c.size + i.size + t.size ≤ 1048576
  · have hs' : (n.size : Int) + (c.size : Int) + (i.size : Int) + (t.size : Int) ≤ 1048576 := by omega
    obtain ⟨xb, hxb⟩ : ∃ xb, bT (textL c.data.toList) = xb := ⟨_, rfl⟩
    obtain ⟨yb, hyb⟩ : ∃ yb, bT (textL i.data.toList) = yb := ⟨_, rfl⟩
    have hxz := text_size hxb (by omega)
    have hyz := text_size hyb (by omega)
    have HX := fun w => text_c c w (by omega)
    have HY := fun w => text_c i w (by omega)
    rw [hxb] at HX
    rw [hyb] at HY
    have HXB := Lib.hid hxb
    have HYB := Lib.hid hyb
    have H1 := fun w => tag_c n c ⟨#[]⟩ t w (by omega) (by omega) (by show (0 : Nat) ≤ _; omega) (by omega)
    have H2 := fun w => tag_c n c i t w (by omega) (by omega) (by omega) (by omega)
    clear hxb hyb
    by_cases hc0 : c.size = 0
    · obtain rfl := empty_is hc0
      by_cases hi0 : i.size = 0
      · obtain rfl := empty_is hi0
        have hbare : bT (tagL n (⟨#[]⟩ : ByteArray) (⟨#[]⟩ : ByteArray) t) = (⟨#[60]⟩ : ByteArray) ++ n ++ ((⟨#[62]⟩ : ByteArray) ++ t ++ ⟨#[60, 47]⟩ ++ n ++ ⟨#[62]⟩) := by
          apply bytes_same
          rw [bT_list]
          unfold tagL
          rw [told_two, att_no (b := ⟨#[]⟩) rfl, att_no (b := ⟨#[]⟩) rfl]
          simp [ByteArray.data_append]
        rw [hbare] at H1
        rw [hbare] at H2
        have hq1 : ¬ 9223372036854775807 < 1 + n.size := by omega
        have hq2 : ¬ 9223372036854775807 < 1 + t.size := by omega
        have hq3 : ¬ 9223372036854775807 < 1 + t.size + 2 := by omega
        have hq4 : ¬ 9223372036854775807 < 1 + t.size + 2 + n.size := by omega
        have hq5 : ¬ 9223372036854775807 < 1 + t.size + 2 + n.size + 1 := by omega
        have hq6 : ¬ 9223372036854775807 < 1 + n.size + (1 + t.size + 2 + n.size + 1) := by omega
        clear hbare
        go_wp2_with fail
        refine (H1 _).mono ?_
        rintro e v1 ⟨rfl, hv1⟩
        have b0 := (hv1.cell (p := ⟨w.heap.size, 0, none⟩) hzz).trans q0
        have b1 := (hv1.cell (p := ⟨w.heap.size, 1, none⟩) hzz).trans q1
        have b2 := (hv1.cell (p := ⟨w.heap.size, 2, none⟩) hzz).trans q2
        have b3 := (hv1.cell (p := ⟨w.heap.size, 3, none⟩) hzz).trans q3
        have hzv1 := Nat.lt_of_lt_of_le hzz hv1.size
        clear q0 q1 q2 q3
        go_wp2_with fail
        refine (H2 _).mono ?_
        rintro e v2 ⟨rfl, hv2⟩
        have c0 := (hv2.cell (p := ⟨w.heap.size, 0, none⟩) hzv1).trans b0
        have c1 := (hv2.cell (p := ⟨w.heap.size, 1, none⟩) hzv1).trans b1
        have c2 := (hv2.cell (p := ⟨w.heap.size, 2, none⟩) hzv1).trans b2
        have c3 := (hv2.cell (p := ⟨w.heap.size, 3, none⟩) hzv1).trans b3
        have hzv2 := Nat.lt_of_lt_of_le hzv1 hv2.size
        clear b0 b1 b2 b3
        go_wp2
        go_ret
        exact ⟨rfl, behind (behind (HB3.out) hv1) hv2⟩
      · have hin := str_ne hi0
        have hbare : bT (tagL n (⟨#[]⟩ : ByteArray) (⟨#[]⟩ : ByteArray) t) = (⟨#[60]⟩ : ByteArray) ++ n ++ ((⟨#[62]⟩ : ByteArray) ++ t ++ ⟨#[60, 47]⟩ ++ n ++ ⟨#[62]⟩) := by
          apply bytes_same
          rw [bT_list]
          unfold tagL
          rw [told_two, att_no (b := ⟨#[]⟩) rfl, att_no (b := ⟨#[]⟩) rfl]
          simp [ByteArray.data_append]
        rw [hbare] at H1
        have hfull : bT (tagL n (⟨#[]⟩ : ByteArray) i t) = (⟨#[60]⟩ : ByteArray) ++ n ++ ⟨#[32, 105, 100, 61, 34]⟩ ++ yb ++ ⟨#[34]⟩ ++ ((⟨#[62]⟩ : ByteArray) ++ t ++ ⟨#[60, 47]⟩ ++ n ++ ⟨#[62]⟩) := by
          apply bytes_same
          rw [bT_list]
          unfold tagL
          rw [told_two, att_no (b := ⟨#[]⟩) rfl, att_yes hi0 HYB.out]
          simp [ByteArray.data_append]
        rw [hfull] at H2
        have hq1 : ¬ 9223372036854775807 < 1 + n.size := by omega
        have hq2 : ¬ 9223372036854775807 < 1 + t.size := by omega
        have hq3 : ¬ 9223372036854775807 < 1 + t.size + 2 := by omega
        have hq4 : ¬ 9223372036854775807 < 1 + t.size + 2 + n.size := by omega
        have hq5 : ¬ 9223372036854775807 < 1 + t.size + 2 + n.size + 1 := by omega
        have hq6 : ¬ 9223372036854775807 < 1 + n.size + (1 + t.size + 2 + n.size + 1) := by omega
        have hq7 : ¬ 9223372036854775807 < 1 + n.size + 5 := by omega
        have hq8 : ¬ 9223372036854775807 < 1 + n.size + 5 + yb.size := by omega
        have hq9 : ¬ 9223372036854775807 < 1 + n.size + 5 + yb.size + 1 := by omega
        have hq10 : ¬ 9223372036854775807 < 1 + n.size + 5 + yb.size + 1 + (1 + t.size + 2 + n.size + 1) := by omega
        clear hbare hfull
        go_wp2_with fail
        refine (H1 _).mono ?_
        rintro e v1 ⟨rfl, hv1⟩
        have b0 := (hv1.cell (p := ⟨w.heap.size, 0, none⟩) hzz).trans q0
        have b1 := (hv1.cell (p := ⟨w.heap.size, 1, none⟩) hzz).trans q1
        have b2 := (hv1.cell (p := ⟨w.heap.size, 2, none⟩) hzz).trans q2
        have b3 := (hv1.cell (p := ⟨w.heap.size, 3, none⟩) hzz).trans q3
        have hzv1 := Nat.lt_of_lt_of_le hzz hv1.size
        clear q0 q1 q2 q3
        go_wp2_with fail
        refine (H2 _).mono ?_
        rintro e v2 ⟨rfl, hv2⟩
        have c0 := (hv2.cell (p := ⟨w.heap.size, 0, none⟩) hzv1).trans b0
        have c1 := (hv2.cell (p := ⟨w.heap.size, 1, none⟩) hzv1).trans b1
        have c2 := (hv2.cell (p := ⟨w.heap.size, 2, none⟩) hzv1).trans b2
        have c3 := (hv2.cell (p := ⟨w.heap.size, 3, none⟩) hzv1).trans b3
        have hzv2 := Nat.lt_of_lt_of_le hzv1 hv2.size
        clear b0 b1 b2 b3
        go_wp2_with fail
        refine (HY _).mono ?_
        rintro e v3 ⟨rfl, hv3⟩
        have d0 := (hv3.cell (p := ⟨w.heap.size, 0, none⟩) hzv2).trans c0
        have d1 := (hv3.cell (p := ⟨w.heap.size, 1, none⟩) hzv2).trans c1
        have d2 := (hv3.cell (p := ⟨w.heap.size, 2, none⟩) hzv2).trans c2
        have d3 := (hv3.cell (p := ⟨w.heap.size, 3, none⟩) hzv2).trans c3
        have hzv3 := Nat.lt_of_lt_of_le hzv2 hv3.size
        clear c0 c1 c2 c3
        go_wp2
        go_ret
        exact ⟨rfl, behind (behind (behind (HB3.out) hv1) hv2) hv3⟩
    · have hcn := str_ne hc0
      by_cases hi0 : i.size = 0
      · obtain rfl := empty_is hi0
        have hbare : bT (tagL n c (⟨#[]⟩ : ByteArray) t) = (⟨#[60]⟩ : ByteArray) ++ n ++ ⟨#[32, 99, 108, 97, 115, 115, 61, 34]⟩ ++ xb ++ ⟨#[34]⟩ ++ ((⟨#[62]⟩ : ByteArray) ++ t ++ ⟨#[60, 47]⟩ ++ n ++ ⟨#[62]⟩) := by
          apply bytes_same
          rw [bT_list]
          unfold tagL
          rw [told_two, att_yes hc0 HXB.out, att_no (b := ⟨#[]⟩) rfl]
          simp [ByteArray.data_append]
        rw [hbare] at H1
        rw [hbare] at H2
        have hq1 : ¬ 9223372036854775807 < 1 + n.size := by omega
        have hq2 : ¬ 9223372036854775807 < 1 + n.size + 8 := by omega
        have hq3 : ¬ 9223372036854775807 < 1 + n.size + 8 + xb.size := by omega
        have hq4 : ¬ 9223372036854775807 < 1 + n.size + 8 + xb.size + 1 := by omega
        have hq5 : ¬ 9223372036854775807 < 1 + t.size := by omega
        have hq6 : ¬ 9223372036854775807 < 1 + t.size + 2 := by omega
        have hq7 : ¬ 9223372036854775807 < 1 + t.size + 2 + n.size := by omega
        have hq8 : ¬ 9223372036854775807 < 1 + t.size + 2 + n.size + 1 := by omega
        have hq9 : ¬ 9223372036854775807 < 1 + n.size + 8 + xb.size + 1 + (1 + t.size + 2 + n.size + 1) := by omega
        clear hbare
        go_wp2_with fail
        refine (HX _).mono ?_
        rintro e v1 ⟨rfl, hv1⟩
        have b0 := (hv1.cell (p := ⟨w.heap.size, 0, none⟩) hzz).trans q0
        have b1 := (hv1.cell (p := ⟨w.heap.size, 1, none⟩) hzz).trans q1
        have b2 := (hv1.cell (p := ⟨w.heap.size, 2, none⟩) hzz).trans q2
        have b3 := (hv1.cell (p := ⟨w.heap.size, 3, none⟩) hzz).trans q3
        have hzv1 := Nat.lt_of_lt_of_le hzz hv1.size
        clear q0 q1 q2 q3
        go_wp2_with fail
        refine (H1 _).mono ?_
        rintro e v2 ⟨rfl, hv2⟩
        have c0 := (hv2.cell (p := ⟨w.heap.size, 0, none⟩) hzv1).trans b0
        have c1 := (hv2.cell (p := ⟨w.heap.size, 1, none⟩) hzv1).trans b1
        have c2 := (hv2.cell (p := ⟨w.heap.size, 2, none⟩) hzv1).trans b2
        have c3 := (hv2.cell (p := ⟨w.heap.size, 3, none⟩) hzv1).trans b3
        have hzv2 := Nat.lt_of_lt_of_le hzv1 hv2.size
        clear b0 b1 b2 b3
        go_wp2_with fail
        refine (H2 _).mono ?_
        rintro e v3 ⟨rfl, hv3⟩
        have d0 := (hv3.cell (p := ⟨w.heap.size, 0, none⟩) hzv2).trans c0
        have d1 := (hv3.cell (p := ⟨w.heap.size, 1, none⟩) hzv2).trans c1
        have d2 := (hv3.cell (p := ⟨w.heap.size, 2, none⟩) hzv2).trans c2
        have d3 := (hv3.cell (p := ⟨w.heap.size, 3, none⟩) hzv2).trans c3
        have hzv3 := Nat.lt_of_lt_of_le hzv2 hv3.size
        clear c0 c1 c2 c3
        go_wp2
        go_ret
        exact ⟨rfl, behind (behind (behind (HB3.out) hv1) hv2) hv3⟩
      · have hin := str_ne hi0
        have hbare : bT (tagL n c (⟨#[]⟩ : ByteArray) t) = (⟨#[60]⟩ : ByteArray) ++ n ++ ⟨#[32, 99, 108, 97, 115, 115, 61, 34]⟩ ++ xb ++ ⟨#[34]⟩ ++ ((⟨#[62]⟩ : ByteArray) ++ t ++ ⟨#[60, 47]⟩ ++ n ++ ⟨#[62]⟩) := by
          apply bytes_same
          rw [bT_list]
          unfold tagL
          rw [told_two, att_yes hc0 HXB.out, att_no (b := ⟨#[]⟩) rfl]
          simp [ByteArray.data_append]
        rw [hbare] at H1
        have hfull : bT (tagL n c i t) = (⟨#[60]⟩ : ByteArray) ++ n ++ ⟨#[32, 99, 108, 97, 115, 115, 61, 34]⟩ ++ xb ++ ⟨#[34]⟩ ++ ⟨#[32, 105, 100, 61, 34]⟩ ++ yb ++ ⟨#[34]⟩ ++ ((⟨#[62]⟩ : ByteArray) ++ t ++ ⟨#[60, 47]⟩ ++ n ++ ⟨#[62]⟩) := by
          apply bytes_same
          rw [bT_list]
          unfold tagL
          rw [told_two, att_yes hc0 HXB.out, att_yes hi0 HYB.out]
          simp [ByteArray.data_append]
        rw [hfull] at H2
        have hq1 : ¬ 9223372036854775807 < 1 + n.size := by omega
        have hq2 : ¬ 9223372036854775807 < 1 + n.size + 8 := by omega
        have hq3 : ¬ 9223372036854775807 < 1 + n.size + 8 + xb.size := by omega
        have hq4 : ¬ 9223372036854775807 < 1 + n.size + 8 + xb.size + 1 := by omega
        have hq5 : ¬ 9223372036854775807 < 1 + t.size := by omega
        have hq6 : ¬ 9223372036854775807 < 1 + t.size + 2 := by omega
        have hq7 : ¬ 9223372036854775807 < 1 + t.size + 2 + n.size := by omega
        have hq8 : ¬ 9223372036854775807 < 1 + t.size + 2 + n.size + 1 := by omega
        have hq9 : ¬ 9223372036854775807 < 1 + n.size + 8 + xb.size + 1 + (1 + t.size + 2 + n.size + 1) := by omega
        have hq10 : ¬ 9223372036854775807 < 1 + n.size + 8 + xb.size + 1 + 5 := by omega
        have hq11 : ¬ 9223372036854775807 < 1 + n.size + 8 + xb.size + 1 + 5 + yb.size := by omega
        have hq12 : ¬ 9223372036854775807 < 1 + n.size + 8 + xb.size + 1 + 5 + yb.size + 1 := by omega
        have hq13 : ¬ 9223372036854775807 < 1 + n.size + 8 + xb.size + 1 + 5 + yb.size + 1 + (1 + t.size + 2 + n.size + 1) := by omega
        clear hbare hfull
        go_wp2_with fail
        refine (HX _).mono ?_
        rintro e v1 ⟨rfl, hv1⟩
        have b0 := (hv1.cell (p := ⟨w.heap.size, 0, none⟩) hzz).trans q0
        have b1 := (hv1.cell (p := ⟨w.heap.size, 1, none⟩) hzz).trans q1
        have b2 := (hv1.cell (p := ⟨w.heap.size, 2, none⟩) hzz).trans q2
        have b3 := (hv1.cell (p := ⟨w.heap.size, 3, none⟩) hzz).trans q3
        have hzv1 := Nat.lt_of_lt_of_le hzz hv1.size
        clear q0 q1 q2 q3
        go_wp2_with fail
        refine (H1 _).mono ?_
        rintro e v2 ⟨rfl, hv2⟩
        have c0 := (hv2.cell (p := ⟨w.heap.size, 0, none⟩) hzv1).trans b0
        have c1 := (hv2.cell (p := ⟨w.heap.size, 1, none⟩) hzv1).trans b1
        have c2 := (hv2.cell (p := ⟨w.heap.size, 2, none⟩) hzv1).trans b2
        have c3 := (hv2.cell (p := ⟨w.heap.size, 3, none⟩) hzv1).trans b3
        have hzv2 := Nat.lt_of_lt_of_le hzv1 hv2.size
        clear b0 b1 b2 b3
        go_wp2_with fail
        refine (H2 _).mono ?_
        rintro e v3 ⟨rfl, hv3⟩
        have d0 := (hv3.cell (p := ⟨w.heap.size, 0, none⟩) hzv2).trans c0
        have d1 := (hv3.cell (p := ⟨w.heap.size, 1, none⟩) hzv2).trans c1
        have d2 := (hv3.cell (p := ⟨w.heap.size, 2, none⟩) hzv2).trans c2
        have d3 := (hv3.cell (p := ⟨w.heap.size, 3, none⟩) hzv2).trans c3
        have hzv3 := Nat.lt_of_lt_of_le hzv2 hv3.size
        clear c0 c1 c2 c3
        go_wp2_with fail
        refine (HY _).mono ?_
        rintro e v4 ⟨rfl, hv4⟩
        have e0 := (hv4.cell (p := ⟨w.heap.size, 0, none⟩) hzv3).trans d0
        have e1 := (hv4.cell (p := ⟨w.heap.size, 1, none⟩) hzv3).trans d1
        have e2 := (hv4.cell (p := ⟨w.heap.size, 2, none⟩) hzv3).trans d2
        have e3 := (hv4.cell (p := ⟨w.heap.size, 3, none⟩) hzv3).trans d3
        have hzv4 := Nat.lt_of_lt_of_le hzv3 hv4.size
        clear d0 d1 d2 d3
        go_wp2
        go_ret
        exact ⟨rfl, behind (behind (behind (behind (HB3.out) hv1) hv2) hv3) hv4⟩
  · have hs' : ¬ ((n.size : Int) + (c.size : Int) + (i.size : Int) + (t.size : Int) ≤ 1048576) := by omega
    go_wp2_with fail
    refine (alive_e W2).mono ?_
    rintro e w3 ⟨rfl, hb3⟩
    go_wp2
    go_ret
    exact ⟨rfl, behind HB3.out hb3⟩

theorem readable : ∀ t ∈ #[29].toList, Try.prog.readableRec t = true ∧ t < Try.prog.types.size := by
  intro t ht
  have h : t ∈ ([29] : List TypeId) := ht
  simp only [List.mem_cons, List.not_mem_nil, or_false] at h
  rcases h with rfl
  · exact ⟨by kernel_rfl, of_decide_eq_true (by kernel_rfl)⟩

theorem lifted (os : Os) (started : os.Started) (H : Type) (enc : TypeId × Value → H) :
    ReturnsInHanded {} Try.checked os 8 .any (Rows.escapeWholeSpec.pre6 enc Try.prog Try.f8 Rows.escapeWholeRow.domain false) (Rows.escapeWholeSpec.post enc Try.prog Try.f8 false true false false) := by
  refine returnsInHanded_of_change_sized (C := Try.checked) own started (by kernel_rfl) Try.func8
    (ChangeSpec.witness6 (enc := enc) (C := Try.checked) false ⟨#[], #[.agg #[.string ⟨#[]⟩, .string ⟨#[]⟩, .string ⟨#[]⟩, .string ⟨#[]⟩]], []⟩ 8 (by kernel_rfl) (by kernel_rfl) (by kernel_rfl) (by kernel_rfl)) ?_
  intro W base args ds gs before hval hW _ hz _
  have hW' := hW
  obtain ⟨p, q, hA, hV, rfl, hfz, hnd⟩ := hW
  rw [Try.params8] at hA hval
  obtain ⟨v0, vs0, d0, ds0, p0, q0, hargs0, rfl, rfl, h0, r0⟩ := trodAll_cons hA
  obtain ⟨rfl, rfl, rfl⟩ := trodAll_nil r0
  obtain rfl : args = #[v0] := by cases args; simp_all
  obtain ⟨rfl, rfl⟩ := trodVars_none hV
  obtain ⟨s0, t0, u0, z0, rfl, hs0, ht0, hu0, hz0⟩ := four_str (hval 0 29 v0 rfl rfl) h0 (fun n hn => by have := List.all_eq_true.1 hz n (DataW.weights_mem_each (j := 0) rfl rfl n hn); simpa using this)
  refine (walk W s0 t0 u0 z0 hs0 ht0 hu0 hz0).mono fun e W' ⟨he, hb⟩ => ⟨_, he, law_post rfl rfl ?_ hW' rfl hb⟩
  rw [Try.params8]
  exact readable

theorem proved : Rows.EscapeWholeSaid :=
  OpenClaim.holds_of_wide 8 Try.f8 rfl rfl rfl rfl rfl rfl rfl ⟨rfl, rfl, rfl, rfl, rfl⟩ rfl rfl rfl rfl rfl (by kernel_rfl) Try.func8 (by kernel_rfl)
    (of_decide_eq_true (by kernel_rfl)) (by unfold Func.isWrapper; first | (rw [if_pos (by decide +kernel)]; kernel_rfl) | (rw [if_neg (by decide +kernel)]; exact ⟨rfl, rfl⟩))
    (fun os started H enc _ => lifted os started H enc)
end Go.Proofs.Ytbhipobedijfbaa.wholeLaw
