import Derived.Test.YtbhipobedijfbaaEscRT
namespace Go.Proofs.Ytbhipobedijfbaa
open Go.RowKit Go.Maps
set_option maxRecDepth 100000

/-! ### the document's own answer: Tag -/
theorem bytes_same {a b : ByteArray} (h : a.data.toList = b.data.toList) : a = b := by rw [← bT_data a, ← bT_data b, h]
theorem att_yes {a b xb : ByteArray} (h : ¬ b.size = 0) (hx : bT (textL b.data.toList) = xb) : attL (a, b) = [32] ++ a.data.toList ++ [61, 34] ++ xb.data.toList ++ [34] := by
  unfold attL; rw [if_neg h, ← hx, bT_list]
theorem att_no {a b : ByteArray} (h : b.size = 0) : attL (a, b) = [] := by unfold attL; exact if_pos h
theorem told_two (a b c d : ByteArray) : toldL [(a, b), (c, d)] = attL (a, b) ++ attL (c, d) := by unfold toldL; simp
theorem empty_is {v : ByteArray} (h : v.size = 0) : v = ⟨#[]⟩ := by
  have : v.data.toList.length = 0 := by simpa using h
  have e : v.data.toList = [] := List.eq_nil_of_length_eq_zero this
  rw [← bT_data v, e]; rfl
theorem text_size {v xb : ByteArray} (h : bT (textL v.data.toList) = xb) (hv : v.size ≤ 10000000) : xb.size ≤ 60000000 := by
  rw [← h, size_len, bT_list]
  have h1 := text_len v.data.toList
  have h2 := size_len v
  omega

set_option maxHeartbeats 8000000 in
theorem refTag_c (n c i t : ByteArray) (w : World) (hn : n.size ≤ 10000000) (hc : c.size ≤ 10000000) (hi : i.size ≤ 10000000) (ht : t.size ≤ 10000000) : Calls Try.prog 15 #[.string n, .string c, .string i, .string t] w fun e w' => e = .returned (.string (bT (tagL n c i t))) ∧ Below w.heap.size w w' := by
  obtain ⟨xb, hxb⟩ : ∃ xb, bT (textL c.data.toList) = xb := ⟨_, rfl⟩
  obtain ⟨yb, hyb⟩ : ∃ yb, bT (textL i.data.toList) = yb := ⟨_, rfl⟩
  have hxz := text_size hxb hc
  have hyz := text_size hyb hi
  have HX := fun w => refText_c c w hc
  have HY := fun w => refText_c i w hi
  rw [hxb] at HX
  rw [hyb] at HY
  have HXB := Lib.hid hxb
  have HYB := Lib.hid hyb
  clear hxb hyb
  by_cases hc0 : c.size = 0
  · obtain rfl := empty_is hc0
    clear hc hc0 hxz
    by_cases hi0 : i.size = 0
    · obtain rfl := empty_is hi0
      clear hi hi0 hyz
      have hfin : (⟨#[60]⟩ : ByteArray) ++ n ++ ⟨#[62]⟩ ++ t ++ ⟨#[60, 47]⟩ ++ n ++ ⟨#[62]⟩ = bT (tagL n (⟨#[]⟩ : ByteArray) (⟨#[]⟩ : ByteArray) t) := by
        apply bytes_same
        rw [bT_list]
        unfold tagL
        rw [told_two, att_no (b := ⟨#[]⟩) rfl, att_no (b := ⟨#[]⟩) rfl]
        simp [ByteArray.data_append]
      have HF := Lib.hid hfin
      clear hfin
      have hq1 : ¬ 9223372036854775807 < 1 + n.size := by omega
      have hq2 : ¬ 9223372036854775807 < 1 + n.size + 1 := by omega
      have hq3 : ¬ 9223372036854775807 < 1 + n.size + 1 + t.size := by omega
      have hq4 : ¬ 9223372036854775807 < 1 + n.size + 1 + t.size + 2 := by omega
      have hq5 : ¬ 9223372036854775807 < 1 + n.size + 1 + t.size + 2 + n.size := by omega
      have hq6 : ¬ 9223372036854775807 < 1 + n.size + 1 + t.size + 2 + n.size + 1 := by omega
      go_enter Try.func15, Try.ntmps15
      go_wp2
      go_ret
      exact ⟨congrArg (fun x => Ending.returned (Value.string x)) HF.out, Below.refl _ _⟩
    · have hin := str_ne hi0
      have hfin : (⟨#[60]⟩ : ByteArray) ++ n ++ ⟨#[32, 105, 100, 61, 34]⟩ ++ yb ++ ⟨#[34]⟩ ++ ⟨#[62]⟩ ++ t ++ ⟨#[60, 47]⟩ ++ n ++ ⟨#[62]⟩ = bT (tagL n (⟨#[]⟩ : ByteArray) i t) := by
        apply bytes_same
        rw [bT_list]
        unfold tagL
        rw [told_two, att_no (b := ⟨#[]⟩) rfl, att_yes hi0 HYB.out]
        simp [ByteArray.data_append]
      have HF := Lib.hid hfin
      clear hfin
      have hq1 : ¬ 9223372036854775807 < 1 + n.size := by omega
      have hq2 : ¬ 9223372036854775807 < 1 + n.size + 5 := by omega
      have hq3 : ¬ 9223372036854775807 < 1 + n.size + 5 + yb.size := by omega
      have hq4 : ¬ 9223372036854775807 < 1 + n.size + 5 + yb.size + 1 := by omega
      have hq5 : ¬ 9223372036854775807 < 1 + n.size + 5 + yb.size + 1 + 1 := by omega
      have hq6 : ¬ 9223372036854775807 < 1 + n.size + 5 + yb.size + 1 + 1 + t.size := by omega
      have hq7 : ¬ 9223372036854775807 < 1 + n.size + 5 + yb.size + 1 + 1 + t.size + 2 := by omega
      have hq8 : ¬ 9223372036854775807 < 1 + n.size + 5 + yb.size + 1 + 1 + t.size + 2 + n.size := by omega
      have hq9 : ¬ 9223372036854775807 < 1 + n.size + 5 + yb.size + 1 + 1 + t.size + 2 + n.size + 1 := by omega
      go_enter Try.func15, Try.ntmps15
      go_wp2_with (first
        | (go_at_call 13; (with_reducible refine (HY _).mono ?_); rintro e w4 ⟨rfl, hb4⟩))
      go_ret
      exact ⟨congrArg (fun x => Ending.returned (Value.string x)) HF.out, hb4⟩
  · have hcn := str_ne hc0
    by_cases hi0 : i.size = 0
    · obtain rfl := empty_is hi0
      clear hi hi0 hyz
      have hfin : (⟨#[60]⟩ : ByteArray) ++ n ++ ⟨#[32, 99, 108, 97, 115, 115, 61, 34]⟩ ++ xb ++ ⟨#[34]⟩ ++ ⟨#[62]⟩ ++ t ++ ⟨#[60, 47]⟩ ++ n ++ ⟨#[62]⟩ = bT (tagL n c (⟨#[]⟩ : ByteArray) t) := by
        apply bytes_same
        rw [bT_list]
        unfold tagL
        rw [told_two, att_yes hc0 HXB.out, att_no (b := ⟨#[]⟩) rfl]
        simp [ByteArray.data_append]
      have HF := Lib.hid hfin
      clear hfin
      have hq1 : ¬ 9223372036854775807 < 1 + n.size := by omega
      have hq2 : ¬ 9223372036854775807 < 1 + n.size + 8 := by omega
      have hq3 : ¬ 9223372036854775807 < 1 + n.size + 8 + xb.size := by omega
      have hq4 : ¬ 9223372036854775807 < 1 + n.size + 8 + xb.size + 1 := by omega
      have hq5 : ¬ 9223372036854775807 < 1 + n.size + 8 + xb.size + 1 + 1 := by omega
      have hq6 : ¬ 9223372036854775807 < 1 + n.size + 8 + xb.size + 1 + 1 + t.size := by omega
      have hq7 : ¬ 9223372036854775807 < 1 + n.size + 8 + xb.size + 1 + 1 + t.size + 2 := by omega
      have hq8 : ¬ 9223372036854775807 < 1 + n.size + 8 + xb.size + 1 + 1 + t.size + 2 + n.size := by omega
      have hq9 : ¬ 9223372036854775807 < 1 + n.size + 8 + xb.size + 1 + 1 + t.size + 2 + n.size + 1 := by omega
      go_enter Try.func15, Try.ntmps15
      go_wp2_with (first
        | (go_at_call 13; (with_reducible refine (HX _).mono ?_); rintro e w3 ⟨rfl, hb3⟩))
      go_ret
      exact ⟨congrArg (fun x => Ending.returned (Value.string x)) HF.out, hb3⟩
    · have hin := str_ne hi0
      have hfin : (⟨#[60]⟩ : ByteArray) ++ n ++ ⟨#[32, 99, 108, 97, 115, 115, 61, 34]⟩ ++ xb ++ ⟨#[34]⟩ ++ ⟨#[32, 105, 100, 61, 34]⟩ ++ yb ++ ⟨#[34]⟩ ++ ⟨#[62]⟩ ++ t ++ ⟨#[60, 47]⟩ ++ n ++ ⟨#[62]⟩ = bT (tagL n c i t) := by
        apply bytes_same
        rw [bT_list]
        unfold tagL
        rw [told_two, att_yes hc0 HXB.out, att_yes hi0 HYB.out]
        simp [ByteArray.data_append]
      have HF := Lib.hid hfin
      clear hfin
      have hq1 : ¬ 9223372036854775807 < 1 + n.size := by omega
      have hq2 : ¬ 9223372036854775807 < 1 + n.size + 8 := by omega
      have hq3 : ¬ 9223372036854775807 < 1 + n.size + 8 + xb.size := by omega
      have hq4 : ¬ 9223372036854775807 < 1 + n.size + 8 + xb.size + 1 := by omega
      have hq5 : ¬ 9223372036854775807 < 1 + n.size + 8 + xb.size + 1 + 5 := by omega
      have hq6 : ¬ 9223372036854775807 < 1 + n.size + 8 + xb.size + 1 + 5 + yb.size := by omega
      have hq7 : ¬ 9223372036854775807 < 1 + n.size + 8 + xb.size + 1 + 5 + yb.size + 1 := by omega
      have hq8 : ¬ 9223372036854775807 < 1 + n.size + 8 + xb.size + 1 + 5 + yb.size + 1 + 1 := by omega
      have hq9 : ¬ 9223372036854775807 < 1 + n.size + 8 + xb.size + 1 + 5 + yb.size + 1 + 1 + t.size := by omega
      have hq10 : ¬ 9223372036854775807 < 1 + n.size + 8 + xb.size + 1 + 5 + yb.size + 1 + 1 + t.size + 2 := by omega
      have hq11 : ¬ 9223372036854775807 < 1 + n.size + 8 + xb.size + 1 + 5 + yb.size + 1 + 1 + t.size + 2 + n.size := by omega
      have hq12 : ¬ 9223372036854775807 < 1 + n.size + 8 + xb.size + 1 + 5 + yb.size + 1 + 1 + t.size + 2 + n.size + 1 := by omega
      go_enter Try.func15, Try.ntmps15
      go_wp2_with (first
        | (go_at_call 13; (with_reducible refine (HX _).mono ?_); rintro e w3 ⟨rfl, hb3⟩)
        | (go_at_call 13; (with_reducible refine (HY _).mono ?_); rintro e w4 ⟨rfl, hb4⟩))
      go_ret
      exact ⟨congrArg (fun x => Ending.returned (Value.string x)) HF.out, behind hb3 hb4⟩
end Go.Proofs.Ytbhipobedijfbaa
