/-
  TermsSigns: a text with a sign that cuts, more than once, or with one that none has, is refused; for any three texts of together at most 1048576 bytes, and true is answered beyond, and each of the five signs. The row lists three tables (two of the library, the forms of terms), tied to the program's text; no condition: every array of three strings that can be read, every byte.
-/
import Derived.Test.YtdbhlnokhfflmaaDoorCards
import Derived.Test.YtdbhlnokhfflmaaDoorTie
import Derived.Test.YtdbhlnokhfflmaaDoorLaidF
import Derived.Test.YtdbhlnokhfflmaaDoorWitness
import Derived.Test.YtdbhlnokhfflmaaDoorAlive7
import Derived.Test.YtdbhlnokhfflmaaDoorTermP
import Derived.Test.YtdbhlnokhfflmaaDoorTriple
namespace Go.Proofs.YtdbhlnokhfflmaaDoor.signsLaw
open Go.ChangeShapes Go.WideShapes Go.ChangeAt Go.RowKit
open Go.ChangeMaps (open_string)
set_option maxRecDepth 100000

theorem cat5 (a b c : ByteArray) (x y : UInt8) : (((a ++ ⟨#[x]⟩) ++ b) ++ ⟨#[y]⟩) ++ c = bT (a.data.toList ++ x :: (b.data.toList ++ y :: c.data.toList)) := by
  apply bT_eq
  simp [ByteArray.data_append]
theorem cat3 (a b : ByteArray) (x : UInt8) : (a ++ ⟨#[x]⟩) ++ b = bT (a.data.toList ++ x :: b.data.toList) := by
  apply bT_eq
  simp [ByteArray.data_append]
theorem parse_any (p : Option Parts) : ∃ (x y z : ByteArray) (e : Int), parseV p = .tuple #[.string x, .string y, .string z, .int .i64 e] := by
  cases p with
  | none => exact ⟨_, _, _, _, rfl⟩
  | some p => exact ⟨_, _, _, _, rfl⟩
set_option maxHeartbeats 4000000 in
theorem walk_0 (a b c : ByteArray) (ha : a.size + b.size + c.size ≤ 1048576) (n : Int) (hn : 0 ≤ n ∧ n ≤ 255) (hr : n % 5 = 0) (W : World) (hF : FormsIs W) :
    Calls Tryd.prog 6 #[.agg #[.string a, .string b, .string c], .int .u8 n] W fun e w' => e = .returned (.bool true) ∧ Below W.heap.size W w' := by
  have HF := Lib.hid hF
  clear hF
  have hd : decide (1048576 < (a.size : Int) + (b.size : Int) + (c.size : Int)) = false := decide_eq_false (by omega)
  have hr2 : Int.tmod n 5 = 0 := by rw [Int.tmod_eq_emod_of_nonneg hn.1]; exact hr
  -- the three texts
  have P1 := fun w h => parse_c ((((a ++ ⟨#[40]⟩) ++ b) ++ ⟨#[40]⟩) ++ c) w h (by rw [cat5, bT_size]; simp; omega)
  rw [cat5, bT_list, two_signs (by rfl) (by rfl)] at P1
  have P2 := fun w h => parse_c ((((a ++ ⟨#[59]⟩) ++ b) ++ ⟨#[62]⟩) ++ c) w h (by rw [cat5, bT_size]; simp; omega)
  rw [cat5, bT_list, two_signs (by rfl) (by rfl)] at P2
  have P3 := fun w h => parse_c ((a ++ ⟨#[40]⟩) ++ b) w h (by rw [cat3, bT_size]; simp; omega)
  rw [cat3, bT_list, bad_sign (by rfl) (by rfl)] at P3
  rw [← cat5] at P1 P2
  rw [← cat3] at P3
  dsimp only [parseV] at P1 P2 P3
  have z1 : ((a ++ ⟨#[40]⟩ : ByteArray)).size = a.size + 1 := by rw [ba_size, one_size]
  have z2 : ((a ++ ⟨#[40]⟩) ++ b).size = a.size + 1 + b.size := by rw [ba_size, z1]
  have z3 : (((a ++ ⟨#[40]⟩) ++ b) ++ (⟨#[40]⟩ : ByteArray)).size = a.size + 1 + b.size + 1 := by rw [ba_size, z2, one_size]
  have y1 : ((a ++ ⟨#[59]⟩ : ByteArray)).size = a.size + 1 := by rw [ba_size, one_size]
  have y2 : ((a ++ ⟨#[59]⟩) ++ b).size = a.size + 1 + b.size := by rw [ba_size, y1]
  have y3 : (((a ++ ⟨#[59]⟩) ++ b) ++ (⟨#[62]⟩ : ByteArray)).size = a.size + 1 + b.size + 1 := by rw [ba_size, y2, one_size]
  have s0 : ¬ 9223372036854775807 < a.size + (⟨#[40]⟩ : ByteArray).size := by rw [one_size]; omega
  have r0 : ¬ 9223372036854775807 < a.size + (⟨#[59]⟩ : ByteArray).size := by rw [one_size]; omega
  obtain ⟨t1, e1⟩ : ∃ t, a ++ (⟨#[40]⟩ : ByteArray) = t := ⟨_, rfl⟩
  rw [e1] at P1 P3 z1 z2 z3
  have s1 : ¬ 9223372036854775807 < t1.size + b.size := by omega
  obtain ⟨t2, e2⟩ : ∃ t, t1 ++ b = t := ⟨_, rfl⟩
  rw [e2] at P1 P3 z2 z3
  have s2 : ¬ 9223372036854775807 < t2.size + (⟨#[40]⟩ : ByteArray).size := by rw [one_size]; omega
  obtain ⟨t3, e3⟩ : ∃ t, t2 ++ (⟨#[40]⟩ : ByteArray) = t := ⟨_, rfl⟩
  rw [e3] at P1 z3
  have s3 : ¬ 9223372036854775807 < t3.size + c.size := by omega
  obtain ⟨t4, e4⟩ : ∃ t, t3 ++ c = t := ⟨_, rfl⟩
  rw [e4] at P1
  obtain ⟨u1, f1⟩ : ∃ t, a ++ (⟨#[59]⟩ : ByteArray) = t := ⟨_, rfl⟩
  rw [f1] at P2 y1 y2 y3
  have q1 : ¬ 9223372036854775807 < u1.size + b.size := by omega
  obtain ⟨u2, f2⟩ : ∃ t, u1 ++ b = t := ⟨_, rfl⟩
  rw [f2] at P2 y2 y3
  have q2 : ¬ 9223372036854775807 < u2.size + (⟨#[62]⟩ : ByteArray).size := by rw [one_size]; omega
  obtain ⟨u3, f3⟩ : ∃ t, u2 ++ (⟨#[62]⟩ : ByteArray) = t := ⟨_, rfl⟩
  rw [f3] at P2 y3
  have q3 : ¬ 9223372036854775807 < u3.size + c.size := by omega
  obtain ⟨u4, f4⟩ : ∃ t, u3 ++ c = t := ⟨_, rfl⟩
  rw [f4] at P2
  have HP1 := Lib.hid P1
  have HP2 := Lib.hid P2
  have HP3 := Lib.hid P3
  clear P1 P2 P3 z1 z2 z3 y1 y2 y3
  go_enter Tryd.func6, Tryd.ntmps6
  go_wp2_with fail
  refine (alive_c _ (HF.out.below (laidNew W _))).mono ?_
  rintro e w1 ⟨rfl, hb1⟩
  have hb1 := behind (laidNew W _) hb1
  go_wp2_with fail
  refine (beyond3 _ (a.size : Int) (b.size : Int) (c.size : Int) _ (by simp) (by simp) (by simp) (by omega) (by omega) (by omega)).mono ?_
  rintro e w2 ⟨rfl, hw2⟩
  have hb2 : Below W.heap.size W w2 := by rw [← hw2]; exact behind hb1 (laidNew _ _)
  clear hw2 hb1
  go_wp2_with (first
    | (go_at_call 15; (with_reducible refine (HP1.out _ (HF.out.below (behind hb2 (laidNew _ _)))).mono ?_); rintro e w3 ⟨rfl, hb3⟩; have hb2 := behind (behind hb2 (laidNew _ _)) hb3; clear hb3)
    | (go_at_call 15; (with_reducible refine (HP2.out _ (HF.out.below hb2)).mono ?_); rintro e w3 ⟨rfl, hb3⟩; have hb2 := behind hb2 hb3; clear hb3)
    | (go_at_call 15; (with_reducible refine (HP3.out _ (HF.out.below hb2)).mono ?_); rintro e w3 ⟨rfl, hb3⟩; have hb2 := behind hb2 hb3; clear hb3))
  go_ret
  exact ⟨rfl, hb2⟩
set_option maxHeartbeats 4000000 in
theorem walk_1 (a b c : ByteArray) (ha : a.size + b.size + c.size ≤ 1048576) (n : Int) (hn : 0 ≤ n ∧ n ≤ 255) (hr : n % 5 = 1) (W : World) (hF : FormsIs W) :
    Calls Tryd.prog 6 #[.agg #[.string a, .string b, .string c], .int .u8 n] W fun e w' => e = .returned (.bool true) ∧ Below W.heap.size W w' := by
  have HF := Lib.hid hF
  clear hF
  have hd : decide (1048576 < (a.size : Int) + (b.size : Int) + (c.size : Int)) = false := decide_eq_false (by omega)
  have hr2 : Int.tmod n 5 = 1 := by rw [Int.tmod_eq_emod_of_nonneg hn.1]; exact hr
  -- the three texts
  have P1 := fun w h => parse_c ((((a ++ ⟨#[41]⟩) ++ b) ++ ⟨#[41]⟩) ++ c) w h (by rw [cat5, bT_size]; simp; omega)
  rw [cat5, bT_list, two_signs (by rfl) (by rfl)] at P1
  have P2 := fun w h => parse_c ((((a ++ ⟨#[59]⟩) ++ b) ++ ⟨#[62]⟩) ++ c) w h (by rw [cat5, bT_size]; simp; omega)
  rw [cat5, bT_list, two_signs (by rfl) (by rfl)] at P2
  have P3 := fun w h => parse_c ((a ++ ⟨#[41]⟩) ++ b) w h (by rw [cat3, bT_size]; simp; omega)
  rw [cat3, bT_list, bad_sign (by rfl) (by rfl)] at P3
  rw [← cat5] at P1 P2
  rw [← cat3] at P3
  dsimp only [parseV] at P1 P2 P3
  have z1 : ((a ++ ⟨#[41]⟩ : ByteArray)).size = a.size + 1 := by rw [ba_size, one_size]
  have z2 : ((a ++ ⟨#[41]⟩) ++ b).size = a.size + 1 + b.size := by rw [ba_size, z1]
  have z3 : (((a ++ ⟨#[41]⟩) ++ b) ++ (⟨#[41]⟩ : ByteArray)).size = a.size + 1 + b.size + 1 := by rw [ba_size, z2, one_size]
  have y1 : ((a ++ ⟨#[59]⟩ : ByteArray)).size = a.size + 1 := by rw [ba_size, one_size]
  have y2 : ((a ++ ⟨#[59]⟩) ++ b).size = a.size + 1 + b.size := by rw [ba_size, y1]
  have y3 : (((a ++ ⟨#[59]⟩) ++ b) ++ (⟨#[62]⟩ : ByteArray)).size = a.size + 1 + b.size + 1 := by rw [ba_size, y2, one_size]
  have s0 : ¬ 9223372036854775807 < a.size + (⟨#[41]⟩ : ByteArray).size := by rw [one_size]; omega
  have r0 : ¬ 9223372036854775807 < a.size + (⟨#[59]⟩ : ByteArray).size := by rw [one_size]; omega
  obtain ⟨t1, e1⟩ : ∃ t, a ++ (⟨#[41]⟩ : ByteArray) = t := ⟨_, rfl⟩
  rw [e1] at P1 P3 z1 z2 z3
  have s1 : ¬ 9223372036854775807 < t1.size + b.size := by omega
  obtain ⟨t2, e2⟩ : ∃ t, t1 ++ b = t := ⟨_, rfl⟩
  rw [e2] at P1 P3 z2 z3
  have s2 : ¬ 9223372036854775807 < t2.size + (⟨#[41]⟩ : ByteArray).size := by rw [one_size]; omega
  obtain ⟨t3, e3⟩ : ∃ t, t2 ++ (⟨#[41]⟩ : ByteArray) = t := ⟨_, rfl⟩
  rw [e3] at P1 z3
  have s3 : ¬ 9223372036854775807 < t3.size + c.size := by omega
  obtain ⟨t4, e4⟩ : ∃ t, t3 ++ c = t := ⟨_, rfl⟩
  rw [e4] at P1
  obtain ⟨u1, f1⟩ : ∃ t, a ++ (⟨#[59]⟩ : ByteArray) = t := ⟨_, rfl⟩
  rw [f1] at P2 y1 y2 y3
  have q1 : ¬ 9223372036854775807 < u1.size + b.size := by omega
  obtain ⟨u2, f2⟩ : ∃ t, u1 ++ b = t := ⟨_, rfl⟩
  rw [f2] at P2 y2 y3
  have q2 : ¬ 9223372036854775807 < u2.size + (⟨#[62]⟩ : ByteArray).size := by rw [one_size]; omega
  obtain ⟨u3, f3⟩ : ∃ t, u2 ++ (⟨#[62]⟩ : ByteArray) = t := ⟨_, rfl⟩
  rw [f3] at P2 y3
  have q3 : ¬ 9223372036854775807 < u3.size + c.size := by omega
  obtain ⟨u4, f4⟩ : ∃ t, u3 ++ c = t := ⟨_, rfl⟩
  rw [f4] at P2
  have HP1 := Lib.hid P1
  have HP2 := Lib.hid P2
  have HP3 := Lib.hid P3
  clear P1 P2 P3 z1 z2 z3 y1 y2 y3
  go_enter Tryd.func6, Tryd.ntmps6
  go_wp2_with fail
  refine (alive_c _ (HF.out.below (laidNew W _))).mono ?_
  rintro e w1 ⟨rfl, hb1⟩
  have hb1 := behind (laidNew W _) hb1
  go_wp2_with fail
  refine (beyond3 _ (a.size : Int) (b.size : Int) (c.size : Int) _ (by simp) (by simp) (by simp) (by omega) (by omega) (by omega)).mono ?_
  rintro e w2 ⟨rfl, hw2⟩
  have hb2 : Below W.heap.size W w2 := by rw [← hw2]; exact behind hb1 (laidNew _ _)
  clear hw2 hb1
  go_wp2_with (first
    | (go_at_call 15; (with_reducible refine (HP1.out _ (HF.out.below (behind hb2 (laidNew _ _)))).mono ?_); rintro e w3 ⟨rfl, hb3⟩; have hb2 := behind (behind hb2 (laidNew _ _)) hb3; clear hb3)
    | (go_at_call 15; (with_reducible refine (HP2.out _ (HF.out.below hb2)).mono ?_); rintro e w3 ⟨rfl, hb3⟩; have hb2 := behind hb2 hb3; clear hb3)
    | (go_at_call 15; (with_reducible refine (HP3.out _ (HF.out.below hb2)).mono ?_); rintro e w3 ⟨rfl, hb3⟩; have hb2 := behind hb2 hb3; clear hb3))
  go_ret
  exact ⟨rfl, hb2⟩
set_option maxHeartbeats 4000000 in
theorem walk_2 (a b c : ByteArray) (ha : a.size + b.size + c.size ≤ 1048576) (n : Int) (hn : 0 ≤ n ∧ n ≤ 255) (hr : n % 5 = 2) (W : World) (hF : FormsIs W) :
    Calls Tryd.prog 6 #[.agg #[.string a, .string b, .string c], .int .u8 n] W fun e w' => e = .returned (.bool true) ∧ Below W.heap.size W w' := by
  have HF := Lib.hid hF
  clear hF
  have hd : decide (1048576 < (a.size : Int) + (b.size : Int) + (c.size : Int)) = false := decide_eq_false (by omega)
  have hr2 : Int.tmod n 5 = 2 := by rw [Int.tmod_eq_emod_of_nonneg hn.1]; exact hr
  -- the three texts
  have P1 := fun w h => parse_c ((((a ++ ⟨#[60]⟩) ++ b) ++ ⟨#[60]⟩) ++ c) w h (by rw [cat5, bT_size]; simp; omega)
  rw [cat5, bT_list, two_signs (by rfl) (by rfl)] at P1
  have P2 := fun w h => parse_c ((((a ++ ⟨#[59]⟩) ++ b) ++ ⟨#[62]⟩) ++ c) w h (by rw [cat5, bT_size]; simp; omega)
  rw [cat5, bT_list, two_signs (by rfl) (by rfl)] at P2
  have P3 := fun w h => parse_c ((a ++ ⟨#[60]⟩) ++ b) w h (by rw [cat3, bT_size]; simp; omega)
  rw [cat3, bT_list, bad_sign (by rfl) (by rfl)] at P3
  rw [← cat5] at P1 P2
  rw [← cat3] at P3
  dsimp only [parseV] at P1 P2 P3
  have z1 : ((a ++ ⟨#[60]⟩ : ByteArray)).size = a.size + 1 := by rw [ba_size, one_size]
  have z2 : ((a ++ ⟨#[60]⟩) ++ b).size = a.size + 1 + b.size := by rw [ba_size, z1]
  have z3 : (((a ++ ⟨#[60]⟩) ++ b) ++ (⟨#[60]⟩ : ByteArray)).size = a.size + 1 + b.size + 1 := by rw [ba_size, z2, one_size]
  have y1 : ((a ++ ⟨#[59]⟩ : ByteArray)).size = a.size + 1 := by rw [ba_size, one_size]
  have y2 : ((a ++ ⟨#[59]⟩) ++ b).size = a.size + 1 + b.size := by rw [ba_size, y1]
  have y3 : (((a ++ ⟨#[59]⟩) ++ b) ++ (⟨#[62]⟩ : ByteArray)).size = a.size + 1 + b.size + 1 := by rw [ba_size, y2, one_size]
  have s0 : ¬ 9223372036854775807 < a.size + (⟨#[60]⟩ : ByteArray).size := by rw [one_size]; omega
  have r0 : ¬ 9223372036854775807 < a.size + (⟨#[59]⟩ : ByteArray).size := by rw [one_size]; omega
  obtain ⟨t1, e1⟩ : ∃ t, a ++ (⟨#[60]⟩ : ByteArray) = t := ⟨_, rfl⟩
  rw [e1] at P1 P3 z1 z2 z3
  have s1 : ¬ 9223372036854775807 < t1.size + b.size := by omega
  obtain ⟨t2, e2⟩ : ∃ t, t1 ++ b = t := ⟨_, rfl⟩
  rw [e2] at P1 P3 z2 z3
  have s2 : ¬ 9223372036854775807 < t2.size + (⟨#[60]⟩ : ByteArray).size := by rw [one_size]; omega
  obtain ⟨t3, e3⟩ : ∃ t, t2 ++ (⟨#[60]⟩ : ByteArray) = t := ⟨_, rfl⟩
  rw [e3] at P1 z3
  have s3 : ¬ 9223372036854775807 < t3.size + c.size := by omega
  obtain ⟨t4, e4⟩ : ∃ t, t3 ++ c = t := ⟨_, rfl⟩
  rw [e4] at P1
  obtain ⟨u1, f1⟩ : ∃ t, a ++ (⟨#[59]⟩ : ByteArray) = t := ⟨_, rfl⟩
  rw [f1] at P2 y1 y2 y3
  have q1 : ¬ 9223372036854775807 < u1.size + b.size := by omega
  obtain ⟨u2, f2⟩ : ∃ t, u1 ++ b = t := ⟨_, rfl⟩
  rw [f2] at P2 y2 y3
  have q2 : ¬ 9223372036854775807 < u2.size + (⟨#[62]⟩ : ByteArray).size := by rw [one_size]; omega
  obtain ⟨u3, f3⟩ : ∃ t, u2 ++ (⟨#[62]⟩ : ByteArray) = t := ⟨_, rfl⟩
  rw [f3] at P2 y3
  have q3 : ¬ 9223372036854775807 < u3.size + c.size := by omega
  obtain ⟨u4, f4⟩ : ∃ t, u3 ++ c = t := ⟨_, rfl⟩
  rw [f4] at P2
  have HP1 := Lib.hid P1
  have HP2 := Lib.hid P2
  have HP3 := Lib.hid P3
  clear P1 P2 P3 z1 z2 z3 y1 y2 y3
  go_enter Tryd.func6, Tryd.ntmps6
  go_wp2_with fail
  refine (alive_c _ (HF.out.below (laidNew W _))).mono ?_
  rintro e w1 ⟨rfl, hb1⟩
  have hb1 := behind (laidNew W _) hb1
  go_wp2_with fail
  refine (beyond3 _ (a.size : Int) (b.size : Int) (c.size : Int) _ (by simp) (by simp) (by simp) (by omega) (by omega) (by omega)).mono ?_
  rintro e w2 ⟨rfl, hw2⟩
  have hb2 : Below W.heap.size W w2 := by rw [← hw2]; exact behind hb1 (laidNew _ _)
  clear hw2 hb1
  go_wp2_with (first
    | (go_at_call 15; (with_reducible refine (HP1.out _ (HF.out.below (behind hb2 (laidNew _ _)))).mono ?_); rintro e w3 ⟨rfl, hb3⟩; have hb2 := behind (behind hb2 (laidNew _ _)) hb3; clear hb3)
    | (go_at_call 15; (with_reducible refine (HP2.out _ (HF.out.below hb2)).mono ?_); rintro e w3 ⟨rfl, hb3⟩; have hb2 := behind hb2 hb3; clear hb3)
    | (go_at_call 15; (with_reducible refine (HP3.out _ (HF.out.below hb2)).mono ?_); rintro e w3 ⟨rfl, hb3⟩; have hb2 := behind hb2 hb3; clear hb3))
  go_ret
  exact ⟨rfl, hb2⟩
set_option maxHeartbeats 4000000 in
theorem walk_3 (a b c : ByteArray) (ha : a.size + b.size + c.size ≤ 1048576) (n : Int) (hn : 0 ≤ n ∧ n ≤ 255) (hr : n % 5 = 3) (W : World) (hF : FormsIs W) :
    Calls Tryd.prog 6 #[.agg #[.string a, .string b, .string c], .int .u8 n] W fun e w' => e = .returned (.bool true) ∧ Below W.heap.size W w' := by
  have HF := Lib.hid hF
  clear hF
  have hd : decide (1048576 < (a.size : Int) + (b.size : Int) + (c.size : Int)) = false := decide_eq_false (by omega)
  have hr2 : Int.tmod n 5 = 3 := by rw [Int.tmod_eq_emod_of_nonneg hn.1]; exact hr
  -- the three texts
  have P1 := fun w h => parse_c ((((a ++ ⟨#[59]⟩) ++ b) ++ ⟨#[59]⟩) ++ c) w h (by rw [cat5, bT_size]; simp; omega)
  rw [cat5, bT_list, two_signs (by rfl) (by rfl)] at P1
  have P2 := fun w h => parse_c ((((a ++ ⟨#[59]⟩) ++ b) ++ ⟨#[62]⟩) ++ c) w h (by rw [cat5, bT_size]; simp; omega)
  rw [cat5, bT_list, two_signs (by rfl) (by rfl)] at P2
  have P3 := fun w h => parse_c ((a ++ ⟨#[59]⟩) ++ b) w h (by rw [cat3, bT_size]; simp; omega)
  rw [cat3, bT_list] at P3
  rw [← cat5] at P1 P2
  rw [← cat3] at P3
  dsimp only [parseV] at P1 P2
  obtain ⟨g1, g2, g3, g4, hg⟩ := parse_any (parseL (a.data.toList ++ 59 :: b.data.toList))
  rw [hg] at P3
  clear hg
  have z1 : ((a ++ ⟨#[59]⟩ : ByteArray)).size = a.size + 1 := by rw [ba_size, one_size]
  have z2 : ((a ++ ⟨#[59]⟩) ++ b).size = a.size + 1 + b.size := by rw [ba_size, z1]
  have z3 : (((a ++ ⟨#[59]⟩) ++ b) ++ (⟨#[59]⟩ : ByteArray)).size = a.size + 1 + b.size + 1 := by rw [ba_size, z2, one_size]
  have y1 : ((a ++ ⟨#[59]⟩ : ByteArray)).size = a.size + 1 := by rw [ba_size, one_size]
  have y2 : ((a ++ ⟨#[59]⟩) ++ b).size = a.size + 1 + b.size := by rw [ba_size, y1]
  have y3 : (((a ++ ⟨#[59]⟩) ++ b) ++ (⟨#[62]⟩ : ByteArray)).size = a.size + 1 + b.size + 1 := by rw [ba_size, y2, one_size]
  have s0 : ¬ 9223372036854775807 < a.size + (⟨#[59]⟩ : ByteArray).size := by rw [one_size]; omega
  have r0 : ¬ 9223372036854775807 < a.size + (⟨#[59]⟩ : ByteArray).size := by rw [one_size]; omega
  obtain ⟨t1, e1⟩ : ∃ t, a ++ (⟨#[59]⟩ : ByteArray) = t := ⟨_, rfl⟩
  rw [e1] at P1 P3 z1 z2 z3
  have s1 : ¬ 9223372036854775807 < t1.size + b.size := by omega
  obtain ⟨t2, e2⟩ : ∃ t, t1 ++ b = t := ⟨_, rfl⟩
  rw [e2] at P1 P3 z2 z3
  have s2 : ¬ 9223372036854775807 < t2.size + (⟨#[59]⟩ : ByteArray).size := by rw [one_size]; omega
  obtain ⟨t3, e3⟩ : ∃ t, t2 ++ (⟨#[59]⟩ : ByteArray) = t := ⟨_, rfl⟩
  rw [e3] at P1 z3
  have s3 : ¬ 9223372036854775807 < t3.size + c.size := by omega
  obtain ⟨t4, e4⟩ : ∃ t, t3 ++ c = t := ⟨_, rfl⟩
  rw [e4] at P1
  rw [e1] at P2 y1 y2 y3
  have q1 : ¬ 9223372036854775807 < t1.size + b.size := by omega
  rw [e2] at P2 y2 y3
  have q2 : ¬ 9223372036854775807 < t2.size + (⟨#[62]⟩ : ByteArray).size := by rw [one_size]; omega
  obtain ⟨u3, f3⟩ : ∃ t, t2 ++ (⟨#[62]⟩ : ByteArray) = t := ⟨_, rfl⟩
  rw [f3] at P2 y3
  have q3 : ¬ 9223372036854775807 < u3.size + c.size := by omega
  obtain ⟨u4, f4⟩ : ∃ t, u3 ++ c = t := ⟨_, rfl⟩
  rw [f4] at P2
  have HP1 := Lib.hid P1
  have HP2 := Lib.hid P2
  have HP3 := Lib.hid P3
  clear P1 P2 P3 z1 z2 z3 y1 y2 y3
  go_enter Tryd.func6, Tryd.ntmps6
  go_wp2_with fail
  refine (alive_c _ (HF.out.below (laidNew W _))).mono ?_
  rintro e w1 ⟨rfl, hb1⟩
  have hb1 := behind (laidNew W _) hb1
  go_wp2_with fail
  refine (beyond3 _ (a.size : Int) (b.size : Int) (c.size : Int) _ (by simp) (by simp) (by simp) (by omega) (by omega) (by omega)).mono ?_
  rintro e w2 ⟨rfl, hw2⟩
  have hb2 : Below W.heap.size W w2 := by rw [← hw2]; exact behind hb1 (laidNew _ _)
  clear hw2 hb1
  go_wp2_with (first
    | (go_at_call 15; (with_reducible refine (HP1.out _ (HF.out.below (behind hb2 (laidNew _ _)))).mono ?_); rintro e w3 ⟨rfl, hb3⟩; have hb2 := behind (behind hb2 (laidNew _ _)) hb3; clear hb3)
    | (go_at_call 15; (with_reducible refine (HP2.out _ (HF.out.below hb2)).mono ?_); rintro e w3 ⟨rfl, hb3⟩; have hb2 := behind hb2 hb3; clear hb3)
    | (go_at_call 15; (with_reducible refine (HP3.out _ (HF.out.below hb2)).mono ?_); rintro e w3 ⟨rfl, hb3⟩; have hb2 := behind hb2 hb3; clear hb3))
  go_ret
  exact ⟨rfl, hb2⟩
set_option maxHeartbeats 4000000 in
theorem walk_4 (a b c : ByteArray) (ha : a.size + b.size + c.size ≤ 1048576) (n : Int) (hn : 0 ≤ n ∧ n ≤ 255) (hr : n % 5 = 4) (W : World) (hF : FormsIs W) :
    Calls Tryd.prog 6 #[.agg #[.string a, .string b, .string c], .int .u8 n] W fun e w' => e = .returned (.bool true) ∧ Below W.heap.size W w' := by
  have HF := Lib.hid hF
  clear hF
  have hd : decide (1048576 < (a.size : Int) + (b.size : Int) + (c.size : Int)) = false := decide_eq_false (by omega)
  have hr2 : Int.tmod n 5 = 4 := by rw [Int.tmod_eq_emod_of_nonneg hn.1]; exact hr
  -- the three texts
  have P1 := fun w h => parse_c ((((a ++ ⟨#[62]⟩) ++ b) ++ ⟨#[62]⟩) ++ c) w h (by rw [cat5, bT_size]; simp; omega)
  rw [cat5, bT_list, two_signs (by rfl) (by rfl)] at P1
  have P2 := fun w h => parse_c ((((a ++ ⟨#[59]⟩) ++ b) ++ ⟨#[62]⟩) ++ c) w h (by rw [cat5, bT_size]; simp; omega)
  rw [cat5, bT_list, two_signs (by rfl) (by rfl)] at P2
  have P3 := fun w h => parse_c ((a ++ ⟨#[62]⟩) ++ b) w h (by rw [cat3, bT_size]; simp; omega)
  rw [cat3, bT_list] at P3
  rw [← cat5] at P1 P2
  rw [← cat3] at P3
  dsimp only [parseV] at P1 P2
  obtain ⟨g1, g2, g3, g4, hg⟩ := parse_any (parseL (a.data.toList ++ 62 :: b.data.toList))
  rw [hg] at P3
  clear hg
  have z1 : ((a ++ ⟨#[62]⟩ : ByteArray)).size = a.size + 1 := by rw [ba_size, one_size]
  have z2 : ((a ++ ⟨#[62]⟩) ++ b).size = a.size + 1 + b.size := by rw [ba_size, z1]
  have z3 : (((a ++ ⟨#[62]⟩) ++ b) ++ (⟨#[62]⟩ : ByteArray)).size = a.size + 1 + b.size + 1 := by rw [ba_size, z2, one_size]
  have y1 : ((a ++ ⟨#[59]⟩ : ByteArray)).size = a.size + 1 := by rw [ba_size, one_size]
  have y2 : ((a ++ ⟨#[59]⟩) ++ b).size = a.size + 1 + b.size := by rw [ba_size, y1]
  have y3 : (((a ++ ⟨#[59]⟩) ++ b) ++ (⟨#[62]⟩ : ByteArray)).size = a.size + 1 + b.size + 1 := by rw [ba_size, y2, one_size]
  have s0 : ¬ 9223372036854775807 < a.size + (⟨#[62]⟩ : ByteArray).size := by rw [one_size]; omega
  have r0 : ¬ 9223372036854775807 < a.size + (⟨#[59]⟩ : ByteArray).size := by rw [one_size]; omega
  obtain ⟨t1, e1⟩ : ∃ t, a ++ (⟨#[62]⟩ : ByteArray) = t := ⟨_, rfl⟩
  rw [e1] at P1 P3 z1 z2 z3
  have s1 : ¬ 9223372036854775807 < t1.size + b.size := by omega
  obtain ⟨t2, e2⟩ : ∃ t, t1 ++ b = t := ⟨_, rfl⟩
  rw [e2] at P1 P3 z2 z3
  have s2 : ¬ 9223372036854775807 < t2.size + (⟨#[62]⟩ : ByteArray).size := by rw [one_size]; omega
  obtain ⟨t3, e3⟩ : ∃ t, t2 ++ (⟨#[62]⟩ : ByteArray) = t := ⟨_, rfl⟩
  rw [e3] at P1 z3
  have s3 : ¬ 9223372036854775807 < t3.size + c.size := by omega
  obtain ⟨t4, e4⟩ : ∃ t, t3 ++ c = t := ⟨_, rfl⟩
  rw [e4] at P1
  obtain ⟨u1, f1⟩ : ∃ t, a ++ (⟨#[59]⟩ : ByteArray) = t := ⟨_, rfl⟩
  rw [f1] at P2 y1 y2 y3
  have q1 : ¬ 9223372036854775807 < u1.size + b.size := by omega
  obtain ⟨u2, f2⟩ : ∃ t, u1 ++ b = t := ⟨_, rfl⟩
  rw [f2] at P2 y2 y3
  have q2 : ¬ 9223372036854775807 < u2.size + (⟨#[62]⟩ : ByteArray).size := by rw [one_size]; omega
  obtain ⟨u3, f3⟩ : ∃ t, u2 ++ (⟨#[62]⟩ : ByteArray) = t := ⟨_, rfl⟩
  rw [f3] at P2 y3
  have q3 : ¬ 9223372036854775807 < u3.size + c.size := by omega
  obtain ⟨u4, f4⟩ : ∃ t, u3 ++ c = t := ⟨_, rfl⟩
  rw [f4] at P2
  have HP1 := Lib.hid P1
  have HP2 := Lib.hid P2
  have HP3 := Lib.hid P3
  clear P1 P2 P3 z1 z2 z3 y1 y2 y3
  go_enter Tryd.func6, Tryd.ntmps6
  go_wp2_with fail
  refine (alive_c _ (HF.out.below (laidNew W _))).mono ?_
  rintro e w1 ⟨rfl, hb1⟩
  have hb1 := behind (laidNew W _) hb1
  go_wp2_with fail
  refine (beyond3 _ (a.size : Int) (b.size : Int) (c.size : Int) _ (by simp) (by simp) (by simp) (by omega) (by omega) (by omega)).mono ?_
  rintro e w2 ⟨rfl, hw2⟩
  have hb2 : Below W.heap.size W w2 := by rw [← hw2]; exact behind hb1 (laidNew _ _)
  clear hw2 hb1
  go_wp2_with (first
    | (go_at_call 15; (with_reducible refine (HP1.out _ (HF.out.below (behind hb2 (laidNew _ _)))).mono ?_); rintro e w3 ⟨rfl, hb3⟩; have hb2 := behind (behind hb2 (laidNew _ _)) hb3; clear hb3)
    | (go_at_call 15; (with_reducible refine (HP2.out _ (HF.out.below hb2)).mono ?_); rintro e w3 ⟨rfl, hb3⟩; have hb2 := behind hb2 hb3; clear hb3)
    | (go_at_call 15; (with_reducible refine (HP3.out _ (HF.out.below hb2)).mono ?_); rintro e w3 ⟨rfl, hb3⟩; have hb2 := behind hb2 hb3; clear hb3))
  go_ret
  exact ⟨rfl, hb2⟩
set_option maxHeartbeats 4000000 in
theorem walk (a b c : ByteArray) (ha : a.size ≤ 140737488351232) (hb : b.size ≤ 140737488351232) (hc : c.size ≤ 140737488351232) (n : Int) (wn : (Lit.int .u8 n).wf = true) (W : World) (hF : FormsIs W) :
    Calls Tryd.prog 6 #[.agg #[.string a, .string b, .string c], .int .u8 n] W fun e w' => e = .returned (.bool true) ∧ Below W.heap.size W w' := by
  have hn : 0 ≤ n ∧ n ≤ 255 := by simpa [Lit.wf, IntKind.min, IntKind.max, IntKind.signed, IntKind.bits] using wn
  by_cases hbig : 1048576 < a.size + b.size + c.size
  · have HF := Lib.hid hF
    clear hF
    have hd : decide (1048576 < (a.size : Int) + (b.size : Int) + (c.size : Int)) = true := decide_eq_true (by omega)
    go_enter Tryd.func6, Tryd.ntmps6
    go_wp2_with fail
    refine (alive_c _ (HF.out.below (laidNew W _))).mono ?_
    rintro e w1 ⟨rfl, hb1⟩
    have hb1 := behind (laidNew W _) hb1
    go_wp2_with fail
    refine (beyond3 _ (a.size : Int) (b.size : Int) (c.size : Int) _ (by simp) (by simp) (by simp) (by omega) (by omega) (by omega)).mono ?_
    rintro e w2 ⟨rfl, hw2⟩
    have hb2 : Below W.heap.size W w2 := by rw [← hw2]; exact behind hb1 (laidNew _ _)
    clear hw2 hb1
    go_wp2_with fail
    refine (alive_c _ (HF.out.below hb2)).mono ?_
    rintro e w3 ⟨rfl, hb3⟩
    go_wp2
    go_ret
    exact ⟨rfl, behind hb2 hb3⟩
  · rcases (show n % 5 = 0 ∨ n % 5 = 1 ∨ n % 5 = 2 ∨ n % 5 = 3 ∨ n % 5 = 4 by omega) with h | h | h | h | h
    · exact walk_0 a b c (by omega) n hn h W hF
    · exact walk_1 a b c (by omega) n hn h W hF
    · exact walk_2 a b c (by omega) n hn h W hF
    · exact walk_3 a b c (by omega) n hn h W hF
    · exact walk_4 a b c (by omega) n hn h W hF

theorem readable : ∀ t ∈ #[32, 5].toList, Tryd.prog.readableRec t = true ∧ t < Tryd.prog.types.size := by
  intro t ht
  have h : t ∈ ([32, 5] : List TypeId) := ht
  simp only [List.mem_cons, List.not_mem_nil, or_false] at h
  rcases h with rfl | rfl
  · exact ⟨by kernel_rfl, of_decide_eq_true (by kernel_rfl)⟩
  · exact ⟨by kernel_rfl, of_decide_eq_true (by kernel_rfl)⟩

theorem contract (H : Type) (enc : TypeId × Value → H) (W : World) (base : Nat) (args : Array Value) (ds gs : List (DataW H)) (before : List MemPlace)
    (hval : ∀ (j : Nat) t v, Tryd.f6.params[j]? = some t → args[j]? = some v → Value.okWide Tryd.prog W .any base t v)
    (hW : DataW.Whole enc Tryd.prog Tryd.f6.params.toList Rows.termsSignsSpec.vars false W args.toList ds gs before)
    (hz : (DataW.weightsEach Tryd.prog (Tryd.f6.params.toList ++ (OpenSpec.ofChange Rows.termsSignsSpec).bare.plain.varTypes Tryd.prog) (ds ++ gs)).all (· ≤ reachBytes) = true) (hF : FormsIs W) :
    Calls Tryd.prog 6 args W fun e W' => ∃ v, e = .returned v ∧ Rows.termsSignsSpec.post enc Tryd.prog Tryd.f6 false true false false W args v W' := by
  have hW' := hW
  obtain ⟨p, q, hA, hV, rfl, hfz, hnd⟩ := hW
  rw [Tryd.params6] at hA hval
  obtain ⟨v0, vs0, d0, ds0, p0, q0, hargs0, rfl, rfl, h0, r0⟩ := trodAll_cons hA
  obtain ⟨v1, vs1, d1, ds1, p1, q1, hargs1, rfl, rfl, h1, r1⟩ := trodAll_cons r0
  obtain ⟨rfl, rfl, rfl⟩ := trodAll_nil r1
  subst hargs1
  obtain rfl : args = #[v0, v1] := by cases args; simp_all
  obtain ⟨rfl, rfl⟩ := trodVars_none hV
  obtain ⟨s0, t0, u0, rfl, hs0, ht0, hu0⟩ := three_str (hval 0 32 v0 rfl rfl) h0 (fun n hn => by have := List.all_eq_true.1 hz n (DataW.weights_mem_each (j := 0) rfl rfl n hn); simpa using this)
  obtain ⟨n1, rfl, rfl, rfl, wf1⟩ := open_int Tryd.underlying5 (hval 1 5 v1 rfl rfl) h1
  refine (walk s0 t0 u0 hs0 ht0 hu0 n1 wf1 W hF).mono fun e W' ⟨he, hb⟩ => ⟨_, he, law_post rfl rfl ?_ hW' rfl hb⟩
  rw [Tryd.params6]
  exact readable

theorem met (os : Os) : laidMet Tryd.prog Rows.termsSignsRow.laid ((laidWorld os).forCall (fun _ _ => 0) ⟨#[], #[.agg #[.string ⟨#[]⟩, .string ⟨#[]⟩, .string ⟨#[]⟩], .int .u8 0], []⟩).memory :=
  laidMet_of_run' 8 (by kernel_rfl) (by kernel_rfl)
theorem reads (os : Os) {H : Type} (enc : TypeId × Value → H) : ∃ places, DataW.whole enc Tryd.prog ((laidWorld os).forCall (fun _ _ => 0) ⟨#[], #[.agg #[.string ⟨#[]⟩, .string ⟨#[]⟩, .string ⟨#[]⟩], .int .u8 0], []⟩).memory Tryd.f6.params.toList Rows.termsSignsSpec.vars false (#[.agg #[.string ⟨#[]⟩, .string ⟨#[]⟩, .string ⟨#[]⟩], .int .u8 0] : Array Value).toList 8 = some ([.agg [.lit (.string []), .lit (.string []), .lit (.string [])], .lit (.int .u8 0)], [], places) :=
  ⟨[], by kernel_rfl⟩

set_option maxRecDepth 100000 in
theorem lifted (os : Os) (started : os.Started) (H : Type) (enc : TypeId × Value → H) (F : Stop.Interp) :
    ReturnsInHanded {} Tryd.checked os 6 .any ((OpenSpec.ofChange Rows.termsSignsSpec).preRow enc Tryd.prog Tryd.f6 Rows.termsSignsRow.domain false Rows.termsSignsRow.laid) (((OpenSpec.ofChange Rows.termsSignsSpec).at F).post enc Tryd.prog Tryd.f6 false true false false) := by
  obtain ⟨places, hx⟩ := reads os enc
  refine returnsInHanded_of_row (C := Tryd.checked) (s := OpenSpec.ofChange Rows.termsSignsSpec) own started (by kernel_rfl) Tryd.func6
    (witness_row_at (enc := enc) (C := Tryd.checked) false (laidWorld os) #[.agg #[.string ⟨#[]⟩, .string ⟨#[]⟩, .string ⟨#[]⟩], .int .u8 0] rfl (by kernel_rfl) (by kernel_rfl) (by kernel_rfl)
      (OpenSpec.preRow_of_cond 8 hx (by kernel_rfl) (fun k hk => by cases hk) (by kernel_rfl) (met os))) ?_
  intro W base args ds gs before hval hW _ _ hz hL _ _
  exact contract H enc W base args ds gs before hval hW hz (forms_of (show laidMet Tryd.prog Rows.termsSignsRow.laid W from hL) (.tail _ (.head _)))

theorem said : Rows.TermsSignsSaid :=
  OpenClaim.holds_of_cond 6 Tryd.f6 rfl rfl rfl rfl rfl rfl rfl ⟨rfl, rfl, rfl, rfl, rfl⟩ rfl rfl rfl rfl rfl (by kernel_rfl) Tryd.func6 (by kernel_rfl)
    (of_decide_eq_true (by kernel_rfl)) (by unfold Func.isWrapper; first | (rw [if_pos (by decide +kernel)]; kernel_rfl) | (rw [if_neg (by decide +kernel)]; exact ⟨rfl, rfl⟩))
    (fun os started H enc _ F => by rw [OpenClaim.pre_eq_preRow]; exact lifted os started H enc F)

theorem plain (f : FuncId) (fn : Func) (hf : Tryd.pinned.checked.prog.funcNamed "bindery/binderylaw07.TermsSigns" = some f) (hfn : Tryd.pinned.checked.prog.funcs[f]? = some fn) :
    false = Tryd.pinned.checked.prog.looks [] ∧ ∀ (j : Nat) t, fn.params[j]? = some t → Tryd.pinned.checked.prog.wantsStandIn t = false := by
  obtain rfl : f = 6 := Option.some.inj ((show Tryd.prog.funcNamed "bindery/binderylaw07.TermsSigns" = some 6 by kernel_rfl).symm.trans hf) |>.symm
  obtain rfl : fn = Tryd.f6 := (Option.some.inj (Tryd.func6.symm.trans hfn)).symm
  refine ⟨by kernel_rfl, fun j t ht => ?_⟩
  rw [Tryd.params6] at ht
  have h : t ∈ ([32, 5] : List TypeId) := Array.mem_toList_iff.2 (Array.mem_of_getElem? ht)
  simp only [List.mem_cons, List.not_mem_nil, or_false] at h
  rcases h with rfl | rfl
  · exact (show Tryd.prog.wantsStandIn 32 = false by kernel_rfl)
  · exact (show Tryd.prog.wantsStandIn 5 = false by kernel_rfl)

theorem card : Rows.TermsSignsCardSaid :=
  Claim7.holds_tied_plain_at .later [] _ _ _ _ said (fun _ h => by cases h) (by kernel_rfl) (fun _ h => by cases h) termsSigns_row_tie rfl ⟨rfl, rfl⟩ (by kernel_rfl) rfl plain (by kernel_rfl)
end Go.Proofs.YtdbhlnokhfflmaaDoor.signsLaw
