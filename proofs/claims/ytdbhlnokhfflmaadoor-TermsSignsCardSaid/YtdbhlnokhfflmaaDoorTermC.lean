import Derived.Test.YtdbhlnokhfflmaaDoorIdxT
import Derived.Test.YtdbhlnokhfflmaaDoorUnder
import Derived.Test.YtdbhlnokhfflmaaDoorShelf
import Derived.BigQuiet
import Derived.Deep.QuietTactic
import Derived.IntWalk
namespace Go.Proofs.YtdbhlnokhfflmaaDoor
open Go.RowKit
set_option maxRecDepth 100000

/-! ### strings.Cut at a sign of one byte, strings.Trim, and both -/
theorem index_no {c : UInt8} : ∀ {l : List UInt8}, c ∉ l → Lib.indexByte l c = -1
  | [], _ => rfl
  | d :: t, h => by
    have hd : ¬ d = c := fun e => h (by simp [e])
    unfold Lib.indexByte
    rw [index_no (l := t) (fun e => h (List.mem_cons_of_mem _ e))]
    simp [hd]
theorem index_in {c : UInt8} (b : List UInt8) : ∀ {a : List UInt8}, c ∉ a → Lib.indexByte (a ++ c :: b) c = (a.length : Int)
  | [], _ => by simp [Lib.indexByte]
  | d :: t, h => by
    have hd : ¬ d = c := fun e => h (by simp [e])
    have ih := index_in b (a := t) (fun e => h (List.mem_cons_of_mem _ e))
    rw [List.cons_append]
    unfold Lib.indexByte
    rw [ih]
    have : ((t.length : Int) == -1) = false := by rw [beq_eq_false_iff_ne]; omega
    simp [hd, this]
theorem extract_list (s : ByteArray) (a : Nat) : (s.extract a s.size).data.toList = s.data.toList.drop a := by
  rw [ByteArray.data_extract, Array.toList_extract]; unfold List.extract
  rw [List.take_of_length_le]
  simp
theorem extract_take (s : ByteArray) (n : Nat) : (s.extract 0 n).data.toList = s.data.toList.take n := by
  rw [ByteArray.data_extract, Array.toList_extract]; unfold List.extract
  simp
theorem slCut_at (s : ByteArray) (c : UInt8) (i : Nat) (w : World) (hs : s.size ≤ 140737488351232) (hi : i < s.size) (h : Lib.indexByte s.data.toList c = i) :
    Calls Tryd.prog 33 #[.string s, .string ⟨#[c]⟩] w fun e w' => e = .returned (.tuple #[.string (s.extract 0 i), .string (s.extract (i + 1) s.size), .bool true]) ∧ ∃ q, w' = w.drewN q := by
  have hI := Tryd.stringslite_Index_one s c w
  rw [h] at hI
  have c1 : (0 : Int) ≤ (i : Int) := by omega
  have c2 : (i : Int) ≤ (s.size : Int) := by omega
  have c3 : (0 : Int) ≤ (i : Int) + 1 := by omega
  have c4 : (i : Int) + 1 ≤ (s.size : Int) := by omega
  have c5 : IntKind.i64.wrap ((i : Int) + 1) = (i : Int) + 1 := by rw [IntKind.wrap_i64]; omega
  have c6 : ((i : Int) + 1).toNat = i + 1 := by omega
  go_enter Tryd.func33, Tryd.ntmps33
  go_wp2_with (go_at_call 42; refine hI.mono ?_; rintro e w2 ⟨rfl, rfl⟩)
  go_quiet (fail)
  go_wp2
  go_ret3
  exact ⟨rfl, _, rfl⟩
theorem slCut_no (s : ByteArray) (c : UInt8) (w : World) (h : Lib.indexByte s.data.toList c = -1) :
    Calls Tryd.prog 33 #[.string s, .string ⟨#[c]⟩] w fun e w' => e = .returned (.tuple #[.string s, .string ⟨#[]⟩, .bool false]) ∧ ∃ q, w' = w.drewN q := by
  have hI := Tryd.stringslite_Index_one s c w
  rw [h] at hI
  go_enter Tryd.func33, Tryd.ntmps33
  go_wp2_with (go_at_call 42; refine hI.mono ?_; rintro e w2 ⟨rfl, rfl⟩)
  go_ret3
  exact ⟨rfl, 0, rfl⟩
theorem sCut_any (s : ByteArray) (c : UInt8) (w : World) (hs : s.size ≤ 140737488351232) :
    Calls Tryd.prog 30 #[.string s, .string ⟨#[c]⟩] w fun e w' => e = .returned (.tuple #[.string (bT (s.data.toList.takeWhile (fun x => x != c))), .string (bT ((s.data.toList.dropWhile (fun x => x != c)).drop 1)), .bool (cutF c s.data.toList)]) ∧ Below w.heap.size w w' := by
  have hz : s.data.toList.length = s.size := by simp
  by_cases hc : c ∈ s.data.toList
  · obtain ⟨a, b, h, ha⟩ := first_of hc
    have hl : s.size = a.length + 1 + b.length := by rw [← hz, h]; simp; omega
    have hC := slCut_at s c a.length w hs (by omega) (by rw [h]; exact index_in b ha)
    have h1 : ∀ x ∈ a, (x != c) = true := fun x hx => by rw [bne_iff_ne]; exact fun e => ha (e ▸ hx)
    have e1 : s.extract 0 a.length = bT (s.data.toList.takeWhile (fun x => x != c)) := bT_eq (by rw [extract_take, h, List.take_left, List.takeWhile_append_of_pos h1]; simp)
    have e2 : s.extract (a.length + 1) s.size = bT ((s.data.toList.dropWhile (fun x => x != c)).drop 1) := bT_eq (by rw [extract_list, h, List.drop_append, List.dropWhile_append_of_pos h1]; simp)
    have e3 : cutF c s.data.toList = true := decide_eq_true hc
    rw [e1, e2] at hC
    rw [e3]
    clear e1 e2 e3 hl hz h hc h1
    generalize bT (s.data.toList.takeWhile (fun x => x != c)) = ta at *
    generalize bT ((s.data.toList.dropWhile (fun x => x != c)).drop 1) = tb at *
    go_enter Tryd.func30, Tryd.ntmps30
    go_wp2_with (go_at_call 33; refine hC.mono ?_; rintro e w2 ⟨rfl, q, hw2⟩)
    go_ret3
    exact ⟨rfl, below_drewN (Below.refl _ _) q⟩
  · have hC := slCut_no s c w (index_no hc)
    have h1 : ∀ x ∈ s.data.toList, (x != c) = true := fun x hx => by rw [bne_iff_ne]; exact fun e => hc (e ▸ hx)
    rw [take_self h1, drop_nil h1, show cutF c s.data.toList = false from decide_eq_false hc, bT_data, show bT (List.drop 1 []) = ⟨#[]⟩ from rfl]
    clear h1 hc hz
    go_enter Tryd.func30, Tryd.ntmps30
    go_wp2_with (go_at_call 33; refine hC.mono ?_; rintro e w2 ⟨rfl, q, hw2⟩)
    go_ret3
    exact ⟨rfl, below_drewN (Below.refl _ _) q⟩
def blk2 : ByteArray := ⟨#[32, 9]⟩
theorem bl2_ascii : ∀ (j : Nat) (b : UInt8), blk2.data.toList[j]? = some b → b.toNat < 128 := Go.Proofs.ascii_of_all (l := blk2.data.toList) (by decide)
theorem trim_c (s : ByteArray) (w : World) (hs : s.size ≤ 140737488351232) : Calls Tryd.prog 31 #[.string s, .string blk2] w fun e w' => e = .returned (.string (bT (trimL s.data.toList))) ∧ Below w.heap.size w w' := by
  have := Any.strings_Trim_laid Tryd.lays160 zero256 s blk2 w (by omega) (by decide) bl2_ascii
  refine Calls.mono this ?_
  rintro e w' ⟨rfl, hb⟩
  exact ⟨by rw [← trim_same]; rfl, hb⟩
theorem tw_size (p : UInt8 → Bool) (s : ByteArray) : (bT (s.data.toList.takeWhile p)).size ≤ s.size := by
  rw [bT_size]
  have h1 := (List.takeWhile_prefix (l := s.data.toList) p).length_le
  have h2 : s.data.toList.length = s.size := by simp
  omega
theorem dw_size (p : UInt8 → Bool) (s : ByteArray) : (bT ((s.data.toList.dropWhile p).drop 1)).size ≤ s.size := by
  rw [bT_size, List.length_drop]
  have h1 := (List.dropWhile_suffix (l := s.data.toList) p).length_le
  have h2 : s.data.toList.length = s.size := by simp
  omega
set_option maxHeartbeats 1000000 in
theorem cut_c (s : ByteArray) (c : UInt8) (w : World) (hs : s.size ≤ 140737488351232) : Calls Tryd.prog 23 #[.string s, .string ⟨#[c]⟩] w fun e w' =>
    e = .returned (.tuple #[.string (bT (cutA c s.data.toList)), .string (bT (cutB c s.data.toList)), .bool (cutF c s.data.toList)]) ∧ Below w.heap.size w w' := by
  have hC := fun w => sCut_any s c w hs
  have z1 := tw_size (fun x => x != c) s
  have z2 := dw_size (fun x => x != c) s
  have hT1 := fun w => trim_c _ w (Nat.le_trans z1 hs)
  have hT2 := fun w => trim_c _ w (Nat.le_trans z2 hs)
  rw [bT_list] at hT1 hT2
  rw [show trimL (s.data.toList.takeWhile (fun x => x != c)) = cutA c s.data.toList from rfl] at hT1
  rw [show trimL ((s.data.toList.dropWhile (fun x => x != c)).drop 1) = cutB c s.data.toList from rfl] at hT2
  unfold blk2 at hT1 hT2
  generalize bT (s.data.toList.takeWhile (fun x => x != c)) = ta at *
  generalize bT ((s.data.toList.dropWhile (fun x => x != c)).drop 1) = tb at *
  generalize bT (cutA c s.data.toList) = ra at *
  generalize bT (cutB c s.data.toList) = rb at *
  generalize cutF c s.data.toList = q at *
  clear z1 z2
  go_enter Tryd.func23, Tryd.ntmps23
  go_wp2_with (first
    | (go_at_call 30; (with_reducible refine (hC _).mono ?_); rintro e w2 ⟨rfl, hb2⟩)
    | (go_at_call 31; (with_reducible refine (hT1 _).mono ?_); rintro e w3 ⟨rfl, hb3⟩)
    | (go_at_call 31; (with_reducible refine (hT2 _).mono ?_); rintro e w4 ⟨rfl, hb4⟩))
  go_ret3
  exact ⟨rfl, behind (behind hb2 hb3) hb4⟩
end Go.Proofs.YtdbhlnokhfflmaaDoor
