/- Merged: CutC, NextC, PartC, LinesC, FindC. -/
import Derived.Test.YtbhlnemahhndoaaGreatDoorShelf
import Derived.Test.YtbhlnemahhndoaaGreatDoorU4
import Derived.BigQuiet
import Derived.Deep.QuietTactic
import Derived.IntWalk
import Derived.Test.YtbhlnemahhndoaaGreatDoorU16
namespace Go.Proofs.YtbhlnemahhndoaaGreatDoor
open Go.RowKit
set_option maxRecDepth 100000

theorem slCut_at (s : ByteArray) (c : UInt8) (i : Nat) (w : World) (hs : s.size ≤ 140737488351232) (hi : i < s.size) (h : Lib.indexByte s.data.toList c = i) :
    Calls Tryz.prog 158 #[.string s, .string ⟨#[c]⟩] w fun e w' => e = .returned (.tuple #[.string (s.extract 0 i), .string (s.extract (i + 1) s.size), .bool true]) ∧ ∃ q, w' = w.drewN q := by
  have hI := Tryz.stringslite_Index_one s c w
  rw [h] at hI
  have c1 : (0 : Int) ≤ (i : Int) := by omega
  have c2 : (i : Int) ≤ (s.size : Int) := by omega
  have c3 : (0 : Int) ≤ (i : Int) + 1 := by omega
  have c4 : (i : Int) + 1 ≤ (s.size : Int) := by omega
  have c5 : IntKind.i64.wrap ((i : Int) + 1) = (i : Int) + 1 := by rw [IntKind.wrap_i64]; omega
  have c6 : ((i : Int) + 1).toNat = i + 1 := by omega
  go_enter Tryz.func158, Tryz.ntmps158
  go_wp2_with (go_at_call 180; refine hI.mono ?_; rintro e w2 ⟨rfl, rfl⟩)
  go_quiet (fail)
  go_wp2
  go_ret3
  exact ⟨rfl, _, rfl⟩
theorem slCut_no (s : ByteArray) (c : UInt8) (w : World) (h : Lib.indexByte s.data.toList c = -1) :
    Calls Tryz.prog 158 #[.string s, .string ⟨#[c]⟩] w fun e w' => e = .returned (.tuple #[.string s, .string ⟨#[]⟩, .bool false]) ∧ ∃ q, w' = w.drewN q := by
  have hI := Tryz.stringslite_Index_one s c w
  rw [h] at hI
  go_enter Tryz.func158, Tryz.ntmps158
  go_wp2_with (go_at_call 180; refine hI.mono ?_; rintro e w2 ⟨rfl, rfl⟩)
  go_ret3
  exact ⟨rfl, 0, rfl⟩
theorem bT_eq {s : ByteArray} {l : List UInt8} (h : s.data.toList = l) : s = bT l := by rw [← h, bT_data]
theorem cut_at (s : ByteArray) (c : UInt8) (a b : List UInt8) (w : World) (hs : s.size ≤ 140737488351232) (h : s.data.toList = a ++ c :: b) (hc : c ∉ a) :
    Calls Tryz.prog 109 #[.string s, .string ⟨#[c]⟩] w fun e w' => e = .returned (.tuple #[.string (bT a), .string (bT b), .bool true]) ∧ Below w.heap.size w w' := by
  have hz : s.data.toList.length = s.size := by simp
  have hl : s.size = a.length + 1 + b.length := by rw [← hz, h]; simp; omega
  have hi : Lib.indexByte s.data.toList c = (a.length : Int) := by
    rcases index_at c s.data.toList with ⟨h1, _⟩ | ⟨a', b', h1, h2, h3⟩
    · exact absurd (by rw [h]; simp) h1
    · obtain ⟨rfl, rfl⟩ := first_one (h1.symm.trans h) h2 hc
      exact h3
  have hC := slCut_at s c a.length w hs (by omega) hi
  have e1 : s.extract 0 a.length = bT a := bT_eq (by rw [extract_take, h, List.take_left])
  have e2 : s.extract (a.length + 1) s.size = bT b := bT_eq (by rw [extract_list, h, List.drop_append]; simp)
  rw [e1, e2] at hC
  clear e1 e2 hi hl hz h
  go_enter Tryz.func109, Tryz.ntmps109
  go_wp2_with (go_at_call 158; refine hC.mono ?_; rintro e w2 ⟨rfl, q, hw2⟩)
  go_ret3
  exact ⟨rfl, below_drewN (Below.refl _ _) q⟩
theorem cut_no (s : ByteArray) (c : UInt8) (w : World) (hc : c ∉ s.data.toList) :
    Calls Tryz.prog 109 #[.string s, .string ⟨#[c]⟩] w fun e w' => e = .returned (.tuple #[.string s, .string ⟨#[]⟩, .bool false]) ∧ Below w.heap.size w w' := by
  have hi : Lib.indexByte s.data.toList c = -1 := by
    rcases index_at c s.data.toList with ⟨_, h2⟩ | ⟨a', b', h1, h2, h3⟩
    · exact h2
    · exact absurd (by rw [h1]; simp) hc
  have hC := slCut_no s c w hi
  go_enter Tryz.func109, Tryz.ntmps109
  go_wp2_with (go_at_call 158; refine hC.mono ?_; rintro e w2 ⟨rfl, q, hw2⟩)
  go_ret3
  exact ⟨rfl, below_drewN (Below.refl _ _) q⟩
end Go.Proofs.YtbhlnemahhndoaaGreatDoor
namespace Go.Proofs.YtbhlnemahhndoaaGreatDoor
open Go.RowKit
set_option maxRecDepth 100000

/-- what next answers -/
def nextV (s : ByteArray) : Option (List UInt8 × List UInt8 × List UInt8) → Value
  | none => .tuple #[.string s, .string ⟨#[]⟩, .string ⟨#[]⟩]
  | some (a, nm, b) => .tuple #[.string (bT a), .string (bT nm), .string (bT b)]
theorem next_none {s : ByteArray} {o : Option (List UInt8 × List UInt8 × List UInt8)} (h : o = none) : Value.tuple #[.string s, .string ⟨#[]⟩, .string ⟨#[]⟩] = nextV s o := by rw [h]; rfl
theorem next_some {s a nm b : ByteArray} {o : Option (List UInt8 × List UInt8 × List UInt8)} (h : o = some (a.data.toList, nm.data.toList, b.data.toList)) : Value.tuple #[.string a, .string nm, .string b] = nextV s o := by
  rw [h]; show _ = Value.tuple #[.string (bT a.data.toList), .string (bT nm.data.toList), .string (bT b.data.toList)]; rw [bT_data, bT_data, bT_data]

set_option maxHeartbeats 4000000 in
theorem next_c (s : ByteArray) (w : World) (hs : s.size ≤ 140737488351232) : Calls Tryz.prog 39 #[.string s] w fun e w' => e = .returned (nextV s (nextL s.data.toList)) ∧ Below w.heap.size w w' := by
  have HZ := Lib.hid (show s.data.toList.length = s.size by simp)
  go_enter Tryz.func39, Tryz.ntmps39
  go_wp2
  go_loopw [12] (fun i wr => ∃ k : Nat, k ≤ s.size ∧ i = .int .i64 k ∧ nextL s.data.toList = nextK s.data.toList k ∧ Below w.heap.size w wr) (fun i _ => s.size - (intOf i).toNat)
  case atStart => exact ⟨0, by omega, rfl, (nextK_zero _).symm, Below.refl _ _⟩
  case round =>
    obtain ⟨k, hk, rfl, hn, hbel⟩ := hrel
    have HN := Lib.hid hn
    clear hn
    by_cases hlt : k < s.size
    · have hlt' : k < s.data.toList.length := by rw [HZ.out]; exact hlt
      have HS := Lib.hid (fun h => nextK_none s.data.toList k hlt' h)
      have hdrop : s.data.toList.drop k = s[k] :: s.data.toList.drop (k + 1) := by rw [List.drop_eq_getElem_cons hlt']; congr 1
      have e1 : IntKind.i64.wrap ((k : Int) + 1) = ((k + 1 : Nat) : Int) := by rw [IntKind.wrap_i64]; omega
      by_cases h123 : s[k] = 123
      · have hne : ((s[k].toNat : Int) != 123) = false := by rw [h123]; rfl
        obtain ⟨r, hr⟩ : ∃ r : ByteArray, s.extract (k + 1) s.size = r := ⟨_, rfl⟩
        have hrl : r.data.toList = s.data.toList.drop (k + 1) := by rw [← hr, extract_list]
        have hrz : r.size ≤ s.size := by
          have h1 : r.data.toList.length = r.size := by simp
          have h2 := HZ.out
          rw [hrl, List.length_drop] at h1; omega
        rw [h123, ← hrl] at hdrop
        obtain ⟨u, hu⟩ : ∃ u : ByteArray, r.extract 0 (min r.size 61) = u := ⟨_, rfl⟩
        have hul : u.data.toList = r.data.toList.take 61 := by
          rw [← hu, extract_take]
          have h1 : r.data.toList.length = r.size := by simp
          by_cases h : r.size ≤ 61
          · rw [Nat.min_eq_left h, List.take_of_length_le (by omega), List.take_of_length_le (by omega)]
          · rw [Nat.min_eq_right (by omega)]
        have huz : u.size ≤ 61 := by
          have h1 : u.data.toList.length = u.size := by simp
          rw [hul, List.length_take] at h1; omega
        have hmin : min (r.size : Int) 61 = ((min r.size 61 : Nat) : Int) := by omega
        rcases index_at 125 u.data.toList with ⟨hi, _⟩ | ⟨p, q, hpq, hp, _⟩
        · have HY : Hid (nextL s.data.toList = nextK s.data.toList (k + 1)) := Lib.hid (by rw [HN.out]; exact HS.out (by rw [hdrop]; exact asked_no (by rw [← hul]; exact hi)))
          have hC := fun w => cut_no u 125 w hi
          clear hdrop hul hi HS hrl
          go_wp2_with (go_at_call 109; refine (hC _).mono ?_; rintro e w2 ⟨rfl, hb2⟩)
          go_roundw
          case rel => exact ⟨k + 1, by omega, by go_num, HY.out, behind hbel hb2⟩
          case measure => simp [intOf]; omega
        · have hak := asked_cut (t := r.data.toList) (by rw [← hul]; exact hpq) hp
          rw [← hdrop] at hak
          obtain ⟨pb, hpb⟩ : ∃ pb : ByteArray, bT p = pb := ⟨_, rfl⟩
          have hpl : pb.data.toList = p := by rw [← hpb]; exact bT_list p
          have hC := fun w => cut_at u 125 p q w (by omega) hpq hp
          rw [hpb] at hC
          have hpz : pb.size + 1 ≤ u.size := by
            have h1 : u.data.toList.length = u.size := by simp
            have h2 : pb.data.toList.length = pb.size := by simp
            rw [hpl] at h2
            rw [hpq] at h1
            simp at h1; omega
          have huz2 : u.size ≤ r.size := by
            have h1 : u.data.toList.length = u.size := by simp
            have h2 : r.data.toList.length = r.size := by simp
            rw [hul, List.length_take] at h1; omega
          have hNm := fun w => name_any pb w (by unfold maxLen; omega)
          rw [← hpl] at hak
          cases hname : nameB pb.data.toList with
          | false =>
            have HY : Hid (nextL s.data.toList = nextK s.data.toList (k + 1)) := Lib.hid (by rw [HN.out]; exact HS.out (by rw [hak, hname]; rfl))
            rw [hname] at hNm
            clear hdrop hul HS hrl hak hpl hpb hpq hp hname
            go_wp2_with (first | (go_at_call 109; refine (hC _).mono ?_; rintro e w2 ⟨rfl, hb2⟩) | (go_at_call 37; refine (hNm _).mono ?_; rintro e w3 ⟨rfl, rfl⟩))
            go_roundw
            case rel => exact ⟨k + 1, by omega, by go_num, HY.out, behind hbel hb2⟩
            case measure => simp [intOf]; omega
          | true =>
            obtain ⟨sa, hsa⟩ : ∃ sa : ByteArray, s.extract 0 k = sa := ⟨_, rfl⟩
            obtain ⟨rb, hrb⟩ : ∃ rb : ByteArray, r.extract (pb.size + 1) r.size = rb := ⟨_, rfl⟩
            have HY : Hid (nextL s.data.toList = some (sa.data.toList, pb.data.toList, rb.data.toList)) := Lib.hid (by
              rw [HN.out, nextK_some _ _ hlt' (nm := pb.data.toList) (by rw [hak, hname]; rfl), ← hsa, ← hrb, extract_take, extract_list, ← hrl]
              congr 3)
            rw [hname] at hNm
            clear hdrop hul HS hrl hak hpl hpb hpq hp hname
            have e5 : IntKind.i64.wrap ((pb.size : Int) + 1) = ((pb.size + 1 : Nat) : Int) := by rw [IntKind.wrap_i64]; omega
            have e6 : (((pb.size + 1 : Nat) : Int)).toNat = pb.size + 1 := by omega
            have e7 : (0 : Int) ≤ ((pb.size + 1 : Nat) : Int) := by omega
            have e8 : ((pb.size + 1 : Nat) : Int) ≤ (r.size : Int) := by omega
            have e9 : (k : Int) ≤ (s.size : Int) := by omega
            go_wp2_with (first | (go_at_call 109; refine (hC _).mono ?_; rintro e w2 ⟨rfl, hb2⟩) | (go_at_call 37; refine (hNm _).mono ?_; rintro e w3 ⟨rfl, rfl⟩))
            go_quiet (fail)
            go_wp2
            go_ret3
            exact ⟨ret_v (next_some HY.out), below_drewN (behind hbel hb2) _⟩
      · have hne : ((s[k].toNat : Int) != 123) = true := by
          simp only [bne_iff_ne, ne_eq]
          intro e; exact h123 (UInt8.toNat_inj.1 (by show s[k].toNat = 123; omega))
        have HY : Hid (nextL s.data.toList = nextK s.data.toList (k + 1)) := Lib.hid (by rw [HN.out]; exact HS.out (by rw [hdrop]; exact asked_other _ h123))
        clear hdrop h123 HS
        go_wp2
        go_roundw
        case rel => exact ⟨k + 1, by omega, by go_num, HY.out, hbel⟩
        case measure => simp [intOf]; omega
    · have HE : Hid (nextL s.data.toList = none) := Lib.hid (by rw [HN.out]; exact nextK_end _ _ (by rw [HZ.out]; omega))
      go_wp2
      go_ret3
      exact ⟨ret_v (next_none HE.out), hbel⟩
end Go.Proofs.YtbhlnemahhndoaaGreatDoor
namespace Go.Proofs.YtbhlnemahhndoaaGreatDoor
open Go.RowKit
set_option maxRecDepth 100000

theorem pre_yes (t : List UInt8) : Lib.hasPrefix (33 :: t) [33] = true ∧ Lib.trimPrefix (33 :: t) [33] = t := by
  have h : Lib.hasPrefix (33 :: t) [33] = true := by simp [Lib.hasPrefix]
  exact ⟨h, by unfold Lib.trimPrefix; rw [if_pos h]; rfl⟩
theorem pre_no {l : List UInt8} (h : l.head? ≠ some 33) : Lib.hasPrefix l [33] = false ∧ Lib.trimPrefix l [33] = l := by
  have h1 : Lib.hasPrefix l [33] = false := by
    cases l with
    | nil => rfl
    | cons x l =>
      have : ¬ 33 = x := fun e => h (by rw [← e]; rfl)
      show ((33 : UInt8) == x && ([] : List UInt8).isPrefixOf l) = false
      rw [beq_eq_false_iff_ne.2 this]; rfl
  exact ⟨h1, by unfold Lib.trimPrefix; rw [if_neg (by rw [h1]; decide)]⟩
theorem suf_yes (a : List UInt8) : Lib.hasSuffix (a ++ [33]) [33] = true ∧ Lib.trimSuffix (a ++ [33]) [33] = a := by
  have h : Lib.hasSuffix (a ++ [33]) [33] = true := by
    unfold Lib.hasSuffix
    rw [List.isSuffixOf_iff_suffix]
    exact List.suffix_append a [33]
  exact ⟨h, by unfold Lib.trimSuffix; rw [if_pos h]; simp⟩
theorem suf_no {a : List UInt8} (h : a.getLast? ≠ some 33) : Lib.hasSuffix a [33] = false ∧ Lib.trimSuffix a [33] = a := by
  have h1 : Lib.hasSuffix a [33] = false := by
    cases e : Lib.hasSuffix a [33] with
    | false => rfl
    | true =>
      unfold Lib.hasSuffix at e
      rw [List.isSuffixOf_iff_suffix] at e
      obtain ⟨t, rfl⟩ := e
      exact absurd (by simp) h
  exact ⟨h1, by unfold Lib.trimSuffix; rw [if_neg (by rw [h1]; decide)]⟩

theorem parts_not (s : ByteArray) (t : List UInt8) (w : World) (h : s.data.toList = 33 :: t) :
    Calls Tryz.prog 218 #[.string s] w fun e w' => e = .returned (.tuple #[.string ⟨#[33]⟩, .string (bT t), .string ⟨#[]⟩]) ∧ Below w.heap.size w w' := by
  have hP := Tryz.strings_CutPrefix s ⟨#[33]⟩ w
  obtain ⟨e1, e2⟩ := pre_yes t
  rw [show (⟨#[33]⟩ : ByteArray).data.toList = [33] from rfl, h, e1, e2] at hP
  rw [show (⟨t.toArray⟩ : ByteArray) = bT t from rfl] at hP
  clear e1 e2 h
  go_enter Tryz.func218, Tryz.ntmps218
  go_wp2_with (go_at_call 242; refine hP.mono ?_; rintro e w2 ⟨rfl, rfl⟩)
  go_ret3
  exact ⟨rfl, Below.refl _ _⟩
theorem parts_is (s : ByteArray) (w : World) (h : s.data.toList.head? ≠ some 33) (h6 : (61 : UInt8) ∉ s.data.toList) :
    Calls Tryz.prog 218 #[.string s] w fun e w' => e = .returned (.tuple #[.string ⟨#[]⟩, .string s, .string ⟨#[]⟩]) ∧ Below w.heap.size w w' := by
  have hP := Tryz.strings_CutPrefix s ⟨#[33]⟩ w
  obtain ⟨e1, e2⟩ := pre_no h
  rw [show (⟨#[33]⟩ : ByteArray).data.toList = [33] from rfl, e1, e2] at hP
  rw [show (⟨s.data.toList.toArray⟩ : ByteArray) = s from bT_data s] at hP
  have hC := cut_no s 61 w h6
  clear e1 e2 h h6
  go_enter Tryz.func218, Tryz.ntmps218
  go_wp2_with (first | (go_at_call 242; refine hP.mono ?_; rintro e w2 ⟨rfl, rfl⟩) | (go_at_call 109; refine hC.mono ?_; rintro e w3 ⟨rfl, hb3⟩))
  go_ret3
  exact ⟨rfl, hb3⟩
theorem partC_ne (s : ByteArray) (a b : List UInt8) (w : World) (hs : s.size ≤ 140737488351232) (h : s.data.toList.head? ≠ some 33) (h6 : (61 : UInt8) ∉ a) (hs2 : s.data.toList = a ++ 33 :: 61 :: b) :
    Calls Tryz.prog 218 #[.string s] w fun e w' => e = .returned (.tuple #[.string ⟨#[33, 61]⟩, .string (bT a), .string (bT b)]) ∧ Below w.heap.size w w' := by
  have hP := Tryz.strings_CutPrefix s ⟨#[33]⟩ w
  obtain ⟨e1, e2⟩ := pre_no h
  rw [show (⟨#[33]⟩ : ByteArray).data.toList = [33] from rfl, e1, e2] at hP
  rw [show (⟨s.data.toList.toArray⟩ : ByteArray) = s from bT_data s] at hP
  have hC := cut_at s 61 (a ++ [33]) b w hs (by rw [hs2]; simp) (by simp; exact h6)
  have hz : (bT (a ++ [33])).size ≤ 9223372036854775807 := by
    have h1 : s.data.toList.length = s.size := by simp
    have h2 : (bT (a ++ [33])).size = (a ++ [33]).length := by show (a ++ [33]).toArray.size = _; simp
    rw [hs2] at h1; rw [h2]; simp at h1 ⊢; omega
  have hS := fun w => Tryz.strings_CutSuffix (bT (a ++ [33])) ⟨#[33]⟩ w hz
  obtain ⟨e3, e4⟩ := suf_yes a
  rw [show (⟨#[33]⟩ : ByteArray).data.toList = [33] from rfl, bT_list, e3, e4] at hS
  rw [show (⟨a.toArray⟩ : ByteArray) = bT a from rfl] at hS
  clear e1 e2 e3 e4 h h6 hs2 hz
  go_enter Tryz.func218, Tryz.ntmps218
  go_wp2_with (first | (go_at_call 242; refine hP.mono ?_; rintro e w2 ⟨rfl, rfl⟩) | (go_at_call 109; refine hC.mono ?_; rintro e w3 ⟨rfl, hb3⟩) | (go_at_call 243; refine (hS _).mono ?_; rintro e w4 ⟨rfl, rfl⟩))
  go_ret3
  exact ⟨rfl, hb3⟩
theorem parts_eq (s : ByteArray) (a b : List UInt8) (w : World) (hs : s.size ≤ 140737488351232) (h : s.data.toList.head? ≠ some 33) (h6 : (61 : UInt8) ∉ a) (h3 : a.getLast? ≠ some 33) (hs2 : s.data.toList = a ++ 61 :: b) :
    Calls Tryz.prog 218 #[.string s] w fun e w' => e = .returned (.tuple #[.string ⟨#[61]⟩, .string (bT a), .string (bT b)]) ∧ Below w.heap.size w w' := by
  have hP := Tryz.strings_CutPrefix s ⟨#[33]⟩ w
  obtain ⟨e1, e2⟩ := pre_no h
  rw [show (⟨#[33]⟩ : ByteArray).data.toList = [33] from rfl, e1, e2] at hP
  rw [show (⟨s.data.toList.toArray⟩ : ByteArray) = s from bT_data s] at hP
  have hC := cut_at s 61 a b w hs hs2 h6
  have hz : (bT a).size ≤ 9223372036854775807 := by
    have h1 : s.data.toList.length = s.size := by simp
    have h2 : (bT a).size = a.length := by show a.toArray.size = _; simp
    rw [hs2] at h1; rw [h2]; simp at h1 ⊢; omega
  have hS := fun w => Tryz.strings_CutSuffix (bT a) ⟨#[33]⟩ w hz
  obtain ⟨e3, e4⟩ := suf_no h3
  rw [show (⟨#[33]⟩ : ByteArray).data.toList = [33] from rfl, bT_list, e3, e4] at hS
  rw [show (⟨a.toArray⟩ : ByteArray) = bT a from rfl] at hS
  clear e1 e2 e3 e4 h h6 hs2 hz h3
  go_enter Tryz.func218, Tryz.ntmps218
  go_wp2_with (first | (go_at_call 242; refine hP.mono ?_; rintro e w2 ⟨rfl, rfl⟩) | (go_at_call 109; refine hC.mono ?_; rintro e w3 ⟨rfl, hb3⟩) | (go_at_call 243; refine (hS _).mono ?_; rintro e w4 ⟨rfl, rfl⟩))
  go_ret3
  exact ⟨rfl, hb3⟩
end Go.Proofs.YtbhlnemahhndoaaGreatDoor
namespace Go.Proofs.YtbhlnemahhndoaaGreatDoor
open Go.RowKit

/-- the lparts of a text between its bytes 10 -/
def lparts : List UInt8 → List (List UInt8)
  | [] => [[]]
  | c :: l => if c = 10 then [] :: lparts l else (c :: (lparts l).headD []) :: (lparts l).tail

theorem lparts_nl (c : UInt8) (l : List UInt8) (h : c = 10) : lparts (c :: l) = [] :: lparts l := by rw [lparts, if_pos h]
theorem lparts_other (c : UInt8) (l : List UInt8) (h : ¬ c = 10) : lparts (c :: l) = (c :: (lparts l).headD []) :: (lparts l).tail := by rw [lparts, if_neg h]
theorem lparts_ne (l : List UInt8) : lparts l ≠ [] := by
  cases l with
  | nil => simp [lparts]
  | cons c l => unfold lparts; split <;> simp

theorem lparts_plain (l : List UInt8) (h : 10 ∉ l) : lparts l = [l] := by
  induction l with
  | nil => rfl
  | cons c l ih =>
    have h1 : ¬ c = 10 := fun e => h (by simp [e])
    have h2 := ih (fun hm => h (by simp [hm]))
    unfold lparts
    rw [if_neg h1, h2]; rfl

theorem lparts_cut (a b : List UInt8) : lparts (a ++ 10 :: b) = lparts a ++ lparts b := by
  induction a with
  | nil => simp [lparts]
  | cons c a ih =>
    rw [List.cons_append]
    by_cases h : c = 10
    · rw [lparts_nl _ _ h, lparts_nl _ _ h, ih, List.cons_append]
    · rw [lparts_other _ _ h, lparts_other _ _ h, ih]
      cases hp : lparts a with
      | nil => exact absurd hp (lparts_ne a)
      | cons p ps => rfl

theorem lparts_first (a b : List UInt8) (h : 10 ∉ a) : lparts (a ++ 10 :: b) = a :: lparts b := by rw [lparts_cut, lparts_plain a h]; rfl

theorem indexByte_nl (l : List UInt8) : (10 ∉ l ∧ Lib.indexByte l 10 = -1) ∨ ∃ a b : List UInt8, l = a ++ 10 :: b ∧ 10 ∉ a ∧ Lib.indexByte l 10 = (a.length : Int) := by
  induction l with
  | nil => left; simp [Lib.indexByte]
  | cons c l ih =>
    by_cases h : c = 10
    · right; exact ⟨[], l, by simp [h], by simp, by simp [Lib.indexByte, h]⟩
    · rcases ih with ⟨h1, h2⟩ | ⟨a, b, h1, h2, h3⟩
      · left
        refine ⟨by simp [h1]; exact fun e => h e.symm, ?_⟩
        simp [Lib.indexByte, h, h2]
      · right
        refine ⟨c :: a, b, by simp [h1], by simp [h2]; exact fun e => h e.symm, ?_⟩
        have hne : ¬ ((a.length : Int) = -1) := by omega
        simp [Lib.indexByte, h, h3, hne]

theorem splitK_lparts : ∀ (k : Nat) (l : List UInt8), l.count 10 = k → Lib.splitK [10] 0 k l = lparts l
  | 0, l, h => by
    rw [lparts_plain l (List.count_eq_zero.1 h)]; rfl
  | k + 1, l, h => by
    rcases indexByte_nl l with ⟨h1, h2⟩ | ⟨a, b, rfl, h2, h3⟩
    · rw [List.count_eq_zero_of_not_mem h1] at h; omega
    · have hi : Lib.index (a ++ 10 :: b) [10] = (a.length : Int) := by rw [Lib.index_one]; exact h3
      have hne : ¬ (Lib.index (a ++ 10 :: b) [10] == -1) = true := by rw [hi]; simp
      unfold Lib.splitK
      rw [if_neg hne, hi]
      have hc : b.count 10 = k := by
        rw [List.count_append, List.count_eq_zero_of_not_mem h2] at h
        simp at h; omega
      have e1 : (a ++ 10 :: b).take ((a.length : Int).toNat + 0) = a := by simp
      have e2 : (a ++ 10 :: b).drop ((a.length : Int).toNat + [(10 : UInt8)].length) = b := by
        have : (a.length : Int).toNat + [(10 : UInt8)].length = a.length + 1 := by simp
        rw [this, List.drop_append]; simp
      rw [e1, e2, splitK_lparts k b hc, lparts_first a b h2]

def nlB : ByteArray := ⟨#[10]⟩

theorem split_lparts (s : ByteArray) : (Lib.splitB nlB 0 (Lib.countB s nlB) s).map (·.data.toList) = lparts s.data.toList := by
  have hc : Lib.countB s nlB = s.data.toList.count 10 := Lib.count_one 10 _
  rw [Lib.splitB_data, hc]
  exact splitK_lparts _ _ rfl
/-- strings.genSplit at a byte 10: what it asks of strings.Index and strings.Count is had at one byte without any variable -/
theorem genSplit_nl (s : ByteArray) (w : World) (hs : s.size < 4294967281) :
    Calls Tryz.prog 146 #[.string s, .string nlB, .int .i64 0, .int .i64 (-1)] w fun e w' =>
      e = .returned (.slice (some ⟨w.heap.size, 0, none⟩) (Lib.countB s nlB + 1) (Lib.countB s nlB + 1)) ∧ w' = w.alloc (.cells ((Lib.splitB nlB 0 (Lib.countB s nlB) s).map Value.string).toArray 9) := by
  have h1 : 1 ≤ nlB.size := Nat.le_refl _
  have hle := Lib.countB_le nlB h1 s.size s (Nat.le_refl _)
  have hlen := Lib.splitB_all nlB h1 0 _ s rfl
  have c := Any.strings_genSplit_core Tryz.lays221 (by kernel_rfl) s nlB 0 (-1) (Lib.countB s nlB + 1) w hs h1 (Nat.zero_le _)
    (fun x c hx => by
      have := Tryz.strings_Index_one x 10 (w.alloc (.cells c 9))
      have e : Lib.indexByte x.data.toList 10 = Lib.indexB x nlB := (Lib.index_one _ 10).symm
      rw [e] at this; exact this)
    (by
      have := Tryz.strings_Count_one s 10 w
      have e : Lib.countByte s.data.toList 10 = Lib.countB s nlB := (Lib.count_one 10 _).symm
      rw [e] at this; exact this)
    (by decide) (by decide) (by rw [if_pos (by decide)]; omega)
  rw [Nat.add_sub_cancel, hlen] at c
  have e2 : Lib.cellsOf (Lib.splitB nlB 0 (Lib.countB s nlB) s) (Lib.countB s nlB + 1) = ((Lib.splitB nlB 0 (Lib.countB s nlB) s).map Value.string).toArray := by rw [← hlen]; exact Lib.cellsOf_full _
  rw [e2] at c
  exact c

set_option maxHeartbeats 400000 in
theorem split_nl (s : ByteArray) (w : World) (hs : s.size < 4294967281) :
    Calls Tryz.prog 98 #[.string s, .string nlB] w fun e w' =>
      e = .returned (.slice (some ⟨w.heap.size, 0, none⟩) (Lib.countB s nlB + 1) (Lib.countB s nlB + 1)) ∧ w' = w.alloc (.cells ((Lib.splitB nlB 0 (Lib.countB s nlB) s).map Value.string).toArray 9) := by
  have c := genSplit_nl s w hs
  unfold nlB at c ⊢
  go_enter Tryz.func98, Tryz.ntmps98
  go_wp2_with fail
  refine c.mono ?_
  rintro e w' ⟨rfl, rfl⟩
  go_wp2
  go_ret
  exact ⟨rfl, rfl⟩

/-- the last one falls, if it is empty -/
def dropE (l : List (List UInt8)) : List (List UInt8) := if l.getLast? = some [] then l.dropLast else l
theorem dropE_cons (x : List UInt8) {l : List (List UInt8)} (h : l ≠ []) : dropE (x :: l) = x :: dropE l := by
  unfold dropE
  cases l with
  | nil => exact absurd rfl h
  | cons y l =>
    rw [List.getLast?_cons_cons, List.dropLast_cons_cons]
    split <;> rfl
theorem lines_parts : ∀ (s cur : List UInt8), linesF cur s = dropE ((cur ++ (lparts s).headD []) :: (lparts s).tail)
  | [], cur => by
    unfold linesF dropE lparts
    cases cur with
    | nil => rfl
    | cons c cur => simp
  | c :: t, cur => by
    by_cases h : c = 10
    · rw [h, lines_end, lparts_nl 10 t rfl, lines_parts t []]
      simp only [List.headD_cons, List.append_nil, List.tail_cons, List.nil_append]
      rw [dropE_cons cur (lparts_ne t), headTail _ _ (lparts_ne t)]
    · rw [lines_more _ _ h, lparts_other _ _ h, lines_parts t (cur ++ [c])]
      simp
theorem lines_split (s : List UInt8) : linesL s = dropE (lparts s) := by
  unfold linesL
  rw [lines_parts s []]
  simp only [List.nil_append]
  rw [headTail _ _ (lparts_ne s)]

set_option maxHeartbeats 1000000 in
theorem lines_c (s : ByteArray) (w : World) (hs : s.size ≤ 1048576) : Calls Tryz.prog 23 #[.string s] w fun e w' =>
    ∃ a, e = .returned a ∧ w'.ownsRow w.heap.size 9 1 a (linesL s.data.toList).length ((linesL s.data.toList).map strV) ∧ Below w.heap.size w w' := by
  have c := split_nl s w (by omega)
  have h1 : 1 ≤ nlB.size := Nat.le_refl _
  have hlen := Lib.splitB_all nlB h1 0 _ s rfl
  have hle := Lib.countB_le nlB h1 s.size s (Nat.le_refl _)
  have hmap := split_lparts s
  have hL := lines_split s.data.toList
  rw [← hmap] at hL
  rw [← hlen] at c
  generalize Lib.splitB nlB 0 (Lib.countB s nlB) s = P at c hlen hL
  clear hmap
  obtain ⟨k, hk⟩ : ∃ k, Lib.countB s nlB = k := ⟨_, rfl⟩
  rw [hk] at hlen hle
  clear hk
  obtain ⟨q, hq⟩ : ∃ q, P[k]? = some q := ⟨P[k]'(by omega), List.getElem?_eq_getElem (by omega)⟩
  have hlast : P.getLast? = some q := by rw [List.getLast?_eq_getElem?, hlen]; simpa using hq
  have hrow : ∀ n, n ≤ P.length → ∀ l : List (List UInt8), l = (P.take n).map (·.data.toList) → l.length = n ∧ (w.alloc (.cells (P.map Value.string).toArray 9)).ownsRow w.heap.size 9 1 (.slice (some ⟨w.heap.size, 0, none⟩) n P.length) n (l.map strV) := by
    intro n hn l hl
    refine ⟨by rw [hl]; simp; omega, by rw [hl]; simp; omega, .inr ⟨w.heap.size, P.length, (P.map Value.string).toArray, rfl, Nat.le_refl _, heap_alloc_new w _, hn, by unfold maxLen; omega, by simp, ?_⟩⟩
    rw [hl]
    simp only [Nat.mul_one, List.map_take, List.map_map]
    congr 1
  have HR := Lib.hid hrow
  have cl : (w.alloc (.cells (P.map Value.string).toArray 9)).cell? ⟨w.heap.size, k, none⟩ = some (.string q) := by
    rw [World.cell?_alloc_new]; simp [hq]
  have e1 : IntKind.i64.wrap (((k + 1 : Nat) : Int) - 1) = (k : Int) := by rw [IntKind.wrap_i64]; omega
  have HL := Lib.hid hL
  have HX := Lib.hid hlast
  have HP := Lib.hid hlen
  rw [hlen] at c
  clear hrow hL hlast hlen hq
  unfold nlB at c
  by_cases h0 : q.data.toList = []
  · have hq1 : (q.toList == []) = true := by rw [Lib.toList_data, h0]; rfl
    have hq2 : q.toList = [] := by rw [Lib.toList_data, h0]
    have HN : Hid (linesL s.data.toList = (P.take k).map (·.data.toList)) := Lib.hid (by
      rw [HL.out]; unfold dropE
      rw [List.getLast?_map, HX.out, Option.map_some, h0, if_pos rfl, List.dropLast_eq_take, List.map_take, List.length_map, HP.out, Nat.add_sub_cancel])
    clear h0
    go_enter Tryz.func23, Tryz.ntmps23
    go_wp2_with (go_at_call 98; refine c.mono ?_; rintro e w' ⟨rfl, rfl⟩)
    go_ret
    obtain ⟨r1, r2⟩ := HR.out k (by have := HP.out; omega) _ HN.out
    rw [HP.out] at r2
    exact ⟨_, rfl, by rw [r1]; exact r2, laidNew _ _⟩
  · have hq1 : (q.toList == []) = false := by rw [Lib.toList_data]; simpa using h0
    have HN : Hid (linesL s.data.toList = (P.take (k + 1)).map (·.data.toList)) := Lib.hid (by
      rw [HL.out]; unfold dropE
      rw [List.getLast?_map, HX.out, Option.map_some, if_neg (by simpa using h0), List.take_of_length_le (by have := HP.out; omega)])
    clear h0
    go_enter Tryz.func23, Tryz.ntmps23
    go_wp2_with (go_at_call 98; refine c.mono ?_; rintro e w' ⟨rfl, rfl⟩)
    go_ret
    obtain ⟨r1, r2⟩ := HR.out (k + 1) (by have := HP.out; omega) _ HN.out
    rw [HP.out] at r2
    exact ⟨_, rfl, by rw [r1]; exact r2, laidNew _ _⟩
end Go.Proofs.YtbhlnemahhndoaaGreatDoor
namespace Go.Proofs.YtbhlnemahhndoaaGreatDoor
open Go.RowKit
set_option maxRecDepth 100000

/-- Find's function: is it of that name? -/
theorem findS1_c (x y n : ByteArray) (B : Nat) (w : World) (hB : w.cell? ⟨B, 0, none⟩ = some (.string n)) (hlt : B < w.heap.size) :
    Calls Tryz.prog 100 #[.agg #[.string x, .string y], .pointer (some ⟨B, 0, none⟩)] w fun e w' => e = .returned (.bool (isP n (x, y))) ∧ Below w.heap.size w w' := by
  have hB2 : (w.alloc (.cells #[.string x, .string y] 69)).cell? ⟨B, 0, none⟩ = some (.string n) := ((laidNew w (.cells #[.string x, .string y] 69)).cell (p := ⟨B, 0, none⟩) hlt).trans hB
  go_enter Tryz.func100, Tryz.ntmps100
  go_wp2
  go_ret
  exact ⟨rfl, laidNew _ _⟩

/-- where the first one is; -1, if there is none -/
def placeI (l : List At) (n : ByteArray) : Int := if l.findIdx (isP n) < l.length then ((l.findIdx (isP n) : Nat) : Int) else -1
theorem ret_place {k : Int} {l : List At} {n : ByteArray} (h : k = placeI l n) : Ending.returned (.int .i64 k) = .returned (.int .i64 (placeI l n)) := by rw [h]

set_option maxHeartbeats 1000000 in
theorem indexFunc_c (v : Value) (l : List At) (n : ByteArray) (B : Nat) (w : World) (h : Attrs w v l) (hB : w.cell? ⟨B, 0, none⟩ = some (.string n)) (hlt : B < w.heap.size) :
    Calls Tryz.prog 99 #[v, .func (Fn.func 100) #[] #[.pointer (some ⟨B, 0, none⟩)]] w fun e w' => e = .returned (.int .i64 (placeI l n)) ∧ Below w.heap.size w w' := by
  obtain ⟨p, cap, rfl, hl, -, hc⟩ := h
  go_enter Tryz.func99, Tryz.ntmps99
  go_wp2
  go_loopw [8] (fun i wr => ∃ k : Nat, k ≤ l.length ∧ i = .int .i64 k ∧ (∀ j (hj : j < k) (hl : j < l.length), isP n l[j] = false) ∧ Below w.heap.size w wr) (fun i _ => l.length - (intOf i).toNat)
  case atStart => exact ⟨0, by omega, rfl, fun j hj => by omega, Below.refl _ _⟩
  case round =>
    obtain ⟨k, hk, rfl, ha, hbel⟩ := hrel
    have HA := Lib.hid ha
    clear ha
    by_cases hlk : k < l.length
    · obtain ⟨b, o, rfl, hb, hcc⟩ := hc (by omega)
      obtain ⟨c1, c2⟩ := hcc k hlk
      have c1 := (hbel.cell (p := ⟨b, o + k * 2, none⟩) hb).trans c1
      have c2 := (hbel.cell (p := ⟨b, o + k * 2 + 1, none⟩) hb).trans c2
      have hW := hbel.size
      have hC := findS1_c l[k].1 l[k].2 n B wr ((hbel.cell (p := ⟨B, 0, none⟩) hlt).trans hB) (Nat.lt_of_lt_of_le hlt hW)
      clear hcc hc hB
      cases hp : isP n (l[k].1, l[k].2) with
      | true =>
        have HF : Hid ((k : Int) = placeI l n) := Lib.hid (by
          have := idx_hit _ l k hlk (fun j hj => HA.out j hj (by omega)) hp
          unfold placeI; rw [this, if_pos hlk])
        rw [hp] at hC
        clear hp
        go_wp2_with (go_at_call 100; refine hC.mono ?_; rintro e w2 ⟨rfl, hb2⟩)
        go_ret
        exact ⟨ret_place HF.out, behind hbel hb2⟩
      | false =>
        have HN : Hid (∀ j (hj : j < k + 1) (hl : j < l.length), isP n l[j] = false) := Lib.hid (fun j hj hl => by
          by_cases e : j = k
          · subst e; exact hp
          · exact HA.out j (by omega) hl)
        rw [hp] at hC
        clear hp
        go_wp2_with (go_at_call 100; refine hC.mono ?_; rintro e w2 ⟨rfl, hb2⟩)
        go_roundw
        case rel => exact ⟨k + 1, by omega, by go_num, HN.out, behind hbel hb2⟩
        case measure => simp [intOf]; omega
    · have HE : Hid (-1 = placeI l n) := Lib.hid (by
        have := idx_end (isP n) l (fun j hj => HA.out j (by omega) hj)
        unfold placeI; rw [this, if_neg (by omega)])
      go_wp2
      go_ret
      exact ⟨ret_place HE.out, hbel⟩

set_option maxHeartbeats 1000000 in
theorem find_c (v : Value) (l : List At) (n : ByteArray) (w : World) (h : Attrs w v l) : Calls Tryz.prog 24 #[v, .string n] w fun e w' => e = .returned (getV (getL l n)) ∧ Below w.heap.size w w' := by
  have hF := indexFunc_c v l n w.heap.size (w.alloc (.cells #[.string n] 9)) (h.below (laidNew _ _)) (by rw [World.cell?_alloc_new]; rfl) (by simp)
  obtain ⟨g1, g2⟩ := get_idx l n
  have hle := idx_le (isP n) l
  obtain ⟨p, cap, rfl, hl, -, hc⟩ := h
  unfold placeI at hF
  by_cases hlt : l.findIdx (isP n) < l.length
  · rw [if_pos hlt] at hF
    obtain ⟨k, hlt, hk, hg⟩ : ∃ (k : Nat) (h : k < l.length), l.findIdx (isP n) = k ∧ getL l n = some l[k].2 := ⟨_, hlt, rfl, g2 hlt⟩
    have HG := Lib.hid hg
    rw [hk] at hF
    obtain ⟨b, o, rfl, hb, hcc⟩ := hc (by omega)
    obtain ⟨-, c2⟩ := hcc k hlt
    clear g1 g2 hk hle hc hcc hg
    go_enter Tryz.func24, Tryz.ntmps24
    go_wp2_with (go_at_call 99; refine hF.mono ?_; rintro e w3 ⟨rfl, hb3⟩; have c3 := ((behind (laidNew w _) hb3).cell (p := ⟨b, o + k * 2 + 1, none⟩) hb).trans c2)
    go_ret2
    exact ⟨ret_v (get_some HG.out), behind (laidNew _ _) hb3⟩
  · rw [if_neg hlt] at hF
    have HG : Hid (getL l n = none) := Lib.hid (g1 (by omega))
    clear g1 g2 hle hc hlt
    go_enter Tryz.func24, Tryz.ntmps24
    go_wp2_with (go_at_call 99; refine hF.mono ?_; rintro e w3 ⟨rfl, hb3⟩)
    go_ret2
    exact ⟨ret_v (get_none HG.out), behind (laidNew _ _) hb3⟩
end Go.Proofs.YtbhlnemahhndoaaGreatDoor
