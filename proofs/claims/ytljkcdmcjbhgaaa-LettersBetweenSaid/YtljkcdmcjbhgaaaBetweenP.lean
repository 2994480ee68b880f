/-
  LettersBetween: what is neither a letter nor a digit counts just if all else is the same: for any two texts of at most 1048576 bytes together, any such byte and place, and true is answered beyond. No conditions: every two strings and every pair of numbers.
-/
import Derived.Test.YtljkcdmcjbhgaaaBetween
import Derived.RegionTactic
import Derived.ChangeAlike
namespace Go.Proofs.Ytljkcdmcjbhgaaa.betweenLaw
open Go.ChangeShapes Go.WideShapes Go.ChangeAt Go.RowKit

theorem more_data (a : ByteArray) (k : Nat) (c : UInt8) : (a.extract 0 k ++ { data := #[c] } ++ a.extract k a.size : ByteArray).data.toList = moreL a.data.toList k c := by
  rw [cat_data, cat_data, Lib.extract_data, Lib.extract_data]
  unfold moreL
  have hl : a.data.toList.length = a.size := by simp
  rw [List.drop_zero, Nat.sub_zero, List.take_of_length_le (l := List.drop k a.data.toList) (by rw [List.length_drop]; omega)]

theorem plain_r (s : ByteArray) (r : Bool) (w : World) (hs : s.size ≤ maxLen) (h : plainB s.data.toList = r) : Calls Try.prog 19 #[.string s] w fun e w' => e = .returned (.bool r) ∧ w = w' := by
  subst h; exact plain_any s w hs

set_option maxRecDepth 100000 in
set_option maxHeartbeats 4000000 in
theorem walk (a : ByteArray) (_hs : a.size ≤ maxLen) (ha : a.size ≤ 140737488351232) (b : ByteArray) (_ht : b.size ≤ maxLen) (hb : b.size ≤ 140737488351232) (n m : Int) (wn : (Lit.int .u16 n).wf = true) (wm : (Lit.int .u16 m).wf = true) (w : World) :
    Calls Try.prog 8 #[.string a, .string b, .agg #[.int .u16 n, .int .u16 m]] w fun e w' => e = .returned (.bool true) ∧ Below w.heap.size w w' := by
  have hn : 0 ≤ n ∧ n ≤ 65535 := by simpa [Lit.wf, IntKind.min, IntKind.max, IntKind.signed, IntKind.bits] using wn
  have hm : 0 ≤ m ∧ m ≤ 65535 := by simpa [Lit.wf, IntKind.min, IntKind.max, IntKind.signed, IntKind.bits] using wm
  clear wn wm
  obtain ⟨c, hc⟩ : ∃ c : UInt8, n % 256 = (c.toNat : Int) := ⟨UInt8.ofNat (n % 256).toNat, by simp; omega⟩
  obtain ⟨k, hk⟩ : ∃ k : Nat, m % ((a.size : Int) + 1) = (k : Int) := ⟨(m % ((a.size : Int) + 1)).toNat, by
    have := Int.emod_nonneg m (show ((a.size : Int) + 1) ≠ 0 by omega); omega⟩
  have hka : k ≤ a.size := by have := Int.emod_lt_of_pos m (show 0 < ((a.size : Int) + 1) by omega); omega
  have hka0 : (0 : Int) ≤ (k : Int) := by omega
  have HC := Lib.hid hc
  have HK := Lib.hid hk
  have hc0 : (c.toNat : Int) < 256 := by have := c.toNat_lt; omega
  clear hc hk
  go_enter Try.func8, Try.ntmps8
  go_wp2_with fail
  rw [HC.out]
  refine (alive_any _).mono ?_
  rintro e w1 ⟨rfl, hb1⟩
  have hx1 : w1.cell? ⟨w.heap.size, 1, none⟩ = some (.int .u16 m) := (hb1.cell (p := ⟨w.heap.size, 1, none⟩) (by simp)).trans (by simp)
  have hbw1 : Below w.heap.size w w1 := behind (laidNew _ _) hb1
  have hlt : w.heap.size < w1.heap.size := by have := hb1.size; simp at this; omega
  clear hb1
  go_wp2_with fail
  refine (beyond2 _ (a.size : Int) (b.size : Int) _ (by simp) (by simp) (by omega) (by omega)).mono ?_
  rintro e w2 ⟨rfl, hw2⟩
  have hbw2 : Below w.heap.size w w2 := by rw [← hw2]; exact behind hbw1 (laidNew _ _)
  have hx2 : w2.cell? ⟨w.heap.size, 1, none⟩ = some (.int .u16 m) := by rw [← hw2, World.cell?_alloc_lt _ _ _ hlt]; exact hx1
  clear hw2 hx1 hbw1 hlt
  by_cases hbig : 1048576 < (a.size : Int) + (b.size : Int)
  · go_wp2_with fail
    refine (alive_any _).mono ?_
    rintro e w3 ⟨rfl, hb3⟩
    go_wp2
    go_ret
    exact ⟨rfl, behind hbw2 hb3⟩
  · have hbig' : (a.size : Int) + (b.size : Int) ≤ 1048576 := by omega
    rcases isA_cases (c.toNat : Int) with ⟨h1, h⟩ | ⟨h1, h2, h⟩ | ⟨h1, h2, h⟩ | ⟨h1, h2, h⟩ | ⟨h1, h2, h⟩ | ⟨h1, h2, h⟩ | ⟨h1, h⟩
    all_goals have H := Lib.hid h
    all_goals clear h
    · have hkv := fun (W : World) => conv_one W c
      have hkv2 := fun (W : World) => conv_one_drew W c
      go_wp2_with fail
      simp only [HK.out]
      go_region
      clear hkv hkv2
      go_wp2_with fail
      obtain ⟨t, ht⟩ : ∃ t : ByteArray, a.extract 0 k ++ { data := #[c] } ++ a.extract k a.size = t := ⟨_, rfl⟩
      have hd : t.data.toList = moreL a.data.toList k c := by rw [← ht]; exact more_data a k c
      have hts : t.size ≤ 140737488351232 := by
        have : t.size = t.data.toList.length := by simp
        rw [this, hd, more_length]; simp; omega
      have HD := Lib.hid hd
      rw [ht]
      clear ht hd
      have hne0 : (ordL t.data.toList a.data.toList == 0) = false := by rw [HD.out, beq_eq_false_iff_ne]; exact more_ne _ _ _
      refine (order_any t a _ hts ha).mono ?_
      rintro e w3 ⟨rfl, hb3⟩
      have hbw3 : Below w.heap.size w w3 := behind (behind hbw2 (laidNew _ _)).drew hb3
      clear hb3
      go_wp2_with fail
      cases hpa : plainB a.data.toList
      · have HPA := Lib.hid hpa
        clear hpa
        refine (plain_r a false _ _hs HPA.out).mono ?_
        rintro e w4 ⟨rfl, rfl⟩
        go_wp2
        go_ret
        exact ⟨rfl, hbw3⟩
      · have HPA := Lib.hid hpa
        clear hpa
        refine (plain_r a true _ _hs HPA.out).mono ?_
        rintro e w4 ⟨rfl, rfl⟩
        go_wp2_with fail
        cases hpb : plainB b.data.toList
        · have HPB := Lib.hid hpb
          clear hpb
          refine (plain_r b false _ _ht HPB.out).mono ?_
          rintro e w4 ⟨rfl, rfl⟩
          go_wp2
          go_ret
          exact ⟨rfl, hbw3⟩
        · have HPB := Lib.hid hpb
          clear hpb
          refine (plain_r b true _ _ht HPB.out).mono ?_
          rintro e w4 ⟨rfl, rfl⟩
          go_wp2_with fail
          refine (lower_any a _ _hs).mono ?_
          rintro e w4 ⟨rfl, hb4⟩
          have hbw4 : Below w.heap.size w w4 := behind hbw3 hb4
          clear hb4
          go_wp2_with fail
          refine (lower_any b _ _ht).mono ?_
          rintro e w5 ⟨rfl, hb5⟩
          have hbw5 : Below w.heap.size w w5 := behind hbw4 hb5
          clear hb5
          by_cases hl : lowL a.data.toList = lowL b.data.toList
          · have HL := Lib.hid hl
            clear hl
            rw [HL.out]
            go_wp2
            go_ret
            exact ⟨rfl, hbw5⟩
          · have hl' : ¬ (ByteArray.mk (lowL a.data.toList).toArray).toList = (ByteArray.mk (lowL b.data.toList).toArray).toList := by
              rw [Lib.toList_data, Lib.toList_data, data_eq, data_eq]; exact hl
            have HO : Hid (ordL t.data.toList b.data.toList = ordL a.data.toList b.data.toList) := by
              exact Lib.hid (by rw [HD.out]; exact ord_more _ _ k c H.out HPA.out HPB.out hl)
            go_wp2_with fail
            refine (order_any t b _ hts hb).mono ?_
            rintro e w6 ⟨rfl, hb6⟩
            have hbw6 : Below w.heap.size w w6 := behind hbw5 hb6
            clear hb6
            rw [HO.out]
            go_wp2_with fail
            refine (order_any a b _ ha hb).mono ?_
            rintro e w7 ⟨rfl, hb7⟩
            have hbw7 : Below w.heap.size w w7 := behind hbw6 hb7
            clear hb7
            go_wp2
            go_ret
            exact ⟨rfl, hbw7⟩
    · go_wp2_with fail
      refine (alive_any _).mono ?_
      rintro e w3 ⟨rfl, hb3⟩
      go_wp2
      go_ret
      exact ⟨rfl, behind hbw2 hb3⟩
    · have hkv := fun (W : World) => conv_one W c
      have hkv2 := fun (W : World) => conv_one_drew W c
      go_wp2_with fail
      simp only [HK.out]
      go_region
      clear hkv hkv2
      go_wp2_with fail
      obtain ⟨t, ht⟩ : ∃ t : ByteArray, a.extract 0 k ++ { data := #[c] } ++ a.extract k a.size = t := ⟨_, rfl⟩
      have hd : t.data.toList = moreL a.data.toList k c := by rw [← ht]; exact more_data a k c
      have hts : t.size ≤ 140737488351232 := by
        have : t.size = t.data.toList.length := by simp
        rw [this, hd, more_length]; simp; omega
      have HD := Lib.hid hd
      rw [ht]
      clear ht hd
      have hne0 : (ordL t.data.toList a.data.toList == 0) = false := by rw [HD.out, beq_eq_false_iff_ne]; exact more_ne _ _ _
      refine (order_any t a _ hts ha).mono ?_
      rintro e w3 ⟨rfl, hb3⟩
      have hbw3 : Below w.heap.size w w3 := behind (behind hbw2 (laidNew _ _)).drew hb3
      clear hb3
      go_wp2_with fail
      cases hpa : plainB a.data.toList
      · have HPA := Lib.hid hpa
        clear hpa
        refine (plain_r a false _ _hs HPA.out).mono ?_
        rintro e w4 ⟨rfl, rfl⟩
        go_wp2
        go_ret
        exact ⟨rfl, hbw3⟩
      · have HPA := Lib.hid hpa
        clear hpa
        refine (plain_r a true _ _hs HPA.out).mono ?_
        rintro e w4 ⟨rfl, rfl⟩
        go_wp2_with fail
        cases hpb : plainB b.data.toList
        · have HPB := Lib.hid hpb
          clear hpb
          refine (plain_r b false _ _ht HPB.out).mono ?_
          rintro e w4 ⟨rfl, rfl⟩
          go_wp2
          go_ret
          exact ⟨rfl, hbw3⟩
        · have HPB := Lib.hid hpb
          clear hpb
          refine (plain_r b true _ _ht HPB.out).mono ?_
          rintro e w4 ⟨rfl, rfl⟩
          go_wp2_with fail
          refine (lower_any a _ _hs).mono ?_
          rintro e w4 ⟨rfl, hb4⟩
          have hbw4 : Below w.heap.size w w4 := behind hbw3 hb4
          clear hb4
          go_wp2_with fail
          refine (lower_any b _ _ht).mono ?_
          rintro e w5 ⟨rfl, hb5⟩
          have hbw5 : Below w.heap.size w w5 := behind hbw4 hb5
          clear hb5
          by_cases hl : lowL a.data.toList = lowL b.data.toList
          · have HL := Lib.hid hl
            clear hl
            rw [HL.out]
            go_wp2
            go_ret
            exact ⟨rfl, hbw5⟩
          · have hl' : ¬ (ByteArray.mk (lowL a.data.toList).toArray).toList = (ByteArray.mk (lowL b.data.toList).toArray).toList := by
              rw [Lib.toList_data, Lib.toList_data, data_eq, data_eq]; exact hl
            have HO : Hid (ordL t.data.toList b.data.toList = ordL a.data.toList b.data.toList) := by
              exact Lib.hid (by rw [HD.out]; exact ord_more _ _ k c H.out HPA.out HPB.out hl)
            go_wp2_with fail
            refine (order_any t b _ hts hb).mono ?_
            rintro e w6 ⟨rfl, hb6⟩
            have hbw6 : Below w.heap.size w w6 := behind hbw5 hb6
            clear hb6
            rw [HO.out]
            go_wp2_with fail
            refine (order_any a b _ ha hb).mono ?_
            rintro e w7 ⟨rfl, hb7⟩
            have hbw7 : Below w.heap.size w w7 := behind hbw6 hb7
            clear hb7
            go_wp2
            go_ret
            exact ⟨rfl, hbw7⟩
    · go_wp2_with fail
      refine (alive_any _).mono ?_
      rintro e w3 ⟨rfl, hb3⟩
      go_wp2
      go_ret
      exact ⟨rfl, behind hbw2 hb3⟩
    · have hkv := fun (W : World) => conv_one W c
      have hkv2 := fun (W : World) => conv_one_drew W c
      go_wp2_with fail
      simp only [HK.out]
      go_region
      clear hkv hkv2
      go_wp2_with fail
      obtain ⟨t, ht⟩ : ∃ t : ByteArray, a.extract 0 k ++ { data := #[c] } ++ a.extract k a.size = t := ⟨_, rfl⟩
      have hd : t.data.toList = moreL a.data.toList k c := by rw [← ht]; exact more_data a k c
      have hts : t.size ≤ 140737488351232 := by
        have : t.size = t.data.toList.length := by simp
        rw [this, hd, more_length]; simp; omega
      have HD := Lib.hid hd
      rw [ht]
      clear ht hd
      have hne0 : (ordL t.data.toList a.data.toList == 0) = false := by rw [HD.out, beq_eq_false_iff_ne]; exact more_ne _ _ _
      refine (order_any t a _ hts ha).mono ?_
      rintro e w3 ⟨rfl, hb3⟩
      have hbw3 : Below w.heap.size w w3 := behind (behind hbw2 (laidNew _ _)).drew hb3
      clear hb3
      go_wp2_with fail
      cases hpa : plainB a.data.toList
      · have HPA := Lib.hid hpa
        clear hpa
        refine (plain_r a false _ _hs HPA.out).mono ?_
        rintro e w4 ⟨rfl, rfl⟩
        go_wp2
        go_ret
        exact ⟨rfl, hbw3⟩
      · have HPA := Lib.hid hpa
        clear hpa
        refine (plain_r a true _ _hs HPA.out).mono ?_
        rintro e w4 ⟨rfl, rfl⟩
        go_wp2_with fail
        cases hpb : plainB b.data.toList
        · have HPB := Lib.hid hpb
          clear hpb
          refine (plain_r b false _ _ht HPB.out).mono ?_
          rintro e w4 ⟨rfl, rfl⟩
          go_wp2
          go_ret
          exact ⟨rfl, hbw3⟩
        · have HPB := Lib.hid hpb
          clear hpb
          refine (plain_r b true _ _ht HPB.out).mono ?_
          rintro e w4 ⟨rfl, rfl⟩
          go_wp2_with fail
          refine (lower_any a _ _hs).mono ?_
          rintro e w4 ⟨rfl, hb4⟩
          have hbw4 : Below w.heap.size w w4 := behind hbw3 hb4
          clear hb4
          go_wp2_with fail
          refine (lower_any b _ _ht).mono ?_
          rintro e w5 ⟨rfl, hb5⟩
          have hbw5 : Below w.heap.size w w5 := behind hbw4 hb5
          clear hb5
          by_cases hl : lowL a.data.toList = lowL b.data.toList
          · have HL := Lib.hid hl
            clear hl
            rw [HL.out]
            go_wp2
            go_ret
            exact ⟨rfl, hbw5⟩
          · have hl' : ¬ (ByteArray.mk (lowL a.data.toList).toArray).toList = (ByteArray.mk (lowL b.data.toList).toArray).toList := by
              rw [Lib.toList_data, Lib.toList_data, data_eq, data_eq]; exact hl
            have HO : Hid (ordL t.data.toList b.data.toList = ordL a.data.toList b.data.toList) := by
              exact Lib.hid (by rw [HD.out]; exact ord_more _ _ k c H.out HPA.out HPB.out hl)
            go_wp2_with fail
            refine (order_any t b _ hts hb).mono ?_
            rintro e w6 ⟨rfl, hb6⟩
            have hbw6 : Below w.heap.size w w6 := behind hbw5 hb6
            clear hb6
            rw [HO.out]
            go_wp2_with fail
            refine (order_any a b _ ha hb).mono ?_
            rintro e w7 ⟨rfl, hb7⟩
            have hbw7 : Below w.heap.size w w7 := behind hbw6 hb7
            clear hb7
            go_wp2
            go_ret
            exact ⟨rfl, hbw7⟩
    · go_wp2_with fail
      refine (alive_any _).mono ?_
      rintro e w3 ⟨rfl, hb3⟩
      go_wp2
      go_ret
      exact ⟨rfl, behind hbw2 hb3⟩
    · have hkv := fun (W : World) => conv_one W c
      have hkv2 := fun (W : World) => conv_one_drew W c
      go_wp2_with fail
      simp only [HK.out]
      go_region
      clear hkv hkv2
      go_wp2_with fail
      obtain ⟨t, ht⟩ : ∃ t : ByteArray, a.extract 0 k ++ { data := #[c] } ++ a.extract k a.size = t := ⟨_, rfl⟩
      have hd : t.data.toList = moreL a.data.toList k c := by rw [← ht]; exact more_data a k c
      have hts : t.size ≤ 140737488351232 := by
        have : t.size = t.data.toList.length := by simp
        rw [this, hd, more_length]; simp; omega
      have HD := Lib.hid hd
      rw [ht]
      clear ht hd
      have hne0 : (ordL t.data.toList a.data.toList == 0) = false := by rw [HD.out, beq_eq_false_iff_ne]; exact more_ne _ _ _
      refine (order_any t a _ hts ha).mono ?_
      rintro e w3 ⟨rfl, hb3⟩
      have hbw3 : Below w.heap.size w w3 := behind (behind hbw2 (laidNew _ _)).drew hb3
      clear hb3
      go_wp2_with fail
      cases hpa : plainB a.data.toList
      · have HPA := Lib.hid hpa
        clear hpa
        refine (plain_r a false _ _hs HPA.out).mono ?_
        rintro e w4 ⟨rfl, rfl⟩
        go_wp2
        go_ret
        exact ⟨rfl, hbw3⟩
      · have HPA := Lib.hid hpa
        clear hpa
        refine (plain_r a true _ _hs HPA.out).mono ?_
        rintro e w4 ⟨rfl, rfl⟩
        go_wp2_with fail
        cases hpb : plainB b.data.toList
        · have HPB := Lib.hid hpb
          clear hpb
          refine (plain_r b false _ _ht HPB.out).mono ?_
          rintro e w4 ⟨rfl, rfl⟩
          go_wp2
          go_ret
          exact ⟨rfl, hbw3⟩
        · have HPB := Lib.hid hpb
          clear hpb
          refine (plain_r b true _ _ht HPB.out).mono ?_
          rintro e w4 ⟨rfl, rfl⟩
          go_wp2_with fail
          refine (lower_any a _ _hs).mono ?_
          rintro e w4 ⟨rfl, hb4⟩
          have hbw4 : Below w.heap.size w w4 := behind hbw3 hb4
          clear hb4
          go_wp2_with fail
          refine (lower_any b _ _ht).mono ?_
          rintro e w5 ⟨rfl, hb5⟩
          have hbw5 : Below w.heap.size w w5 := behind hbw4 hb5
          clear hb5
          by_cases hl : lowL a.data.toList = lowL b.data.toList
          · have HL := Lib.hid hl
            clear hl
            rw [HL.out]
            go_wp2
            go_ret
            exact ⟨rfl, hbw5⟩
          · have hl' : ¬ (ByteArray.mk (lowL a.data.toList).toArray).toList = (ByteArray.mk (lowL b.data.toList).toArray).toList := by
              rw [Lib.toList_data, Lib.toList_data, data_eq, data_eq]; exact hl
            have HO : Hid (ordL t.data.toList b.data.toList = ordL a.data.toList b.data.toList) := by
              exact Lib.hid (by rw [HD.out]; exact ord_more _ _ k c H.out HPA.out HPB.out hl)
            go_wp2_with fail
            refine (order_any t b _ hts hb).mono ?_
            rintro e w6 ⟨rfl, hb6⟩
            have hbw6 : Below w.heap.size w w6 := behind hbw5 hb6
            clear hb6
            rw [HO.out]
            go_wp2_with fail
            refine (order_any a b _ ha hb).mono ?_
            rintro e w7 ⟨rfl, hb7⟩
            have hbw7 : Below w.heap.size w w7 := behind hbw6 hb7
            clear hb7
            go_wp2
            go_ret
            exact ⟨rfl, hbw7⟩

theorem readable : ∀ t ∈ #[9, 9, 30].toList, Try.prog.readableRec t = true ∧ t < Try.prog.types.size := by
  intro t ht
  have h : t ∈ ([9, 9, 30] : List TypeId) := ht
  simp only [List.mem_cons, List.not_mem_nil, or_false] at h
  rcases h with rfl | rfl | rfl
  · exact ⟨by kernel_rfl, of_decide_eq_true (by kernel_rfl)⟩
  · exact ⟨by kernel_rfl, of_decide_eq_true (by kernel_rfl)⟩
  · exact ⟨by kernel_rfl, of_decide_eq_true (by kernel_rfl)⟩

theorem lifted (os : Os) (started : os.Started) (H : Type) (enc : TypeId × Value → H) :
    ReturnsInHanded {} Try.checked os 8 .any (Rows.lettersBetweenSpec.pre6 enc Try.prog Try.f8 Rows.lettersBetweenRow.domain false) (Rows.lettersBetweenSpec.post enc Try.prog Try.f8 false true false false) := by
  refine returnsInHanded_of_change_sized (C := Try.checked) own started (by kernel_rfl) Try.func8
    (ChangeSpec.witness6 (enc := enc) (C := Try.checked) false ⟨#[], #[.string ⟨#[]⟩, .string ⟨#[]⟩, .agg #[.int .u16 0, .int .u16 0]], []⟩ 8 (by kernel_rfl) (by kernel_rfl) (by kernel_rfl) (by kernel_rfl)) ?_
  intro W base args ds gs before hval hW _ hz _
  have hW' := hW
  obtain ⟨p, q, hA, hV, rfl, hfz, hnd⟩ := hW
  rw [Try.params8] at hA hval
  obtain ⟨v0, vs0, d0, ds0, p0, q0, hargs0, rfl, rfl, h0, r0⟩ := trodAll_cons hA
  obtain ⟨v1, vs1, d1, ds1, p1, q1, hargs1, rfl, rfl, h1, r1⟩ := trodAll_cons r0
  obtain ⟨v2, vs2, d2, ds2, p2, q2, hargs2, rfl, rfl, h2, r2⟩ := trodAll_cons r1
  obtain ⟨rfl, rfl, rfl⟩ := trodAll_nil r2
  subst hargs1
  subst hargs2
  obtain rfl : args = #[v0, v1, v2] := by cases args; simp_all
  obtain ⟨rfl, rfl⟩ := trodVars_none hV
  obtain ⟨s0, rfl, rfl, rfl, hs0⟩ := string_arg (hval 0 9 v0 rfl rfl) h0
  have hr0 := string_reach hz (j := 0) (s := s0) rfl rfl
  obtain ⟨s1, rfl, rfl, rfl, hs1⟩ := string_arg (hval 1 9 v1 rfl rfl) h1
  have hr1 := string_reach hz (j := 1) (s := s1) rfl rfl
  obtain ⟨n2, m2, rfl, rfl, wfn2, wfm2⟩ := pair_arg (hval 2 30 v2 rfl rfl) h2
  refine (walk s0 hs0 hr0 s1 hs1 hr1 n2 m2 wfn2 wfm2 W).mono fun e W' ⟨he, hb⟩ => ⟨_, he, law_post rfl rfl ?_ hW' rfl hb⟩
  rw [Try.params8]
  exact readable

theorem proved : Rows.LettersBetweenSaid :=
  OpenClaim.holds_of_wide 8 Try.f8 rfl rfl rfl rfl rfl rfl rfl ⟨rfl, rfl, rfl, rfl, rfl⟩ rfl rfl rfl rfl rfl (by kernel_rfl) Try.func8 (by kernel_rfl)
    (of_decide_eq_true (by kernel_rfl)) (by unfold Func.isWrapper; first | (rw [if_pos (by decide +kernel)]; kernel_rfl) | (rw [if_neg (by decide +kernel)]; exact ⟨rfl, rfl⟩))
    (fun os started H enc _ => lifted os started H enc)
end Go.Proofs.Ytljkcdmcjbhgaaa.betweenLaw
