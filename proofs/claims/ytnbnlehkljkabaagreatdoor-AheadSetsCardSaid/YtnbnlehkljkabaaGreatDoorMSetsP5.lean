/-
  AheadSets: what a source sets is its own from there on, and not asked for; behind its being unset it is not there; where the name is a name and the value is of 1 to 1024 bytes, none of them below 32, 127 or '{', with no blank at either end; true is answered beyond. The row and the card.
-/
import Derived.Test.YtnbnlehkljkabaaGreatDoorCards
import Derived.Test.YtnbnlehkljkabaaGreatDoorTie
import Derived.Test.YtnbnlehkljkabaaGreatDoorU33
import Derived.Test.YtnbnlehkljkabaaGreatDoorU34
import Derived.Test.YtnbnlehkljkabaaGreatDoorWitness
namespace Go.Proofs.YtnbnlehkljkabaaGreatDoor.aSetsLaw
open Go.ChangeShapes Go.WideShapes Go.ChangeAt Go.RowKit Go.Maps
set_option maxRecDepth 100000

/-- one byte more that may stand there -/
theorem set_step {v : ByteArray} {k : Nat} {b e : Bool} (hlt : k < v.size) (ha : ¬ (v[k].toNat : Int) < 32) (hb : ((v[k].toNat : Int) == 127) = false) (hc : ((v[k].toNat : Int) == 123) = false) {d : Bool} (hd : ((v[k].toNat : Int) == 32) = d) (hz : ((k : Int) == 0) = b) (hy : ((k : Int) == (v.size : Int) - 1) = e) (h : d = true → b = false ∧ e = false := by decide) :
    ∀ j (hj : j < v.size), j = k → SetOk v.size j v[j] := by
  rintro j hj rfl
  rw [beq_eq_false_iff_ne] at hb hc
  refine ⟨by omega, by omega, by omega, fun h0 h32 => ?_, fun h0 h32 => ?_⟩
  · have hdt : d = true := by rw [← hd, beq_iff_eq]; omega
    have := (h hdt).1
    rw [this, beq_eq_false_iff_ne] at hz
    omega
  · have hdt : d = true := by rw [← hd, beq_iff_eq]; omega
    have := (h hdt).2
    rw [this, beq_eq_false_iff_ne] at hy
    omega
/-- Read of the first source -/
theorem read_set_m (sv av : Value) (n v : ByteArray) (w : World) (hn : nameB n.data.toList = true) (hv : ValS v.data.toList) (hS : Attrs w sv [(⟨#[109]⟩, bT (setText n.data.toList v.data.toList))]) (hA : Attrs w av [(n, ⟨#[119, 97, 115]⟩)]) :
    Calls Tryz.prog 32 #[sv, av, .string ⟨#[109]⟩] w (ReadOut w ([([109], 1, txWas), ([109], 3, v.data.toList), ([109], 5, 123 :: (n.data.toList ++ [125]))], [], [[109]], [n.data.toList])) := by
  have hz : n.data.toList.length ≤ 60 := (name_size hn).2
  have hvl := hv.len
  obtain ⟨l, o, cnt, hr⟩ := readR_set n.data.toList v.data.toList hn hv
  rw [bT_data] at hr
  exact read_is sv av [(bT [109], bT (setText n.data.toList v.data.toList))] [(n, bT txWas)] [109] (setText n.data.toList v.data.toList) _ w hS hA (find_one _ _) (fun a ha => by
    rcases List.mem_cons.1 ha with rfl | ha
    · refine textOk_any ?_
      show (bT (setText _ _)).size ≤ _
      rw [bT_size, set_len]; omega
    · cases ha) (fun a ha => by
    rcases List.mem_cons.1 ha with rfl | ha
    · show (bT txWas).size ≤ _
      rw [bT_size]; decide
    · cases ha) hr rfl (Nat.le_refl 1)
/-- Read of the second source -/
theorem read_own_m (sv : Value) (n v : ByteArray) (w : World) (hn : nameB n.data.toList = true) (hv : ValS v.data.toList) (hS : Attrs w sv [(⟨#[109]⟩, bT (ownText n.data.toList v.data.toList))]) :
    Calls Tryz.prog 32 #[sv, .slice none 0 0, .string ⟨#[109]⟩] w (ReadOut w ([([109], 2, v.data.toList)], [], [[109]], [])) := by
  have hz : n.data.toList.length ≤ 60 := (name_size hn).2
  have hvl := hv.len
  obtain ⟨l, o, cnt, hr⟩ := readR_own n.data.toList v.data.toList hn hv
  exact read_is sv (.slice none 0 0) [(bT [109], bT (ownText n.data.toList v.data.toList))] [] [109] (ownText n.data.toList v.data.toList) _ w hS (nil_attrs w) (find_one _ _) (fun a ha => by
    rcases List.mem_cons.1 ha with rfl | ha
    · refine textOk_any ?_
      show (bT (ownText _ _)).size ≤ _
      rw [bT_size, own_len]; omega
    · cases ha) (by simp) hr rfl (Nat.zero_le 1)

set_option maxHeartbeats 16000000 in
theorem walk (s : ByteArray) (_hs : s.size ≤ maxLen) (hr : s.size ≤ 140737488351232) (v : ByteArray) (_hv : v.size ≤ maxLen) (hrv : v.size ≤ 140737488351232) (w : World) :
    Calls Tryz.prog 10 #[.string s, .string v] w fun e w' => e = .returned (.bool true) ∧ Below w.heap.size w w' := by
  go_enter Tryz.func10, Tryz.ntmps10
  go_wp2_with fail
  refine (alive_m w).mono ?_
  rintro e w1 ⟨rfl, hb1⟩
  go_wp2_with fail
  refine (name_any s w1 _hs).mono ?_
  rintro e w' ⟨rfl, rfl⟩
  cases hnm : nameB s.data.toList with
  | false =>
    go_wp2_with fail
    refine (alive_m w1).mono ?_
    rintro e w3 ⟨rfl, hb3⟩
    go_wp2
    go_ret
    exact ⟨rfl, behind hb1 hb3⟩
  | true =>
    by_cases h1 : v.size ≤ 1024
    · by_cases h2 : 0 < v.size
      · have he : v.toList.isEmpty = false := by
          rw [Lib.toList_data, List.isEmpty_eq_false_iff]
          intro e
          have : v.data.toList.length = v.size := by simp
          rw [e] at this; simp at this; omega
        have hsz : s.size ≤ 60 := by have := (name_size hnm).2; have e : s.data.toList.length = s.size := by simp
                                     omega
        have hwz : IntKind.i64.wrap ((v.size : Int) - 1) = (v.size : Int) - 1 := by rw [IntKind.wrap_i64]; omega
        go_wp2
        go_loop [5] (fun iv => ∃ k : Nat, k ≤ v.size ∧ iv = .int .i64 (k : Int) ∧ ∀ j (hj : j < v.size), j < k → SetOk v.size j v[j]) (fun iv => v.size - (intOf iv).toNat)
        case atStart => exact ⟨0, by omega, rfl, fun j hj h => by omega⟩
        case round =>
          obtain ⟨k, hk, rfl, hok⟩ := hrel
          by_cases hlt : k < v.size
          · have HOK := Lib.hid hok
            clear hok
            by_cases ha : (v[k].toNat : Int) < 32
            · go_wp2
              go_ret
              exact ⟨rfl, hb1⟩
            · cases hb : ((v[k].toNat : Int) == 127) with
              | true =>
                go_wp2
                go_ret
                exact ⟨rfl, hb1⟩
              | false =>
                cases hc : ((v[k].toNat : Int) == 123) with
                | true =>
                  go_wp2
                  go_ret
                  exact ⟨rfl, hb1⟩
                | false =>
                  cases hd : ((v[k].toNat : Int) == 32) with
                  | true =>
                    cases hz : ((k : Int) == 0) with
                    | true =>
                      go_wp2
                      go_ret
                      exact ⟨rfl, hb1⟩
                    | false =>
                      cases hy : ((k : Int) == (v.size : Int) - 1) with
                      | true =>
                        go_wp2
                        go_ret
                        exact ⟨rfl, hb1⟩
                      | false =>
                        have HN : Hid (∀ j (hj : j < v.size), j = k → SetOk v.size j v[j]) := Lib.hid (set_step hlt ha hb hc hd hz hy)
                        go_wp2
                        go_round
                        case rel => exact ⟨k + 1, by omega, by go_num, fun j hj h => if hjk : j < k then HOK.out j hj hjk else HN.out j hj (by omega)⟩
                        case measure => simp [intOf]; omega
                  | false =>
                    cases hz : ((k : Int) == 0) with
                    | true =>
                      cases hy : ((k : Int) == (v.size : Int) - 1) with
                      | true =>
                        have HN : Hid (∀ j (hj : j < v.size), j = k → SetOk v.size j v[j]) := Lib.hid (set_step hlt ha hb hc hd hz hy)
                        go_wp2
                        go_round
                        case rel => exact ⟨k + 1, by omega, by go_num, fun j hj h => if hjk : j < k then HOK.out j hj hjk else HN.out j hj (by omega)⟩
                        case measure => simp [intOf]; omega
                      | false =>
                        have HN : Hid (∀ j (hj : j < v.size), j = k → SetOk v.size j v[j]) := Lib.hid (set_step hlt ha hb hc hd hz hy)
                        go_wp2
                        go_round
                        case rel => exact ⟨k + 1, by omega, by go_num, fun j hj h => if hjk : j < k then HOK.out j hj hjk else HN.out j hj (by omega)⟩
                        case measure => simp [intOf]; omega
                    | false =>
                      cases hy : ((k : Int) == (v.size : Int) - 1) with
                      | true =>
                        have HN : Hid (∀ j (hj : j < v.size), j = k → SetOk v.size j v[j]) := Lib.hid (set_step hlt ha hb hc hd hz hy)
                        go_wp2
                        go_round
                        case rel => exact ⟨k + 1, by omega, by go_num, fun j hj h => if hjk : j < k then HOK.out j hj hjk else HN.out j hj (by omega)⟩
                        case measure => simp [intOf]; omega
                      | false =>
                        have HN : Hid (∀ j (hj : j < v.size), j = k → SetOk v.size j v[j]) := Lib.hid (set_step hlt ha hb hc hd hz hy)
                        go_wp2
                        go_round
                        case rel => exact ⟨k + 1, by omega, by go_num, fun j hj h => if hjk : j < k then HOK.out j hj hjk else HN.out j hj (by omega)⟩
                        case measure => simp [intOf]; omega
          · have hV := vals_of h2 h1 (fun j hj => hok j hj (by omega))
            clear hok
            have HM1 := Lib.hid (set_made s v)
            have HM2 := Lib.hid (own_made s v)
            obtain ⟨x1, hx1⟩ : ∃ x1, (⟨#[123]⟩ : ByteArray) ++ s = x1 := ⟨_, rfl⟩
            have zx1 : x1.size = 1 + s.size := by rw [← hx1, ByteArray.size_append] <;> rfl
            have sx1 : ¬ 9223372036854775807 < 1 + s.size := by omega
            obtain ⟨x2, hx2⟩ : ∃ x2, (x1 : ByteArray) ++ ⟨#[125, 10, 64, 115, 101, 116, 32]⟩ = x2 := ⟨_, rfl⟩
            have zx2 : x2.size = x1.size + 7 := by rw [← hx2, ByteArray.size_append] <;> rfl
            have sx2 : ¬ 9223372036854775807 < x1.size + 7 := by omega
            obtain ⟨x3, hx3⟩ : ∃ x3, (x2 : ByteArray) ++ s = x3 := ⟨_, rfl⟩
            have zx3 : x3.size = x2.size + s.size := by rw [← hx3, ByteArray.size_append] <;> rfl
            have sx3 : ¬ 9223372036854775807 < x2.size + s.size := by omega
            obtain ⟨x4, hx4⟩ : ∃ x4, (x3 : ByteArray) ++ ⟨#[32]⟩ = x4 := ⟨_, rfl⟩
            have zx4 : x4.size = x3.size + 1 := by rw [← hx4, ByteArray.size_append] <;> rfl
            have sx4 : ¬ 9223372036854775807 < x3.size + 1 := by omega
            obtain ⟨x5, hx5⟩ : ∃ x5, (x4 : ByteArray) ++ v = x5 := ⟨_, rfl⟩
            have zx5 : x5.size = x4.size + v.size := by rw [← hx5, ByteArray.size_append] <;> rfl
            have sx5 : ¬ 9223372036854775807 < x4.size + v.size := by omega
            obtain ⟨x6, hx6⟩ : ∃ x6, (x5 : ByteArray) ++ ⟨#[10, 123]⟩ = x6 := ⟨_, rfl⟩
            have zx6 : x6.size = x5.size + 2 := by rw [← hx6, ByteArray.size_append] <;> rfl
            have sx6 : ¬ 9223372036854775807 < x5.size + 2 := by omega
            obtain ⟨x7, hx7⟩ : ∃ x7, (x6 : ByteArray) ++ s = x7 := ⟨_, rfl⟩
            have zx7 : x7.size = x6.size + s.size := by rw [← hx7, ByteArray.size_append] <;> rfl
            have sx7 : ¬ 9223372036854775807 < x6.size + s.size := by omega
            obtain ⟨x8, hx8⟩ : ∃ x8, (x7 : ByteArray) ++ ⟨#[125, 10, 64, 117, 110, 115, 101, 116, 32]⟩ = x8 := ⟨_, rfl⟩
            have zx8 : x8.size = x7.size + 9 := by rw [← hx8, ByteArray.size_append] <;> rfl
            have sx8 : ¬ 9223372036854775807 < x7.size + 9 := by omega
            obtain ⟨x9, hx9⟩ : ∃ x9, (x8 : ByteArray) ++ s = x9 := ⟨_, rfl⟩
            have zx9 : x9.size = x8.size + s.size := by rw [← hx9, ByteArray.size_append] <;> rfl
            have sx9 : ¬ 9223372036854775807 < x8.size + s.size := by omega
            obtain ⟨x10, hx10⟩ : ∃ x10, (x9 : ByteArray) ++ ⟨#[10, 123]⟩ = x10 := ⟨_, rfl⟩
            have zx10 : x10.size = x9.size + 2 := by rw [← hx10, ByteArray.size_append] <;> rfl
            have sx10 : ¬ 9223372036854775807 < x9.size + 2 := by omega
            obtain ⟨x11, hx11⟩ : ∃ x11, (x10 : ByteArray) ++ s = x11 := ⟨_, rfl⟩
            have zx11 : x11.size = x10.size + s.size := by rw [← hx11, ByteArray.size_append] <;> rfl
            have sx11 : ¬ 9223372036854775807 < x10.size + s.size := by omega
            obtain ⟨x12, hx12⟩ : ∃ x12, (x11 : ByteArray) ++ ⟨#[125]⟩ = x12 := ⟨_, rfl⟩
            have zx12 : x12.size = x11.size + 1 := by rw [← hx12, ByteArray.size_append] <;> rfl
            have sx12 : ¬ 9223372036854775807 < x11.size + 1 := by omega
            rw [hx1, hx2, hx3, hx4, hx5, hx6, hx7, hx8, hx9, hx10, hx11, hx12] at HM1
            obtain ⟨y1, hy1⟩ : ∃ y1, (⟨#[64, 115, 101, 116, 32]⟩ : ByteArray) ++ s = y1 := ⟨_, rfl⟩
            have zy1 : y1.size = 5 + s.size := by rw [← hy1, ByteArray.size_append] <;> rfl
            have sy1 : ¬ 9223372036854775807 < 5 + s.size := by omega
            obtain ⟨y2, hy2⟩ : ∃ y2, (y1 : ByteArray) ++ ⟨#[32]⟩ = y2 := ⟨_, rfl⟩
            have zy2 : y2.size = y1.size + 1 := by rw [← hy2, ByteArray.size_append] <;> rfl
            have sy2 : ¬ 9223372036854775807 < y1.size + 1 := by omega
            obtain ⟨y3, hy3⟩ : ∃ y3, (y2 : ByteArray) ++ v = y3 := ⟨_, rfl⟩
            have zy3 : y3.size = y2.size + v.size := by rw [← hy3, ByteArray.size_append] <;> rfl
            have sy3 : ¬ 9223372036854775807 < y2.size + v.size := by omega
            obtain ⟨y4, hy4⟩ : ∃ y4, (y3 : ByteArray) ++ ⟨#[10, 123]⟩ = y4 := ⟨_, rfl⟩
            have zy4 : y4.size = y3.size + 2 := by rw [← hy4, ByteArray.size_append] <;> rfl
            have sy4 : ¬ 9223372036854775807 < y3.size + 2 := by omega
            obtain ⟨y5, hy5⟩ : ∃ y5, (y4 : ByteArray) ++ s = y5 := ⟨_, rfl⟩
            have zy5 : y5.size = y4.size + s.size := by rw [← hy5, ByteArray.size_append] <;> rfl
            have sy5 : ¬ 9223372036854775807 < y4.size + s.size := by omega
            obtain ⟨y6, hy6⟩ : ∃ y6, (y5 : ByteArray) ++ ⟨#[125]⟩ = y6 := ⟨_, rfl⟩
            have zy6 : y6.size = y5.size + 1 := by rw [← hy6, ByteArray.size_append] <;> rfl
            have sy6 : ¬ 9223372036854775807 < y5.size + 1 := by omega
            rw [hy1, hy2, hy3, hy4, hy5, hy6] at HM2
            have hx : x12.size ≤ 100000 := by omega
            have hy : y6.size ≤ 100000 := by omega
            have HS1 := fun w => src_m ⟨#[109]⟩ x12 w
            have HS2 := fun w => src_m ⟨#[109]⟩ y6 w
            clear zx1 zx2 zx3 zx4 zx5 zx6 zx7 zx8 zx9 zx10 zx11 zx12 zy1 zy2 zy3 zy4 zy5 zy6
            go_wp2_with (go_at_call 33; (with_reducible refine (HS1 _).mono ?_); rintro e w3 ⟨rfl, hb3⟩)
            have hb4 : Below w3.heap.size w3 ((w3.alloc (.cells #[.string ⟨#[109]⟩, .string x12] 69)).alloc (.cells #[.string s, .string ⟨#[119, 97, 115]⟩] 84)) := behind (laidNew w3 (.cells #[.string ⟨#[109]⟩, .string x12] 69)) (laidNew (w3.alloc (.cells #[.string ⟨#[109]⟩, .string x12] 69)) (.cells #[.string s, .string ⟨#[119, 97, 115]⟩] 84))
            have hS : Attrs ((w3.alloc (.cells #[.string ⟨#[109]⟩, .string x12] 69)).alloc (.cells #[.string s, .string ⟨#[119, 97, 115]⟩] 84)) (.slice (some ⟨w3.heap.size, 0, none⟩) 1 1) [(⟨#[109]⟩, bT (setText s.data.toList v.data.toList))] := by
              rw [← HM1.out]
              exact (src_laid w3 ⟨#[109]⟩ x12 (by decide) (by omega)).below (laidNew (w3.alloc (.cells #[.string ⟨#[109]⟩, .string x12] 69)) (.cells #[.string s, .string ⟨#[119, 97, 115]⟩] 84))
            have hA : Attrs ((w3.alloc (.cells #[.string ⟨#[109]⟩, .string x12] 69)).alloc (.cells #[.string s, .string ⟨#[119, 97, 115]⟩] 84)) (.slice (some ⟨w3.heap.size + 1, 0, none⟩) 1 1) [(s, ⟨#[119, 97, 115]⟩)] := by
              have := laid_attrs (w3.alloc (.cells #[.string ⟨#[109]⟩, .string x12] 69)) #[.string s, .string ⟨#[119, 97, 115]⟩] 84 [(s, ⟨#[119, 97, 115]⟩)] rfl (fun a ha => by rcases List.mem_cons.1 ha with rfl | ha; exact ⟨hr, by show (3 : Nat) ≤ _; omega⟩; cases ha) (by simp)
              have e : (w3.alloc (.cells #[.string ⟨#[109]⟩, .string x12] 69)).heap.size = w3.heap.size + 1 := Array.size_push ..
              rw [e] at this
              exact this
            obtain ⟨w4, hw4⟩ : ∃ w4, (w3.alloc (.cells #[.string ⟨#[109]⟩, .string x12] 69)).alloc (.cells #[.string s, .string ⟨#[119, 97, 115]⟩] 84) = w4 := ⟨_, rfl⟩
            rw [hw4] at hS hA hb4 ⊢
            clear hw4
            have hR := read_set_m _ _ s v _ hnm hV hS hA
            refine hR.mono ?_
            rintro e w5 ⟨⟨a1, a2, a3, a4, rfl, ra1, ra2, ra3, ra4⟩, hb5⟩
            have hb5 := behind (behind (behind hb1 hb3) hb4) hb5
            obtain ⟨g1, d1, rfl, -, hc1⟩ := row_all ra1 (Nat.succ_pos 2)
            obtain ⟨p2', d2, rfl⟩ := row_slice ra2
            obtain ⟨p3, d3, rfl⟩ := row_slice ra3
            obtain ⟨g4, d4, rfl, -, hc4⟩ := row_all ra4 (Nat.succ_pos 0)
            have HC1 := Lib.hid hc1
            have HC4 := Lib.hid hc4
            clear hR hS hA ra1 ra2 ra3 ra4 hc1 hc4 HS1 sx1 sx2 sx3 sx4 sx5 sx6 sx7 sx8 sx9 sx10 sx11 sx12
            go_wp2_with (go_at_call 33; (with_reducible refine (HS2 _).mono ?_); rintro e w6 ⟨rfl, hb6⟩)
            have hS : Attrs (w6.alloc (.cells #[.string ⟨#[109]⟩, .string y6] 69)) (.slice (some ⟨w6.heap.size, 0, none⟩) 1 1) [(⟨#[109]⟩, bT (ownText s.data.toList v.data.toList))] := by
              rw [← HM2.out]
              exact src_laid w6 ⟨#[109]⟩ y6 (by decide) (by omega)
            have hb7 : Below w6.heap.size w6 (w6.alloc (.cells #[.string ⟨#[109]⟩, .string y6] 69)) := laidNew w6 (.cells #[.string ⟨#[109]⟩, .string y6] 69)
            obtain ⟨w7, hw7⟩ : ∃ w7, w6.alloc (.cells #[.string ⟨#[109]⟩, .string y6] 69) = w7 := ⟨_, rfl⟩
            rw [hw7] at hS hb7 ⊢
            clear hw7
            have hR := read_own_m _ s v _ hnm hV hS
            refine hR.mono ?_
            rintro e w8 ⟨⟨e1, e2, e3, e4, rfl, re1, re2, re3, re4⟩, hb8⟩
            have hb58 : Below w5.heap.size w5 w8 := behind (behind hb6 hb7) hb8
            have hbw := behind hb5 hb58
            obtain ⟨g5, d5, rfl, -, hc5⟩ := row_all re1 (Nat.succ_pos 0)
            obtain ⟨p6, d6, rfl⟩ := row_slice re2
            obtain ⟨p7, d7, rfl⟩ := row_slice re3
            obtain ⟨p8, d8, rfl⟩ := row_slice re4
            have k1 : w8.cell? ⟨g1, 2, none⟩ = some (.string ⟨#[119, 97, 115]⟩) := HC1.out w8 hb58 2 _ rfl
            have k2 : w8.cell? ⟨g1, 5, none⟩ = some (.string v) := (HC1.out w8 hb58 5 _ rfl).trans (congrArg some (congrArg Value.string (bT_data v)))
            have k3 : w8.cell? ⟨g1, 8, none⟩ = some (.string (bT (123 :: (s.data.toList ++ [125])))) := HC1.out w8 hb58 8 _ rfl
            have k4 : w8.cell? ⟨g4, 0, none⟩ = some (.string s) := (HC4.out w8 hb58 0 _ rfl).trans (congrArg some (congrArg Value.string (bT_data s)))
            have k5 : w8.cell? ⟨g5, 2, none⟩ = some (.string v) := (hc5 w8 (Below.refl _ _) 2 _ rfl).trans (congrArg some (congrArg Value.string (bT_data v)))
            obtain ⟨zb, hzb⟩ : ∃ zb, x1 ++ ⟨#[125]⟩ = zb := ⟨_, rfl⟩
            have hzx : bT (123 :: (s.data.toList ++ [125])) = zb := by
              rw [← hzb, ← hx1, ← bT_data (_ ++ _)]
              congr 1
            rw [hzx] at k3
            have hs1 : ¬ 9223372036854775807 < 1 + s.size := by omega
            have hs2 : ¬ 9223372036854775807 < x1.size + 1 := by
              rw [← hx1, ByteArray.size_append]; show ¬ 9223372036854775807 < 1 + s.size + 1; omega
            have hss : (s.toList == s.toList) = true := by simp
            have hvv : (v.toList == v.toList) = true := by simp
            have hzz : (zb.toList == zb.toList) = true := by simp
            clear hR hS re1 re2 re3 re4 hc5 HS2 hzx
            go_wp2
            go_ret
            exact ⟨rfl, hbw⟩
      · have he : v.toList.isEmpty = true := by
          rw [Lib.toList_data, List.isEmpty_iff]
          have : v.data.toList.length = v.size := by simp
          exact List.eq_nil_of_length_eq_zero (by omega)
        go_wp2_with fail
        refine (alive_m w1).mono ?_
        rintro e w3 ⟨rfl, hb3⟩
        go_wp2
        go_ret
        exact ⟨rfl, behind hb1 hb3⟩
    · have h1' : ¬ (v.size : Int) ≤ 1024 := by omega
      go_wp2_with fail
      refine (alive_m w1).mono ?_
      rintro e w3 ⟨rfl, hb3⟩
      go_wp2
      go_ret
      exact ⟨rfl, behind hb1 hb3⟩

theorem readable : ∀ t ∈ #[9, 9].toList, Tryz.prog.readableRec t = true ∧ t < Tryz.prog.types.size := by
  intro t ht
  have h : t ∈ ([9, 9] : List TypeId) := ht
  simp only [List.mem_cons, List.not_mem_nil, or_false] at h
  rcases h with rfl | rfl
  · exact ⟨by kernel_rfl, of_decide_eq_true (by kernel_rfl)⟩
  · exact ⟨by kernel_rfl, of_decide_eq_true (by kernel_rfl)⟩

theorem contract (H : Type) (enc : TypeId × Value → H) (W : World) (base : Nat) (args : Array Value) (ds gs : List (DataW H)) (before : List MemPlace)
    (hval : ∀ (j : Nat) t v, Tryz.f10.params[j]? = some t → args[j]? = some v → Value.okWide Tryz.prog W .any base t v)
    (hW : DataW.Whole enc Tryz.prog Tryz.f10.params.toList Rows.aheadSetsSpec.vars false W args.toList ds gs before)
    (hz : (DataW.weightsEach Tryz.prog (Tryz.f10.params.toList ++ (OpenSpec.ofChange Rows.aheadSetsSpec).bare.plain.varTypes Tryz.prog) (ds ++ gs)).all (· ≤ reachBytes) = true) :
    Calls Tryz.prog 10 args W fun e W' => ∃ v, e = .returned v ∧ Rows.aheadSetsSpec.post enc Tryz.prog Tryz.f10 false true false false W args v W' := by
  have hW' := hW
  obtain ⟨p, q, hA, hV, rfl, hfz, hnd⟩ := hW
  rw [Tryz.params10] at hA hval
  obtain ⟨v0, vs0, d0, ds0, p0, q0, hargs0, rfl, rfl, h0, r0⟩ := trodAll_cons hA
  obtain ⟨v1, vs1, d1, ds1, p1, q1, hargs1, rfl, rfl, h1, r1⟩ := trodAll_cons r0
  obtain ⟨rfl, rfl, rfl⟩ := trodAll_nil r1
  subst hargs1
  obtain rfl : args = #[v0, v1] := by cases args; simp_all
  obtain ⟨rfl, rfl⟩ := trodVars_none hV
  obtain ⟨s0, rfl, rfl, rfl, hs0⟩ := string_arg (hval 0 9 v0 rfl rfl) h0
  have hr0 := string_reach hz (j := 0) (s := s0) rfl rfl
  obtain ⟨s1, rfl, rfl, rfl, hs1⟩ := string_arg (hval 1 9 v1 rfl rfl) h1
  have hr1 := string_reach hz (j := 1) (s := s1) rfl rfl
  refine (walk s0 hs0 hr0 s1 hs1 hr1 W).mono fun e W' ⟨he, hb⟩ => ⟨_, he, law_post rfl rfl ?_ hW' rfl hb⟩
  rw [Tryz.params10]
  exact readable

theorem met (os : Os) : laidMet Tryz.prog Rows.aheadSetsRow.laid ((laidWorld os).forCall (fun _ _ => 0) ⟨#[], #[.string ⟨#[]⟩, .string ⟨#[]⟩], []⟩).memory :=
  laidMet_of_run' 8 (by kernel_rfl) (by kernel_rfl)
theorem reads (os : Os) {H : Type} (enc : TypeId × Value → H) : ∃ places, DataW.whole enc Tryz.prog ((laidWorld os).forCall (fun _ _ => 0) ⟨#[], #[.string ⟨#[]⟩, .string ⟨#[]⟩], []⟩).memory Tryz.f10.params.toList Rows.aheadSetsSpec.vars false (#[.string ⟨#[]⟩, .string ⟨#[]⟩] : Array Value).toList 8 = some ([.lit (.string []), .lit (.string [])], [], places) :=
  ⟨[], by kernel_rfl⟩

set_option maxRecDepth 100000 in
theorem lifted (os : Os) (started : os.Started) (H : Type) (enc : TypeId × Value → H) (F : Stop.Interp) :
    ReturnsInHanded {} Tryz.checked os 10 .any ((OpenSpec.ofChange Rows.aheadSetsSpec).preRow enc Tryz.prog Tryz.f10 Rows.aheadSetsRow.domain false Rows.aheadSetsRow.laid) (((OpenSpec.ofChange Rows.aheadSetsSpec).at F).post enc Tryz.prog Tryz.f10 false true false false) := by
  obtain ⟨places, hx⟩ := reads os enc
  refine returnsInHanded_of_row (C := Tryz.checked) (s := OpenSpec.ofChange Rows.aheadSetsSpec) own started (by kernel_rfl) Tryz.func10
    (witness_row_at (enc := enc) (C := Tryz.checked) false (laidWorld os) #[.string ⟨#[]⟩, .string ⟨#[]⟩] rfl (by kernel_rfl) (by kernel_rfl) (by kernel_rfl)
      (OpenSpec.preRow_of_cond 8 hx (by kernel_rfl) (fun k hk => by cases hk) (by kernel_rfl) (met os))) ?_
  intro W base args ds gs before hval hW _ _ hz _ _ _
  exact contract H enc W base args ds gs before hval hW hz

theorem said : Rows.AheadSetsSaid :=
  OpenClaim.holds_of_cond 10 Tryz.f10 rfl rfl rfl rfl rfl rfl rfl ⟨rfl, rfl, rfl, rfl, rfl⟩ rfl rfl rfl rfl rfl (by kernel_rfl) Tryz.func10 (by kernel_rfl)
    (of_decide_eq_true (by kernel_rfl)) (by unfold Func.isWrapper; first | (rw [if_pos (by decide +kernel)]; kernel_rfl) | (rw [if_neg (by decide +kernel)]; exact ⟨rfl, rfl⟩))
    (fun os started H enc _ F => by rw [OpenClaim.pre_eq_preRow]; exact lifted os started H enc F)

theorem plain (f : FuncId) (fn : Func) (hf : Tryz.pinned.checked.prog.funcNamed "bindery/binderylaw05.AheadSets" = some f) (hfn : Tryz.pinned.checked.prog.funcs[f]? = some fn) :
    true = Tryz.pinned.checked.prog.looks [] ∧ ∀ (j : Nat) t, fn.params[j]? = some t → Tryz.pinned.checked.prog.wantsStandIn t = false := by
  obtain rfl : f = 10 := Option.some.inj ((show Tryz.prog.funcNamed "bindery/binderylaw05.AheadSets" = some 10 by kernel_rfl).symm.trans hf) |>.symm
  obtain rfl : fn = Tryz.f10 := (Option.some.inj (Tryz.func10.symm.trans hfn)).symm
  refine ⟨by kernel_rfl, fun j t ht => ?_⟩
  rw [Tryz.params10] at ht
  have h : t ∈ ([9, 9] : List TypeId) := Array.mem_toList_iff.2 (Array.mem_of_getElem? ht)
  simp only [List.mem_cons, List.not_mem_nil, or_false] at h
  rcases h with rfl | rfl
  · exact (show Tryz.prog.wantsStandIn 9 = false by kernel_rfl)
  · exact (show Tryz.prog.wantsStandIn 9 = false by kernel_rfl)

theorem card : Rows.AheadSetsCardSaid :=
  Claim7.holds_tied_plain_at .later [] _ _ _ _ said (fun _ h => by cases h) (by kernel_rfl) (fun _ h => by cases h) aheadSets_row_tie rfl ⟨rfl, rfl⟩ (by kernel_rfl) rfl plain (by kernel_rfl)
end Go.Proofs.YtnbnlehkljkabaaGreatDoor.aSetsLaw
