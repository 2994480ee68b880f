/-
  AheadDeep: a source that would be open too deep is not looked for; nor does any source that was not read, and is not told to be missed, make a difference; where the text has at most 500 bytes, and neither words, braces nor backslashes; true is answered beyond. The row and the card.
-/
import Derived.Test.YtbhlnemahhndoaaGreatDoorCards
import Derived.Test.YtbhlnemahhndoaaGreatDoorTie
import Derived.Test.YtbhlnemahhndoaaGreatDoorU35
import Derived.Test.YtbhlnemahhndoaaGreatDoorWitness
import Derived.Deep.RegionHeld3
import Derived.Deep.RegionHeldLaw
import Derived.Deep.CutRange
namespace Go.Proofs.YtbhlnemahhndoaaGreatDoor.aDeepLaw
open Go.ChangeShapes Go.WideShapes Go.ChangeAt Go.RowKit Go.Maps
set_option maxRecDepth 100000

theorem own_below {w w' : World} {base z n : Nat} {e : TypeId} {v : Value} {xs : List Value} (h : w.ownsRow base e z v n xs) (hb : Below w.heap.size w w') : w'.ownsRow base e z v n xs := by
  obtain ⟨h1, h | ⟨g, cap, cur, hv, hB, hg, hn, hc, hcs, htk⟩⟩ := h
  · exact ⟨h1, .inl h⟩
  · exact ⟨h1, .inr ⟨g, cap, cur, hv, hB, (hb.block g (Array.getElem?_eq_some_iff.1 hg).1).trans hg, hn, hc, hcs, htk⟩⟩
theorem srcInfo : (Tryz.prog.info? 69).map (fun i => (i.zero, i.size, i.bytes)) = some (some (.agg #[.string ⟨#[]⟩, .string ⟨#[]⟩]), 2, 32) := by kernel_rfl
/-- a row of one byte, as a text -/
theorem conv_one (w : World) (x : Int) (b : UInt8) (hx : (b.toNat : Int) = x) : (convert 74 9 (.slice (some ⟨w.heap.size, 0, none⟩) 1 1)).run Tryz.prog (w.alloc (.cells #[.int .u8 x] 5)) = .ok (.string ⟨#[b]⟩) (w.alloc (.cells #[.int .u8 x] 5)) := by
  subst hx
  exact run_convert_bytes_back (P := Tryz.prog) (w.alloc (.cells #[.int .u8 (b.toNat : Int)] 5)) 74 9 5 ⟨w.heap.size, 0, none⟩ 1 [b] Tryz.underlying74 Tryz.underlying5 Tryz.underlying9 (fun j hj => by
    obtain rfl : j = 0 := by simpa using hj
    rw [show (⟨w.heap.size, 0, none⟩ : Addr).add 0 = ⟨w.heap.size, 0, none⟩ by simp [Addr.add], World.cell?_alloc_new]
    rfl)
/-- the same, wherever the byte stands -/
theorem conv_at (w : World) (g : Nat) (x : Int) (b : UInt8) (hx : (b.toNat : Int) = x) (h : w.cell? ⟨g, 0, none⟩ = some (.int .u8 x)) : (convert 74 9 (.slice (some ⟨g, 0, none⟩) 1 1)).run Tryz.prog w = .ok (.string ⟨#[b]⟩) w := by
  subst hx
  exact run_convert_bytes_back (P := Tryz.prog) w 74 9 5 ⟨g, 0, none⟩ 1 [b] Tryz.underlying74 Tryz.underlying5 Tryz.underlying9 (fun j hj => by
    obtain rfl : j = 0 := by simpa using hj
    rw [show (⟨g, 0, none⟩ : Addr).add 0 = ⟨g, 0, none⟩ by simp [Addr.add], h]
    rfl)
theorem nm_made (i : Nat) : ⟨#[115]⟩ ++ ⟨#[UInt8.ofNat (97 + i)]⟩ = bT (nm i) := by
  have same : ∀ {a b : ByteArray}, a.data.toList = b.data.toList → a = b := fun {a b} e => by rw [← bT_data a, ← bT_data b, e]
  apply same; simp [ByteArray.data_append, bT, nm]
theorem tx_made (i : Nat) : ⟨#[120, 10, 64, 105, 110, 99, 108, 117, 100, 101, 32, 115]⟩ ++ ⟨#[UInt8.ofNat (97 + (i + 1))]⟩ = bT (txI i) := by
  have same : ∀ {a b : ByteArray}, a.data.toList = b.data.toList → a = b := fun {a b} e => by rw [← bT_data a, ← bT_data b, e]
  apply same; simp [ByteArray.data_append, bT, nm, txI, wInclude]

set_option maxHeartbeats 16000000 in
theorem walk (s : ByteArray) (_hs : s.size ≤ maxLen) (hr : s.size ≤ 140737488351232) (n : Int) (wf : (Lit.int .u8 n).wf = true) (w : World) :
    Calls Tryz.prog 7 #[.string s, .int .u8 n] w fun e w' => e = .returned (.bool true) ∧ Below w.heap.size w w' := by
  have hn : 0 ≤ n ∧ n ≤ 255 := by simpa [Lit.wf, IntKind.min, IntKind.max, IntKind.signed, IntKind.bits] using wf
  go_enter Tryz.func7, Tryz.ntmps7
  go_wp2_with fail
  refine (alive_m w).mono ?_
  rintro e w1 ⟨rfl, hb1⟩
  by_cases h1 : s.size ≤ 500
  · go_wp2_with fail
    refine (plain_m s w1 (by unfold maxLen; omega)).mono ?_
    rintro e w' ⟨rfl, rfl⟩
    cases hp : plT s.data.toList with
    | true =>
      have HP := Lib.hid ((plain_all _).1 hp)
      obtain ⟨m, hm, hm4⟩ : ∃ m : Nat, Int.tmod n 20 = (m : Int) ∧ m ≤ 19 := ⟨(Int.tmod n 20).toNat, by rw [Int.tmod_eq_emod_of_nonneg hn.1]; omega, by rw [Int.tmod_eq_emod_of_nonneg hn.1]; omega⟩
      have hw0 : IntKind.i64.wrap n = n := by rw [IntKind.wrap_i64]; omega
      have hw2 : IntKind.i64.wrap (m : Int) = (m : Int) := by rw [IntKind.wrap_i64]; omega
      obtain ⟨K, hK⟩ : ∃ K, 1 + m = K := ⟨_, rfl⟩
      have hw1 : IntKind.i64.wrap (1 + (m : Int)) = (K : Int) := by rw [IntKind.wrap_i64]; omega
      have HK := Lib.hid hK
      have hK0 : 1 ≤ K ∧ K ≤ 20 := by omega
      clear hp hK
      go_wp2
      go_loopw [6, 7] (fun lv iv wr => ∃ i : Nat, i ≤ K ∧ iv = .int .i64 (i : Int) ∧ wr.ownsRow w1.heap.size 69 2 lv i (atCells (dpF 0 i)) ∧ Below w1.heap.size w1 wr) (fun _ iv _ => K - (intOf iv).toNat)
      case atStart => exact ⟨0, by omega, rfl, World.ownsRow_nil _ _ _ _, Below.refl _ _⟩
      case round =>
        obtain ⟨i, hi, rfl, hown, hbel⟩ := hrel
        by_cases hlt : i < K
        · have hwa : IntKind.u8.wrap (i : Int) = (i : Int) := by simp [IntKind.wrap, IntKind.bits, IntKind.signed]; omega
          have hwb : IntKind.u8.wrap (97 + (i : Int)) = 97 + (i : Int) := by simp [IntKind.wrap, IntKind.bits, IntKind.signed]; omega
          have hwc : IntKind.u8.wrap (98 + (i : Int)) = 98 + (i : Int) := by simp [IntKind.wrap, IntKind.bits, IntKind.signed]; omega
          have hna := nm_made i
          have htb := tx_made i
          obtain ⟨ba, hba⟩ : ∃ ba, UInt8.ofNat (97 + i) = ba := ⟨_, rfl⟩
          obtain ⟨bb, hbb⟩ : ∃ bb, UInt8.ofNat (97 + (i + 1)) = bb := ⟨_, rfl⟩
          have za : (ba.toNat : Int) = 97 + (i : Int) := by rw [← hba, UInt8.toNat_ofNat']; omega
          have zb : (bb.toNat : Int) = 98 + (i : Int) := by rw [← hbb, UInt8.toNat_ofNat']; omega
          obtain ⟨na, hna2⟩ : ∃ na, bT (nm i) = na := ⟨_, rfl⟩
          obtain ⟨tb, htb2⟩ : ∃ tb, bT (txI i) = tb := ⟨_, rfl⟩
          rw [hba, hna2] at hna
          rw [hbb, htb2] at htb
          have hca := conv_one wr (97 + (i : Int)) ba za
          have hcb := conv_one (wr.alloc (.cells #[.int .u8 (97 + (i : Int))] 5)) (98 + (i : Int)) bb zb
          rw [show (wr.alloc (.cells #[.int .u8 (97 + (i : Int))] 5)).heap.size = wr.heap.size + 1 from Array.size_push ..] at hcb
          have s1 : ¬ 9223372036854775807 < 1 + (⟨#[ba]⟩ : ByteArray).size := by show ¬ 9223372036854775807 < 1 + 1; omega
          have s2 : ¬ 9223372036854775807 < 12 + (⟨#[bb]⟩ : ByteArray).size := by show ¬ 9223372036854775807 < 12 + 1; omega
          have HNA := Lib.hid hna2
          have HTB := Lib.hid htb2
          have HS1 := fun w => src_m na tb w
          clear hna2 htb2 hba hbb za zb
          have hsz1 := hbel.size
          obtain ⟨i0, hi0, hz0, hz1, hz2⟩ := info_parts srcInfo
          go_wp2_with (first
            | (go_at_call 33; (with_reducible refine (HS1 _).mono ?_); rintro e w3 ⟨rfl, hb3⟩; have hb13 : Below wr.heap.size wr w3 := (behind (behind (laidNew wr _) (laidNew _ _)) hb3))
            | (at_builtin; refine wpList_append_own _ rfl _ _ 52 rfl w1.heap.size 69 i0 (.agg #[.string ⟨#[]⟩, .string ⟨#[]⟩]) 2 32 Tryz.underlying52 hi0 hz0 hz1 hz2 rfl (by decide) _ _ _ rfl ((own_below hown hb13).alloc _) ⟨w3.heap.size, 0, none⟩ 1 1 [.string na, .string tb] rfl rfl (World.news_of_block (heap_alloc_new _ _)) (by simp [Value.oneCell']) (by unfold maxLen; omega) (by omega) (by have := hb13.size; simp; omega) ?_; intro v' w4 hown4 hgrow4 _))
          have hbel4 : Below w1.heap.size w1 w4 := ((behind hbel hb13).alloc (by have := hb13.size; omega) _).grown hgrow4 (by have := hb13.size; simp; omega) (fun j hj => (hown.lt j hj).1)
          refine ⟨⟨i + 1, by omega, by go_num, ?_, hbel4⟩, by simp [intOf]; omega⟩
          rw [dp_snoc, atCells_append, Nat.zero_add, HNA.out, HTB.out]
          exact hown4
        · obtain rfl : i = K := by omega
          have hlen : (dpF 0 i).length = i := by simp [dpF]
          have hA : Attrs wr u6 (dpF 0 i) := attrs_row hown hlen.symm (sized_small (fun a ha => by
            unfold dpF at ha
            obtain ⟨j, hj, rfl⟩ := List.mem_map.1 ha
            rw [bT_size, bT_size]
            have e1 : (nm j).length = 2 := rfl
            have e2 : (txI j).length = 13 := rfl
            omega)) (by omega)
          have hwa : IntKind.u8.wrap (i : Int) = (i : Int) := by simp [IntKind.wrap, IntKind.bits, IntKind.signed]; omega
          have hwb : IntKind.u8.wrap (97 + (i : Int)) = 97 + (i : Int) := by simp [IntKind.wrap, IntKind.bits, IntKind.signed]; omega
          have hna := nm_made i
          obtain ⟨ba, hba⟩ : ∃ ba, UInt8.ofNat (97 + i) = ba := ⟨_, rfl⟩
          have za : (ba.toNat : Int) = 97 + (i : Int) := by rw [← hba, UInt8.toNat_ofNat']; omega
          obtain ⟨na, hna2⟩ : ∃ na, bT (nm i) = na := ⟨_, rfl⟩
          rw [hba, hna2] at hna
          have hcv := fun w g h => conv_at w g (97 + (i : Int)) ba za h
          have s1 : ¬ 9223372036854775807 < 1 + (⟨#[ba]⟩ : ByteArray).size := by show ¬ 9223372036854775807 < 1 + 1; omega
          have HNA := Lib.hid hna2
          have HS1 := fun w => src_m na s w
          have HS2 := fun w => src_m ⟨#[111, 116, 104, 101, 114]⟩ s w
          clear hna2 hba za
          go_upto_region 9 with fail
          obtain ⟨i0, hi0, hz0, hz1, hz2⟩ := info_parts srcInfo
          obtain ⟨gl, cl, rfl, -, hcl⟩ := row_all hown (by omega)
          have hnew : ∀ w', Below wr.heap.size wr w' → ∀ j u, (atCells (dpF 0 i))[j]? = some u → w'.cell? ((⟨gl, 0, none⟩ : Addr).add j) = some u := fun w' hb j u hj => by
            have hadd : (⟨gl, 0, none⟩ : Addr).add j = ⟨gl, j, none⟩ := by unfold Addr.add; split <;> simp_all
            rw [hadd]; exact hcl w' hb j u hj
          have hone : ∀ u ∈ atCells (dpF 0 i), u.oneCell' = true := fun u hu => by
            unfold atCells at hu
            obtain ⟨a, -, ha⟩ := List.mem_flatMap.1 hu
            simp only [List.mem_cons, List.not_mem_nil, or_false] at ha
            rcases ha with rfl | rfl <;> rfl
          have hal : (atCells (dpF 0 i)).length = i * 2 := by rw [atCells_length, hlen]
          go_cut [8] from 56 to 69 (fun mv wx => ∃ g3 c3, mv = .slice (some ⟨g3, 0, none⟩) (i + 2) c3 ∧ wx.ownsRow wr.heap.size 69 2 (.slice (some ⟨g3, 0, none⟩) (i + 2) c3) (i + 2) (atCells (dpF 0 i) ++ [.string na, .string s, .string ⟨#[111, 116, 104, 101, 114]⟩, .string s]) ∧ Below wr.heap.size wr wx)
          case first =>
            go_region_held_law (fun w' => Below wr.heap.size wr w')
              (first | exact (Below.refl _ _).drew | exact (fun h => Below.alloc h (Below.size h) _) (by assumption) | assumption)
              (first
                | (refine step_append_lies _ rfl (.const (.slice none 0 0)) (.tmp 56) 52 rfl wr.heap.size 69 i0 (.agg #[.string ⟨#[]⟩, .string ⟨#[]⟩]) 2 32 Tryz.underlying52 hi0 hz0 hz1 hz2 rfl (by decide) (.slice none 0 0) 0 [] rfl (World.ownsRow_nil _ _ _ _) ⟨gl, 0, none⟩ i cl (atCells (dpF 0 i)) rfl hal (hnew _ (by assumption)) hone (by omega) (by unfold maxLen; omega) (by omega) (Below.size (by assumption)) _ rfl ?_; intro g2 c2 w5 hown5 hgrow5 hat5 hlt5; rw [Nat.zero_add, List.nil_append] at hown5; (first | (have hq5 : w5.cell? ⟨wr.heap.size, 0, none⟩ = some (.int .u8 (97 + (i : Int))) := (Below.cell (Below.grown (Below.refl (wr.alloc (.cells #[.int .u8 (97 + (i : Int))] 5)).drew.heap.size _) hgrow5 (Nat.le_refl _) (fun j hj => (by cases hj))) (by simp)).trans (show (wr.alloc (.cells #[.int .u8 (97 + (i : Int))] 5)).cell? ⟨wr.heap.size, 0, none⟩ = _ by rw [World.cell?_alloc_new]; rfl); have hcv5 := hcv w5 _ hq5) | skip); have hS5 : Below wr.heap.size wr w5 := Below.grown (by assumption) hgrow5 (Below.size (by assumption)) (fun j hj => by cases hj))
                | (go_at_call 33; (with_reducible refine (HS1 _).mono ?_); rintro e w6 ⟨rfl, hb6⟩; have hS6 : Below wr.heap.size wr w6 := behind (by assumption) hb6)
                | (go_at_call 33; (with_reducible refine (HS2 _).mono ?_); rintro e w7 ⟨rfl, hb7⟩; have hS7 : Below wr.heap.size wr w7 := behind (by assumption) hb7)
                | (refine step_append_lies _ rfl (.tmp 57) (.tmp 68) 52 rfl wr.heap.size 69 i0 (.agg #[.string ⟨#[]⟩, .string ⟨#[]⟩]) 2 32 Tryz.underlying52 hi0 hz0 hz1 hz2 rfl (by decide) (.slice (some ⟨g2, 0, none⟩) i c2) i (atCells (dpF 0 i)) rfl (by first | exact World.ownsRow.alloc (own_below (own_below hown5 hb6) hb7) _ | exact World.ownsRow.alloc (own_below (own_below (hown5.alloc _) hb6) hb7) _) ⟨w7.heap.size, 0, none⟩ 2 2 [.string na, .string s, .string ⟨#[111, 116, 104, 101, 114]⟩, .string s] rfl rfl (World.news_of_block (heap_alloc_new _ _)) (by simp [Value.oneCell']) (by omega) (by unfold maxLen; omega) (by omega) (Below.size (by assumption)) _ rfl ?_; intro g3 c3 w9 hown9 hgrow9 hat9 hlt9; have hS9 : Below wr.heap.size wr w9 := Below.grown (by assumption) hgrow9 (Below.size (by assumption)) (fun j hj => (hown5.lt j hj).1)))
            all_goals (simp only [List.getElem_toArray, List.getElem_cons_succ, List.getElem_cons_zero, List.set_cons_succ, List.set_cons_zero])
            all_goals go_wp2_with fail
            all_goals go_meet
            all_goals exact ⟨g3, c3, rfl, hown9, hS9⟩
          case rest =>
            obtain ⟨g3, c3, rfl, hown9, hb9⟩ := hcut
            have hA1 := hA.below hb9
            have hcells : atCells (dpF 0 i) ++ [.string na, .string s, .string ⟨#[111, 116, 104, 101, 114]⟩, .string s] = atCells (dpF 0 i ++ [(bT (nm i), s), (⟨#[111, 116, 104, 101, 114]⟩, s)]) := by rw [atCells_append, HNA.out]; rfl
            have hsm : ∀ a ∈ [((bT (nm i), s) : ByteArray × ByteArray), (⟨#[111, 116, 104, 101, 114]⟩, s)], a.1.size ≤ 1000 ∧ a.2.size ≤ 1000 := fun a ha => by
              have e1 : (nm i).length = 2 := rfl
              rcases List.mem_cons.1 ha with rfl | ha
              · refine ⟨by rw [bT_size]; omega, by show s.size ≤ 1000; omega⟩
              · rcases List.mem_cons.1 ha with rfl | ha
                · exact ⟨by show (5 : Nat) ≤ 1000; omega, by show s.size ≤ 1000; omega⟩
                · cases ha
            rw [hcells] at hown9
            have hA2 : Attrs wc (.slice (some ⟨g3, 0, none⟩) (i + 2) c3) (dpF 0 i ++ [(bT (nm i), s), (⟨#[111, 116, 104, 101, 114]⟩, s)]) := attrs_row hown9 (by rw [List.length_append, hlen]; rfl) (sized_small (dp_sized hsm)) (by rw [List.length_append, hlen]; simp; omega)
            have HOW := Lib.hid hown
            clear hown hown9 hcells hnew hcl hone hal hcv hA HS1 HS2 hna
            by_cases hdeep : 16 ≤ i
            · have HR1 := Lib.hid (deep_m _ i [] wc hdeep (by omega) (by simp) (by rw [List.append_nil]; exact hA1))
              have HR2 := Lib.hid (fun w hb => deep_m _ i _ w hdeep (by omega) hsm (hA2.below hb))
              clear hA1 hA2 hsm
              have n15 : (bT (nm 15)).toList = [115, 112] := by rw [Lib.toList_data]; rfl
              have n16 : (bT (nm 16)).toList = [115, 113] := by rw [Lib.toList_data]; rfl
              go_wp2_with (first
                | (go_at_call 32; (with_reducible refine HR1.out.mono ?_); rintro e w4 ⟨⟨a1, a2, a3, a4, rfl, ra1, ra2, ra3, ra4⟩, hb4⟩; rw [lns_len] at ra1; rw [nms_len] at ra3; obtain ⟨pa1, ca1, rfl⟩ := row_slice ra1; obtain ⟨pa3, ca3, rfl⟩ := row_slice ra3; obtain ⟨pa4, ca4, rfl⟩ := row_slice ra4; have RA := Lib.hid (And.intro ra1 (And.intro ra2 ra3)); clear ra1 ra2 ra3 ra4)
                | (go_at_call 32; (with_reducible refine (HR2.out _ hb4).mono ?_); rintro e w5 ⟨⟨x1, x2, x3, x4, rfl, rx1, rx2, rx3, rx4⟩, hb5⟩; rw [lns_len] at rx1; rw [nms_len] at rx3; obtain ⟨px1, cx1, rfl⟩ := row_slice rx1; obtain ⟨px2, cx2, rfl⟩ := row_slice rx2; obtain ⟨px3, cx3, rfl⟩ := row_slice rx3; obtain ⟨px4, cx4, rfl⟩ := row_slice rx4; have RX := Lib.hid (And.intro rx1 (And.intro rx2 rx3)); clear rx1 rx2 rx3 rx4; obtain ⟨gb, cb, rfl, hgb, hcb⟩ := cells_of RA.out.2.1 (by decide) hb5; have d0 := hcb 0 _ rfl; have d1 := hcb 1 _ rfl; have d2 := hcb 2 _ rfl; have d3 := hcb 3 _ rfl; clear hcb; have HSL := Lib.hid (sameLines_eq wc.heap.size w4.heap.size (.slice pa1 16 ca1) (.slice px1 16 cx1) (lnsF 0 16) w5 (by rw [lns_len]; exact own_below RA.out.1 hb5) (by rw [lns_len]; exact RX.out.1) (by rw [lns_len]; omega)); have HSD := Lib.hid (fun w (hb : Below w5.heap.size w5 w) => (show Calls Tryz.prog 36 #[.slice (some ⟨gb, 0, none⟩) 1 cb, .slice px2 1 cx2] w (fun e w' => e = .returned (.bool true) ∧ Below w.heap.size w w') from sameDiags_eq wc.heap.size w4.heap.size _ _ [(nm 15, 2, 5, nm 16)] w (own_below (own_below RA.out.2.1 hb5) hb) (own_below RX.out.2.1 hb) (by decide))); have HST := Lib.hid (fun w (hb : Below w5.heap.size w5 w) => same_rows RA.out.2.2 RX.out.2.2 (behind hb5 hb) hb (nms_len 0 16)))
                | (go_at_call 35; (with_reducible refine HSL.out.mono ?_); rintro e w6 ⟨rfl, hb6⟩)
                | (go_at_call 36; (with_reducible refine (HSD.out _ hb6).mono ?_); rintro e w7 ⟨rfl, hb7⟩)
                | (go_at_call 15; (with_reducible refine (HST.out _ (behind hb6 hb7)).mono ?_); rintro e w8 ⟨rfl, hb8⟩))
              go_ret
              exact ⟨rfl, behind (behind hb1 hbel) (behind hb9 (behind hb4 (behind hb5 (behind (behind hb6 hb7) hb8))))⟩
            · obtain ⟨L, hL⟩ : ∃ L, L + 1 = i := ⟨i - 1, by omega⟩
              have hR1 := lack_m (.slice (some ⟨gl, 0, none⟩) i cl) L wc (by omega) (by rw [hL]; exact hA1)
              have hR2 := fun w (hb : Below wc.heap.size wc w) => more_m (.slice (some ⟨g3, 0, none⟩) (i + 2) c3) L s [(⟨#[111, 116, 104, 101, 114]⟩, s)] w (by omega) h1 HP.out (fun a ha => hsm a (by simp only [List.mem_cons, List.not_mem_nil, or_false] at ha ⊢; exact .inr ha)) (by rw [hL]; exact hA2.below hb)
              rw [hL] at hR1 hR2
              have hL2 : L + 2 = i + 1 := by omega
              rw [hL2] at hR2
              have HR1 := Lib.hid hR1
              have HR2 := Lib.hid hR2
              clear hR1 hR2 hA1 hA2 hsm
              have hln := lines_len [] s.data.toList
              obtain ⟨Q, hQ⟩ : ∃ Q, (linesL s.data.toList).length = Q := ⟨_, rfl⟩
              have hQz : Q ≤ 501 := by
                have e : s.data.toList.length = s.size := by simp
                rw [← hQ]; unfold linesL; omega
              have HQ := Lib.hid hQ
              have hnl := nm_made L
              obtain ⟨bl, hbl⟩ : ∃ bl, UInt8.ofNat (97 + L) = bl := ⟨_, rfl⟩
              have zl : (bl.toNat : Int) = 97 + ((i : Int) - 1) := by rw [← hbl, UInt8.toNat_ofNat']; omega
              obtain ⟨nl, hnl2⟩ : ∃ nl, bT (nm L) = nl := ⟨_, rfl⟩
              rw [hbl, hnl2] at hnl
              have HNL := Lib.hid hnl2
              have hcl := fun w => conv_one w (97 + ((i : Int) - 1)) bl zl
              have sl : ¬ 9223372036854775807 < 1 + (⟨#[bl]⟩ : ByteArray).size := by show ¬ 9223372036854775807 < 1 + 1; omega
              have v1 : IntKind.i64.wrap ((i : Int) - 1) = (i : Int) - 1 := by rw [IntKind.wrap_i64]; omega
              have v2 : IntKind.u8.wrap ((i : Int) - 1) = (i : Int) - 1 := by simp [IntKind.wrap, IntKind.bits, IntKind.signed]; omega
              have v3 : IntKind.u8.wrap (97 + ((i : Int) - 1)) = 97 + ((i : Int) - 1) := by simp [IntKind.wrap, IntKind.bits, IntKind.signed]; omega
              have v4 : IntKind.i64.wrap ((i : Int) + 1) = (i : Int) + 1 := by rw [IntKind.wrap_i64]; omega
              have v5 : IntKind.i64.wrap ((i : Int) + (Q : Int)) = (i : Int) + (Q : Int) := by rw [IntKind.wrap_i64]; omega
              have q1 : (nl.toList == nl.toList) = true := by simp
              clear hQ hln hnl2 hbl zl hL2
              have HL := Lib.hid hL
              clear hL
              go_wp2_with (first
                | (go_at_call 32; (with_reducible refine HR1.out.mono ?_); rintro e w4 ⟨⟨a1, a2, a3, a4, rfl, ra1, ra2, ra3, ra4⟩, hb4⟩; rw [lns_len] at ra1; rw [nms_len] at ra3; obtain ⟨pa1, ca1, rfl⟩ := row_slice ra1; obtain ⟨pa3, ca3, rfl⟩ := row_slice ra3; obtain ⟨pa4, ca4, rfl⟩ := row_slice ra4; have RA := Lib.hid ra2; clear ra1 ra2 ra3 ra4)
                | (go_at_call 32; (with_reducible refine (HR2.out _ hb4).mono ?_); rintro e w5 ⟨⟨x1, x2, x3, x4, rfl, rx1, rx2, rx3, rx4⟩, hb5⟩; rw [List.length_append, lns_len, numL_length, HQ.out] at rx1; rw [nms_len] at rx3; obtain ⟨px1, cx1, rfl⟩ := row_slice rx1; obtain ⟨px2, cx2, rfl⟩ := row_slice rx2; obtain ⟨px3, cx3, rfl⟩ := row_slice rx3; obtain ⟨px4, cx4, rfl⟩ := row_slice rx4; clear rx1 rx2 rx3 rx4; obtain ⟨gb, cb, rfl, hgb, hcb⟩ := cells_of RA.out (by simp) hb5; have d0 := hcb 0 _ rfl; rw [HNL.out] at d0; have d1 := hcb 1 _ rfl; have d2 := hcb 2 _ rfl; have d3 := hcb 3 _ rfl; clear hcb)
                | (go_at_call 23; (with_reducible refine (lines_c s _ (by omega)).mono ?_); rintro e w6 ⟨la, rfl, rla, hb6⟩; rw [HQ.out] at rla; obtain ⟨pl, cl2, rfl⟩ := row_slice rla; clear rla))
              go_ret
              exact ⟨rfl, behind (behind hb1 hbel) (behind hb9 (behind hb4 (behind hb5 (behind (laidNew _ _) hb6))))⟩
    | false =>
      go_wp2_with fail
      refine (alive_m w1).mono ?_
      rintro e w3 ⟨rfl, hb3⟩
      go_wp2
      go_ret
      exact ⟨rfl, behind hb1 hb3⟩
  · go_wp2_with fail
    refine (alive_m w1).mono ?_
    rintro e w3 ⟨rfl, hb3⟩
    go_wp2
    go_ret
    exact ⟨rfl, behind hb1 hb3⟩

theorem readable : ∀ t ∈ #[9, 5].toList, Tryz.prog.readableRec t = true ∧ t < Tryz.prog.types.size := by
  intro t ht
  have h : t ∈ ([9, 5] : List TypeId) := ht
  simp only [List.mem_cons, List.not_mem_nil, or_false] at h
  rcases h with rfl | rfl
  · exact ⟨by kernel_rfl, of_decide_eq_true (by kernel_rfl)⟩
  · exact ⟨by kernel_rfl, of_decide_eq_true (by kernel_rfl)⟩

theorem contract (H : Type) (enc : TypeId × Value → H) (W : World) (base : Nat) (args : Array Value) (ds gs : List (DataW H)) (before : List MemPlace)
    (hval : ∀ (j : Nat) t v, Tryz.f7.params[j]? = some t → args[j]? = some v → Value.okWide Tryz.prog W .any base t v)
    (hW : DataW.Whole enc Tryz.prog Tryz.f7.params.toList Rows.aheadDeepSpec.vars false W args.toList ds gs before)
    (hz : (DataW.weightsEach Tryz.prog (Tryz.f7.params.toList ++ (OpenSpec.ofChange Rows.aheadDeepSpec).bare.plain.varTypes Tryz.prog) (ds ++ gs)).all (· ≤ reachBytes) = true) :
    Calls Tryz.prog 7 args W fun e W' => ∃ v, e = .returned v ∧ Rows.aheadDeepSpec.post enc Tryz.prog Tryz.f7 false true false false W args v W' := by
  have hW' := hW
  obtain ⟨p, q, hA, hV, rfl, hfz, hnd⟩ := hW
  rw [Tryz.params7] at hA hval
  obtain ⟨v0, vs0, d0, ds0, p0, q0, hargs0, rfl, rfl, h0, r0⟩ := trodAll_cons hA
  obtain ⟨v1, vs1, d1, ds1, p1, q1, hargs1, rfl, rfl, h1, r1⟩ := trodAll_cons r0
  obtain ⟨rfl, rfl, rfl⟩ := trodAll_nil r1
  subst hargs1
  obtain rfl : args = #[v0, v1] := by cases args; simp_all
  obtain ⟨rfl, rfl⟩ := trodVars_none hV
  obtain ⟨s0, rfl, rfl, rfl, hs0⟩ := string_arg (hval 0 9 v0 rfl rfl) h0
  have hr0 := string_reach hz (j := 0) (s := s0) rfl rfl
  obtain ⟨n1, rfl, rfl, rfl, wf1⟩ := open_int Tryz.underlying5 (hval 1 5 v1 rfl rfl) h1
  refine (walk s0 hs0 hr0 n1 wf1 W).mono fun e W' ⟨he, hb⟩ => ⟨_, he, law_post rfl rfl ?_ hW' rfl hb⟩
  rw [Tryz.params7]
  exact readable

theorem met (os : Os) : laidMet Tryz.prog Rows.aheadDeepRow.laid ((laidWorld os).forCall (fun _ _ => 0) ⟨#[], #[.string ⟨#[]⟩, .int .u8 0], []⟩).memory :=
  laidMet_of_run' 8 (by kernel_rfl) (by kernel_rfl)
theorem reads (os : Os) {H : Type} (enc : TypeId × Value → H) : ∃ places, DataW.whole enc Tryz.prog ((laidWorld os).forCall (fun _ _ => 0) ⟨#[], #[.string ⟨#[]⟩, .int .u8 0], []⟩).memory Tryz.f7.params.toList Rows.aheadDeepSpec.vars false (#[.string ⟨#[]⟩, .int .u8 0] : Array Value).toList 8 = some ([.lit (.string []), .lit (.int .u8 0)], [], places) :=
  ⟨[], by kernel_rfl⟩

set_option maxRecDepth 100000 in
theorem lifted (os : Os) (started : os.Started) (H : Type) (enc : TypeId × Value → H) (F : Stop.Interp) :
    ReturnsInHanded {} Tryz.checked os 7 .any ((OpenSpec.ofChange Rows.aheadDeepSpec).preRow enc Tryz.prog Tryz.f7 Rows.aheadDeepRow.domain false Rows.aheadDeepRow.laid) (((OpenSpec.ofChange Rows.aheadDeepSpec).at F).post enc Tryz.prog Tryz.f7 false true false false) := by
  obtain ⟨places, hx⟩ := reads os enc
  refine returnsInHanded_of_row (C := Tryz.checked) (s := OpenSpec.ofChange Rows.aheadDeepSpec) own started (by kernel_rfl) Tryz.func7
    (witness_row_at (enc := enc) (C := Tryz.checked) false (laidWorld os) #[.string ⟨#[]⟩, .int .u8 0] rfl (by kernel_rfl) (by kernel_rfl) (by kernel_rfl)
      (OpenSpec.preRow_of_cond 8 hx (by kernel_rfl) (fun k hk => by cases hk) (by kernel_rfl) (met os))) ?_
  intro W base args ds gs before hval hW _ _ hz _ _ _
  exact contract H enc W base args ds gs before hval hW hz

theorem said : Rows.AheadDeepSaid :=
  OpenClaim.holds_of_cond 7 Tryz.f7 rfl rfl rfl rfl rfl rfl rfl ⟨rfl, rfl, rfl, rfl, rfl⟩ rfl rfl rfl rfl rfl (by kernel_rfl) Tryz.func7 (by kernel_rfl)
    (of_decide_eq_true (by kernel_rfl)) (by unfold Func.isWrapper; first | (rw [if_pos (by decide +kernel)]; kernel_rfl) | (rw [if_neg (by decide +kernel)]; exact ⟨rfl, rfl⟩))
    (fun os started H enc _ F => by rw [OpenClaim.pre_eq_preRow]; exact lifted os started H enc F)

theorem plain (f : FuncId) (fn : Func) (hf : Tryz.pinned.checked.prog.funcNamed "bindery/binderylaw05.AheadDeep" = some f) (hfn : Tryz.pinned.checked.prog.funcs[f]? = some fn) :
    true = Tryz.pinned.checked.prog.looks [] ∧ ∀ (j : Nat) t, fn.params[j]? = some t → Tryz.pinned.checked.prog.wantsStandIn t = false := by
  obtain rfl : f = 7 := Option.some.inj ((show Tryz.prog.funcNamed "bindery/binderylaw05.AheadDeep" = some 7 by kernel_rfl).symm.trans hf) |>.symm
  obtain rfl : fn = Tryz.f7 := (Option.some.inj (Tryz.func7.symm.trans hfn)).symm
  refine ⟨by kernel_rfl, fun j t ht => ?_⟩
  rw [Tryz.params7] at ht
  have h : t ∈ ([9, 5] : List TypeId) := Array.mem_toList_iff.2 (Array.mem_of_getElem? ht)
  simp only [List.mem_cons, List.not_mem_nil, or_false] at h
  rcases h with rfl | rfl
  · exact (show Tryz.prog.wantsStandIn 9 = false by kernel_rfl)
  · exact (show Tryz.prog.wantsStandIn 5 = false by kernel_rfl)

theorem card : Rows.AheadDeepCardSaid :=
  Claim7.holds_tied_plain_at .later [] _ _ _ _ said (fun _ h => by cases h) (by kernel_rfl) (fun _ h => by cases h) aheadDeep_row_tie rfl ⟨rfl, rfl⟩ (by kernel_rfl) rfl plain (by kernel_rfl)
end Go.Proofs.YtbhlnemahhndoaaGreatDoor.aDeepLaw
