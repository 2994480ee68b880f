import Derived.Test.YtikeaiibociapaaGreatDoorFillC
import Derived.Test.YtikeaiibociapaaGreatDoorFills
import Derived.Lib.AppendStr
namespace Go.Proofs.YtikeaiibociapaaGreatDoor
open Go.RowKit
set_option maxRecDepth 100000

/-- a row of another kind stays while one grows -/
theorem other_row {w w2 : World} {base base2 e1 e2 n1 n2 sz1 sz2 : Nat} {v1 v2 : Value} {xs1 xs2 : List Value} (he : e1 ≠ e2) (h : w.ownsRow base e1 sz1 v1 n1 xs1) (h2 : w.ownsRow base2 e2 sz2 v2 n2 xs2) (hg : w.grownBy w2 v1.ownBlock) : w2.ownsRow base2 e2 sz2 v2 n2 xs2 :=
  row_same h2 (fun g c fz hgc => hg.block g (lt_of hgc) (fun e => by
    obtain ⟨_, c2, fz2, h3⟩ := row_block h g e.symm
    rw [h3] at hgc
    injection hgc with hgc
    injection hgc with _ e2 _
    exact he e2))
theorem row_form {w : World} {base n sz : Nat} {e : TypeId} {v : Value} {xs : List Value} (h : w.ownsRow base e sz v n xs) : ∃ p c, v = .slice p n c := by
  rcases h.2 with ⟨rfl, h0⟩ | ⟨g, cap, cur, rfl, r⟩
  · exact ⟨none, 0, by rw [h0]⟩
  · exact ⟨_, _, rfl⟩
theorem text_at {w : World} {base c : Nat} {p : Option Addr} {asked : List (List UInt8)} (h : w.ownsRow base 9 1 (.slice p asked.length c) asked.length (asked.map strV)) (j : Nat) (hj : j < asked.length) : ∃ g, p = some ⟨g, 0, none⟩ ∧ w.cell? ⟨g, j, none⟩ = some (strV asked[j]) := by
  rcases h.2 with ⟨_, h0⟩ | ⟨g, cap, cur, hv, _⟩
  · omega
  · cases hv
    refine ⟨g, rfl, ?_⟩
    rw [h.cellAt j (by omega)]
    simp [hj]
/-- 'string(b)' of a row that the call owns -/
theorem conv_owned {w : World} {B n : Nat} {v : Value} {l : List UInt8} (h : w.ownsRow B 5 1 v n (Lib.byteCells l)) : (convert 74 9 v).run Tryz.prog w = .ok (.string (bT l)) w := by
  obtain ⟨hl, ⟨rfl, rfl⟩ | ⟨g, cap, cur, rfl, hB, hg, hn, hm, hs, ht⟩⟩ := h
  · have : l = [] := by simpa [Lib.byteCells] using hl
    subst this
    rw [run_convert_bytes_string w 74 9 5 none 0 0 Tryz.underlying74 Tryz.underlying5 Tryz.underlying9]
    simp [Conv.bytesToString]
    rfl
  · have hn' : n = l.length := by simpa [Lib.byteCells] using hl.symm
    subst hn'
    have hown : w.ownsRow B 5 1 (.slice (some ⟨g, 0, none⟩) l.length cap) l.length (Lib.byteCells l) := ⟨hl, .inr ⟨g, cap, cur, rfl, hB, hg, hn, hm, hs, ht⟩⟩
    refine run_convert_bytes_back (P := Tryz.prog) w 74 9 5 ⟨g, 0, none⟩ cap l Tryz.underlying74 Tryz.underlying5 Tryz.underlying9 (fun j hj => ?_)
    exact hown.cells rfl j _ (by simp [Lib.byteCells, hj])

/-- the loop's word -/
def FillS (l : List At) (s : ByteArray) (W : World) (k : Nat) (o a : Value) (w : World) : Prop :=
  ∃ (acc : List UInt8) (asked : List (List UInt8)), fillL l s.data.toList = goL l (s.data.toList.drop k) acc asked ∧ acc.length + 100002 * (s.size - k) ≤ 100002 * s.size ∧ asked.length + (s.size - k) ≤ s.size ∧
    w.ownsRow W.heap.size 5 1 o acc.length (Lib.byteCells acc) ∧ w.ownsRow W.heap.size 9 1 a asked.length (asked.map strV) ∧ Below W.heap.size W w
theorem drop_at (s : ByteArray) (k : Nat) (h : k < s.size) : s.data.toList.drop k = s[k] :: s.data.toList.drop (k + 1) := List.drop_eq_getElem_cons (by simpa using h)
theorem asked_none {c : UInt8} {t : List UInt8} {n : Nat} (hn : runL t = n) (h : ¬ (c = 123 ∧ t[n]? = some 125 ∧ nameB (t.take n) = true)) : askedL (c :: t) = none := by
  simp only [askedL]; rw [hn, if_neg h]
theorem asked_yes {c : UInt8} {t : List UInt8} {n : Nat} (hn : runL t = n) (h : c = 123 ∧ t[n]? = some 125 ∧ nameB (t.take n) = true) : askedL (c :: t) = some (t.take n) := by
  simp only [askedL]; rw [hn, if_pos h]
theorem byte_is {x : UInt8} {c : Nat} (hc : c < 256) (h : (x.toNat : Int) = c) : x = UInt8.ofNat c := by
  apply UInt8.toNat.inj
  simp; omega
theorem there_snoc (asked : List (List UInt8)) (nm : List UInt8) (j : Nat) (h : j < asked.length) : decide (nm ∈ asked.take (j + 1)) = (decide (nm ∈ asked.take j) || decide (asked[j] = nm)) := by
  rw [List.take_succ_eq_append_getElem h, Bool.eq_iff_iff]
  simp only [decide_eq_true_eq, Bool.or_eq_true, List.mem_append, List.mem_singleton]
  exact or_congr Iff.rfl eq_comm

set_option maxHeartbeats 8000000 in
theorem refFill_any (v : Value) (l : List At) (s : ByteArray) (w : World) (h : Attrs w v l) (hl2s : Small l) (hs : s.size ≤ 100000) : Calls Tryz.prog 14 #[v, .string s] w fun e w' =>
    ∃ a, e = .returned (.tuple #[.string (bT (fillL l s.data.toList).1), a]) ∧ w'.ownsRow w.heap.size 9 1 a (fillL l s.data.toList).2.length ((fillL l s.data.toList).2.map strV) ∧ Below w.heap.size w w' := by
  obtain ⟨i0, hi, hz0, hz1, hz2⟩ := info_parts byteInfo
  obtain ⟨j0, ji, jz0, jz1, jz2⟩ := info_parts strInfo
  have hstart : FillS l s w 0 (.slice none 0 0) (.slice none 0 0) w := ⟨[], [], rfl, by simp, by simp, ⟨rfl, .inl ⟨rfl, rfl⟩⟩, ⟨rfl, .inl ⟨rfl, rfl⟩⟩, Below.refl _ _⟩
  have HST := Lib.hid hstart
  clear hstart
  go_enter Tryz.func14, Tryz.ntmps14
  go_wp2
  go_loopw [6, 7, 8] (fun o a i wr => ∃ k : Nat, k ≤ s.size ∧ i = .int .i64 k ∧ FillS l s w k o a wr) (fun _ _ i _ => s.size - (intOf i).toNat)
  case atStart => exact ⟨0, by omega, rfl, HST.out⟩
  case round =>
    clear HST
    obtain ⟨k, hk, rfl, acc, asked, hg, ha, hb0, hO, hA, hbel⟩ := hrel
    have HG := Lib.hid hg
    clear hg
    have hsz := hbel.size
    by_cases hlt : k < s.size
    · have HD := Lib.hid (drop_at s k hlt)
      obtain ⟨n, hn⟩ : ∃ n, runL (s.data.toList.drop (k + 1)) = n := ⟨_, rfl⟩
      have hRun := fun w => refRun_any (s.extract (k + 1) s.size) w (by simp; unfold maxLen; omega)
      rw [extract_list, hn] at hRun
      have hnl : n ≤ s.size - (k + 1) := by have := runL_le (s.data.toList.drop (k + 1)); rw [hn] at this; simpa using this
      have HN := Lib.hid hn
      clear hn
      have hl1 : Hid (acc.length + 1 ≤ maxLen) := Lib.hid (by unfold maxLen; omega)
      have hl2 : Hid ((acc.length + 1) * 1 ≤ 140737488355328) := Lib.hid (by omega)
      by_cases h1 : (s[k].toNat : Int) = 123
      · have e1 : ((s[k].toNat : Int) != 123) = false := by simp [h1]
        have H1 : Hid (s[k] = 123) := Lib.hid (byte_is (c := 123) (by decide) h1)
        clear h1
        by_cases h2 : k + 1 + n < s.size
        · by_cases h3 : (s[k + 1 + n].toNat : Int) = 125
          · have e3 : ((s[k + 1 + n].toNat : Int) != 125) = false := by simp [h3]
            have H3 : Hid ((s.data.toList.drop (k + 1))[n]? = some 125) := Lib.hid (by
              have e := byte_is (c := 125) (by decide) h3
              rw [List.getElem?_drop, show k + 1 + n = k + 1 + n from rfl, Lib.data_getElem? s _ h2, e]; rfl)
            clear h3
            obtain ⟨nb, hnb⟩ : ∃ nb, s.extract (k + 1) (k + 1 + n) = nb := ⟨_, rfl⟩
            have hnd : nb.data.toList = (s.data.toList.drop (k + 1)).take n := by rw [← hnb, Lib.extract_data]; simp
            have hnz : nb.size = n := by have : nb.data.toList.length = nb.size := by simp
                                         rw [← this, hnd]; simp; omega
            have hNm := fun w => refName_any nb w (by unfold maxLen; omega)
            cases h4 : nameB nb.data.toList with
            | false =>
              rw [h4] at hNm
              have HP : Hid (askedL (s[k] :: s.data.toList.drop (k + 1)) = none) := Lib.hid (asked_none HN.out (fun hx => by rw [← hnd, h4] at hx; exact absurd hx.2.2 (by decide)))
              clear h4 hnd
              go_wp2_with (first | (go_at_call 42; refine (hRun _).mono ?_; rintro e w' ⟨rfl, rfl⟩) | (go_at_call 43; refine (hNm _).mono ?_; rintro e w' ⟨rfl, rfl⟩) | (at_builtin; refine wpList_append_own _ rfl (.tmp 58) (.tmp 62) 74 rfl w.heap.size 5 i0 (.int .u8 0) 1 1 Tryz.underlying74 hi hz0 hz1 hz2 rfl (by decide) _ _ _ rfl (hO.alloc _) ⟨wr.heap.size, 0, none⟩ 1 1 [.int .u8 (s[k].toNat : Int)] rfl rfl (cell_one_new _ _ _) (by simp [Value.oneCell']) hl1.out hl2.out (by simp; omega) ?_; intro o2 w2 r1 r2 _))
              have HR := Lib.hid (go_plain (l := l) (out := acc) (asked := asked) HP.out)
              go_roundw
              case rel =>
                refine ⟨k + 1, by omega, by go_num, acc ++ [s[k]], asked, ?_, by simp; omega, by omega, ?_, ?_, ?_⟩
                · rw [HG.out, HD.out]; exact HR.out
                · have e : Lib.byteCells (acc ++ [s[k]]) = Lib.byteCells acc ++ [.int .u8 (s[k].toNat : Int)] := by simp [Lib.byteCells]
                  rw [e, List.length_append]; exact r1
                · exact other_row (by decide) (hO.alloc _) (hA.alloc _) r2
                · exact (hbel.alloc hbel.size _).grown r2 (hbel.alloc hbel.size _).size (fun g hg => (hO.lt g hg).1)
              case measure => simp [intOf]; omega
            | true =>
              rw [h4] at hNm
              have HP : Hid (askedL (s[k] :: s.data.toList.drop (k + 1)) = some nb.data.toList) := Lib.hid (by rw [hnd]; exact asked_yes HN.out ⟨H1.out, H3.out, by rw [← hnd]; exact h4⟩)
              have HNZ : Hid (nb.data.toList.length = n) := Lib.hid (by rw [← hnz]; simp)
              have HNB := Lib.hid hnd
              clear h4 hnd
              have hGet : ∀ wx, Below wr.heap.size wr wx → Calls Tryz.prog 44 #[v, .string nb] wx fun e w' => e = .returned (getV (getL l nb)) ∧ wx = w' := fun wx hx => refGet_any v l nb wx ((h.below hbel).below hx)
              cases hgl : getL l nb with
              | some vb =>
                rw [hgl] at hGet
                unfold getV at hGet
                have hv : valueL l nb.data.toList = vb.data.toList := by unfold valueL; rw [bT_data, hgl]
                have hvz : vb.size ≤ n + 100002 := by
                  have h1 := value_size (small_loose hl2s) nb.data.toList
                  rw [hv] at h1
                  have := HNZ.out
                  simp at h1 this
                  omega
                have HR : Hid (goL l (s[k] :: s.data.toList.drop (k + 1)) acc asked = goL l (s.data.toList.drop (k + 2 + n)) (acc ++ vb.data.toList) (if nb.data.toList ∈ asked then asked else asked ++ [nb.data.toList])) := Lib.hid (by
                  rw [go_name HP.out, hv, HNZ.out, List.drop_drop, show k + 1 + (n + 1) = k + 2 + n by omega])
                clear hv hgl
                have hm1 : Hid (acc.length + vb.size ≤ maxLen) := Lib.hid (by unfold maxLen; omega)
                have hm2 : Hid (acc.length + vb.size ≤ 140737488355328) := Lib.hid (by omega)
                have hm3 : Hid (asked.length + 1 ≤ maxLen) := Lib.hid (by unfold maxLen; omega)
                have hm4 : Hid ((asked.length + 1) * 16 ≤ 140737488355328) := Lib.hid (by omega)
                obtain ⟨pa, ca, rfl⟩ := row_form hA
                go_wp2_with (first | (go_at_call 42; refine (hRun _).mono ?_; rintro e w' ⟨rfl, rfl⟩) | (go_at_call 43; refine (hNm _).mono ?_; rintro e w' ⟨rfl, rfl⟩) | (go_at_call 44; refine (hGet _ (Below.refl _ _)).mono ?_; rintro e w' ⟨rfl, rfl⟩) | (at_builtin; refine Lib.wpList_append_own_string _ rfl (.tmp 89) (.tmp 90) 74 9 rfl w.heap.size 5 i0 Tryz.underlying74 Tryz.underlying9 hi hz0 hz1 hz2 _ _ _ rfl hO vb (by first | rfl | (rw [← hvb]; rfl)) hm1.out hm2.out hsz ?_; intro o3 w3 r1 r2 _))
                have hA3 := other_row (by decide) hO hA r2
                have hbel3 := hbel.grown r2 hsz (fun g hg => (hO.lt g hg).1)
                have e : Lib.byteCells (acc ++ vb.data.toList) = Lib.byteCells acc ++ Lib.strCells vb := by rw [Lib.byteCells_append, Lib.strCells_eq]
                rw [← e] at r1
                have r1 : w3.ownsRow w.heap.size 5 1 o3 (acc ++ vb.data.toList).length (Lib.byteCells (acc ++ vb.data.toList)) := by
                  have e2 : (acc ++ vb.data.toList).length = acc.length + vb.size := by simp
                  rw [e2]; exact r1
                clear e
                go_loopw [13, 14] (fun t i wi => ∃ j : Nat, j ≤ asked.length ∧ i = .int .i64 j ∧ t = .bool (decide (nb.data.toList ∈ asked.take j)) ∧ w3 = wi) (fun _ i _ => asked.length - (intOf i).toNat)
                case atStart => exact ⟨0, by omega, rfl, by simp, rfl⟩
                case round =>
                  obtain ⟨j, hj, rfl, rfl, rfl⟩ := hrel
                  by_cases hlj : j < asked.length
                  · have HT := Lib.hid (there_snoc asked nb.data.toList j hlj)
                    obtain ⟨g, rfl, hc⟩ := text_at hA3 j hlj
                    unfold strV at hc
                    cases ht : decide (nb.data.toList ∈ asked.take j) with
                    | true =>
                      rw [ht] at HT
                      go_wp2
                      go_roundw
                      case rel => exact ⟨j + 1, by omega, by go_num, by rw [HT.out]; rfl, by first | rfl | trivial⟩
                      case measure => simp [intOf]; omega
                    | false =>
                      rw [ht] at HT
                      obtain ⟨q, hq⟩ : ∃ q : Bool, (asked[j] == nb.toList) = q := ⟨_, rfl⟩
                      have HQ : Hid (decide (nb.data.toList ∈ asked.take (j + 1)) = q) := Lib.hid (by
                        rw [HT.out, ← hq, Lib.toList_data, Bool.false_or, Bool.eq_iff_iff]; simp)
                      clear HT
                      go_wp2
                      go_roundw
                      case rel => exact ⟨j + 1, by omega, by go_num, by rw [HQ.out], by first | rfl | trivial⟩
                      case measure => simp [intOf]; omega
                  · have HT : Hid (asked.take j = asked) := Lib.hid (List.take_of_length_le (by omega))
                    rw [HT.out]
                    by_cases hin : nb.data.toList ∈ asked
                    · rw [decide_eq_true hin]
                      rw [if_pos hin] at HR
                      clear hin
                      go_wp2
                      go_roundw
                      case rel => exact ⟨k + 2 + n, by omega, by go_num, acc ++ vb.data.toList, asked, by rw [HG.out, HD.out]; exact HR.out, by have := HNZ.out; simp; omega, by omega, r1, hA3, hbel3⟩
                      case measure => simp [intOf]; omega
                    · rw [decide_eq_false hin]
                      rw [if_neg hin] at HR
                      clear hin
                      go_wp2_with (at_builtin; refine wpList_append_own _ rfl (.tmp 109) (.tmp 111) 25 rfl w.heap.size 9 j0 (.string ⟨#[]⟩) 1 16 Tryz.underlying25 ji jz0 jz1 jz2 rfl (by decide) _ _ _ rfl (hA3.alloc _) ⟨w3.heap.size, 0, none⟩ 1 1 [.string nb] rfl rfl (one_new _ _ _) (str_one _) hm3.out hm4.out (by have := hbel3.size; simp; omega) ?_; intro a4 w4 q1 q2 _)
                      go_roundw
                      case rel =>
                        refine ⟨k + 2 + n, by omega, by go_num, acc ++ vb.data.toList, asked ++ [nb.data.toList], by rw [HG.out, HD.out]; exact HR.out, by have := HNZ.out; simp; omega, by simp; omega, other_row (by decide) (hA3.alloc _) (r1.alloc _) q2, ?_, ?_⟩
                        · rw [← map_snoc, List.length_append]; exact q1
                        · exact (hbel3.alloc hbel3.size _).grown q2 (hbel3.alloc hbel3.size _).size (fun g hg => (hA3.lt g hg).1)
                      case measure => simp [intOf]; omega
              | none =>
                rw [hgl] at hGet
                unfold getV at hGet
                obtain ⟨vb, hvb⟩ : ∃ vb, s.extract k (k + 2 + n) = vb := ⟨_, rfl⟩
                have hv : valueL l nb.data.toList = vb.data.toList := by
                  unfold valueL; rw [bT_data, hgl, ← hvb, Lib.extract_data, HD.out]
                  show 123 :: nb.data.toList ++ [125] = _
                  rw [show k + 2 + n - k = (n + 1) + 1 by omega, List.take_succ_cons, H1.out, List.take_add_one, HNB.out, H3.out]; rfl
                have hvz : vb.size ≤ n + 100002 := by
                  have h1 := value_size (small_loose hl2s) nb.data.toList
                  rw [hv] at h1
                  have := HNZ.out
                  simp at h1 this
                  omega
                have HR : Hid (goL l (s[k] :: s.data.toList.drop (k + 1)) acc asked = goL l (s.data.toList.drop (k + 2 + n)) (acc ++ vb.data.toList) (if nb.data.toList ∈ asked then asked else asked ++ [nb.data.toList])) := Lib.hid (by
                  rw [go_name HP.out, hv, HNZ.out, List.drop_drop, show k + 1 + (n + 1) = k + 2 + n by omega])
                clear hv hgl
                have hm1 : Hid (acc.length + vb.size ≤ maxLen) := Lib.hid (by unfold maxLen; omega)
                have hm2 : Hid (acc.length + vb.size ≤ 140737488355328) := Lib.hid (by omega)
                have hm3 : Hid (asked.length + 1 ≤ maxLen) := Lib.hid (by unfold maxLen; omega)
                have hm4 : Hid ((asked.length + 1) * 16 ≤ 140737488355328) := Lib.hid (by omega)
                obtain ⟨pa, ca, rfl⟩ := row_form hA
                go_wp2_with (first | (go_at_call 42; refine (hRun _).mono ?_; rintro e w' ⟨rfl, rfl⟩) | (go_at_call 43; refine (hNm _).mono ?_; rintro e w' ⟨rfl, rfl⟩) | (go_at_call 44; refine (hGet _ (Below.refl _ _)).mono ?_; rintro e w' ⟨rfl, rfl⟩) | (at_builtin; refine Lib.wpList_append_own_string _ rfl (.tmp 89) (.tmp 90) 74 9 rfl w.heap.size 5 i0 Tryz.underlying74 Tryz.underlying9 hi hz0 hz1 hz2 _ _ _ rfl hO vb (by first | rfl | (rw [← hvb]; rfl)) hm1.out hm2.out hsz ?_; intro o3 w3 r1 r2 _))
                have hA3 := other_row (by decide) hO hA r2
                have hbel3 := hbel.grown r2 hsz (fun g hg => (hO.lt g hg).1)
                have e : Lib.byteCells (acc ++ vb.data.toList) = Lib.byteCells acc ++ Lib.strCells vb := by rw [Lib.byteCells_append, Lib.strCells_eq]
                rw [← e] at r1
                have r1 : w3.ownsRow w.heap.size 5 1 o3 (acc ++ vb.data.toList).length (Lib.byteCells (acc ++ vb.data.toList)) := by
                  have e2 : (acc ++ vb.data.toList).length = acc.length + vb.size := by simp
                  rw [e2]; exact r1
                clear e
                go_loopw [13, 14] (fun t i wi => ∃ j : Nat, j ≤ asked.length ∧ i = .int .i64 j ∧ t = .bool (decide (nb.data.toList ∈ asked.take j)) ∧ w3 = wi) (fun _ i _ => asked.length - (intOf i).toNat)
                case atStart => exact ⟨0, by omega, rfl, by simp, rfl⟩
                case round =>
                  obtain ⟨j, hj, rfl, rfl, rfl⟩ := hrel
                  by_cases hlj : j < asked.length
                  · have HT := Lib.hid (there_snoc asked nb.data.toList j hlj)
                    obtain ⟨g, rfl, hc⟩ := text_at hA3 j hlj
                    unfold strV at hc
                    cases ht : decide (nb.data.toList ∈ asked.take j) with
                    | true =>
                      rw [ht] at HT
                      go_wp2
                      go_roundw
                      case rel => exact ⟨j + 1, by omega, by go_num, by rw [HT.out]; rfl, by first | rfl | trivial⟩
                      case measure => simp [intOf]; omega
                    | false =>
                      rw [ht] at HT
                      obtain ⟨q, hq⟩ : ∃ q : Bool, (asked[j] == nb.toList) = q := ⟨_, rfl⟩
                      have HQ : Hid (decide (nb.data.toList ∈ asked.take (j + 1)) = q) := Lib.hid (by
                        rw [HT.out, ← hq, Lib.toList_data, Bool.false_or, Bool.eq_iff_iff]; simp)
                      clear HT
                      go_wp2
                      go_roundw
                      case rel => exact ⟨j + 1, by omega, by go_num, by rw [HQ.out], by first | rfl | trivial⟩
                      case measure => simp [intOf]; omega
                  · have HT : Hid (asked.take j = asked) := Lib.hid (List.take_of_length_le (by omega))
                    rw [HT.out]
                    by_cases hin : nb.data.toList ∈ asked
                    · rw [decide_eq_true hin]
                      rw [if_pos hin] at HR
                      clear hin
                      go_wp2
                      go_roundw
                      case rel => exact ⟨k + 2 + n, by omega, by go_num, acc ++ vb.data.toList, asked, by rw [HG.out, HD.out]; exact HR.out, by have := HNZ.out; simp; omega, by omega, r1, hA3, hbel3⟩
                      case measure => simp [intOf]; omega
                    · rw [decide_eq_false hin]
                      rw [if_neg hin] at HR
                      clear hin
                      go_wp2_with (at_builtin; refine wpList_append_own _ rfl (.tmp 109) (.tmp 111) 25 rfl w.heap.size 9 j0 (.string ⟨#[]⟩) 1 16 Tryz.underlying25 ji jz0 jz1 jz2 rfl (by decide) _ _ _ rfl (hA3.alloc _) ⟨w3.heap.size, 0, none⟩ 1 1 [.string nb] rfl rfl (one_new _ _ _) (str_one _) hm3.out hm4.out (by have := hbel3.size; simp; omega) ?_; intro a4 w4 q1 q2 _)
                      go_roundw
                      case rel =>
                        refine ⟨k + 2 + n, by omega, by go_num, acc ++ vb.data.toList, asked ++ [nb.data.toList], by rw [HG.out, HD.out]; exact HR.out, by have := HNZ.out; simp; omega, by simp; omega, other_row (by decide) (hA3.alloc _) (r1.alloc _) q2, ?_, ?_⟩
                        · rw [← map_snoc, List.length_append]; exact q1
                        · exact (hbel3.alloc hbel3.size _).grown q2 (hbel3.alloc hbel3.size _).size (fun g hg => (hA3.lt g hg).1)
                      case measure => simp [intOf]; omega
          · have e3 : ((s[k + 1 + n].toNat : Int) != 125) = true := by simpa using h3
            have HP : Hid (askedL (s[k] :: s.data.toList.drop (k + 1)) = none) := Lib.hid (asked_none HN.out (fun hx => h3 (by
              have h5 := hx.2.1
              rw [List.getElem?_drop, Lib.data_getElem? s _ h2] at h5
              injection h5 with h5; rw [h5]; rfl)))
            clear h3
            go_wp2_with (first | (go_at_call 42; refine (hRun _).mono ?_; rintro e w' ⟨rfl, rfl⟩) | (at_builtin; refine wpList_append_own _ rfl (.tmp 58) (.tmp 62) 74 rfl w.heap.size 5 i0 (.int .u8 0) 1 1 Tryz.underlying74 hi hz0 hz1 hz2 rfl (by decide) _ _ _ rfl (hO.alloc _) ⟨wr.heap.size, 0, none⟩ 1 1 [.int .u8 (s[k].toNat : Int)] rfl rfl (cell_one_new _ _ _) (by simp [Value.oneCell']) hl1.out hl2.out (by simp; omega) ?_; intro o2 w2 r1 r2 _))
            have HR := Lib.hid (go_plain (l := l) (out := acc) (asked := asked) HP.out)
            go_roundw
            case rel =>
              refine ⟨k + 1, by omega, by go_num, acc ++ [s[k]], asked, ?_, by simp; omega, by omega, ?_, ?_, ?_⟩
              · rw [HG.out, HD.out]; exact HR.out
              · have e : Lib.byteCells (acc ++ [s[k]]) = Lib.byteCells acc ++ [.int .u8 (s[k].toNat : Int)] := by simp [Lib.byteCells]
                rw [e, List.length_append]; exact r1
              · exact other_row (by decide) (hO.alloc _) (hA.alloc _) r2
              · exact (hbel.alloc hbel.size _).grown r2 (hbel.alloc hbel.size _).size (fun g hg => (hO.lt g hg).1)
            case measure => simp [intOf]; omega
        · have HP : Hid (askedL (s[k] :: s.data.toList.drop (k + 1)) = none) := Lib.hid (asked_none HN.out (fun hx => by
            have h5 := hx.2.1
            rw [List.getElem?_eq_none (by simp; omega)] at h5; cases h5))
          go_wp2_with (first | (go_at_call 42; refine (hRun _).mono ?_; rintro e w' ⟨rfl, rfl⟩) | (at_builtin; refine wpList_append_own _ rfl (.tmp 58) (.tmp 62) 74 rfl w.heap.size 5 i0 (.int .u8 0) 1 1 Tryz.underlying74 hi hz0 hz1 hz2 rfl (by decide) _ _ _ rfl (hO.alloc _) ⟨wr.heap.size, 0, none⟩ 1 1 [.int .u8 (s[k].toNat : Int)] rfl rfl (cell_one_new _ _ _) (by simp [Value.oneCell']) hl1.out hl2.out (by simp; omega) ?_; intro o2 w2 r1 r2 _))
          have HR := Lib.hid (go_plain (l := l) (out := acc) (asked := asked) HP.out)
          go_roundw
          case rel =>
            refine ⟨k + 1, by omega, by go_num, acc ++ [s[k]], asked, ?_, by simp; omega, by omega, ?_, ?_, ?_⟩
            · rw [HG.out, HD.out]; exact HR.out
            · have e : Lib.byteCells (acc ++ [s[k]]) = Lib.byteCells acc ++ [.int .u8 (s[k].toNat : Int)] := by simp [Lib.byteCells]
              rw [e, List.length_append]; exact r1
            · exact other_row (by decide) (hO.alloc _) (hA.alloc _) r2
            · exact (hbel.alloc hbel.size _).grown r2 (hbel.alloc hbel.size _).size (fun g hg => (hO.lt g hg).1)
          case measure => simp [intOf]; omega
      · have e1 : ((s[k].toNat : Int) != 123) = true := by simpa using h1
        have HP : Hid (askedL (s[k] :: s.data.toList.drop (k + 1)) = none) := Lib.hid (asked_other _ (fun e => h1 (by rw [e]; rfl)))
        clear h1
        go_wp2_with (first | (go_at_call 42; refine (hRun _).mono ?_; rintro e w' ⟨rfl, rfl⟩) | (at_builtin; refine wpList_append_own _ rfl (.tmp 58) (.tmp 62) 74 rfl w.heap.size 5 i0 (.int .u8 0) 1 1 Tryz.underlying74 hi hz0 hz1 hz2 rfl (by decide) _ _ _ rfl (hO.alloc _) ⟨wr.heap.size, 0, none⟩ 1 1 [.int .u8 (s[k].toNat : Int)] rfl rfl (cell_one_new _ _ _) (by simp [Value.oneCell']) hl1.out hl2.out (by simp; omega) ?_; intro o2 w2 r1 r2 _))
        have HR := Lib.hid (go_plain (l := l) (out := acc) (asked := asked) HP.out)
        go_roundw
        case rel =>
          refine ⟨k + 1, by omega, by go_num, acc ++ [s[k]], asked, ?_, by simp; omega, by omega, ?_, ?_, ?_⟩
          · rw [HG.out, HD.out]; exact HR.out
          · have e : Lib.byteCells (acc ++ [s[k]]) = Lib.byteCells acc ++ [.int .u8 (s[k].toNat : Int)] := by simp [Lib.byteCells]
            rw [e, List.length_append]; exact r1
          · exact other_row (by decide) (hO.alloc _) (hA.alloc _) r2
          · exact (hbel.alloc hbel.size _).grown r2 (hbel.alloc hbel.size _).size (fun g hg => (hO.lt g hg).1)
        case measure => simp [intOf]; omega
    · have HE : Hid (fillL l s.data.toList = (acc, asked)) := Lib.hid (by rw [HG.out, List.drop_of_length_le (by simp; omega), go_nil])
      have hcv := conv_owned hO
      go_wp2
      go_ret2
      rw [HE.out]
      exact ⟨_, rfl, hA, hbel⟩
end Go.Proofs.YtikeaiibociapaaGreatDoor
