import Derived.Test.YtobafhjhholpgaaGreatDoorOwn
import Derived.Test.YtobafhjhholpgaaGreatDoorRefCheck
import Derived.Test.YtobafhjhholpgaaGreatDoorRefUnset
import Derived.Maps.AppendAt
namespace Go.Proofs.YtobafhjhholpgaaGreatDoor
open Go.RowKit
set_option maxRecDepth 100000

/-- has a name been met that is not below? -/
def metB (l : List At) (n : ByteArray) : Bool := l.any (fun a => !ltP n a)
/-- what Set has told so far -/
def soFar (l : List At) (n u : ByteArray) : List At := if metB l n = true then putL l n u else l.filter (ltP n)
theorem met_no {l : List At} {n : ByteArray} (h : metB l n = false) : ∀ a ∈ l, ltP n a = true := by
  intro a ha
  have := List.any_eq_false.1 h a ha
  simpa using this
theorem met_snoc (l : List At) (n : ByteArray) (a : At) : metB (l ++ [a]) n = (metB l n || !ltP n a) := by unfold metB; rw [List.any_append]; simp
theorem lt_not_gt {n : ByteArray} {a : At} (h : ltP n a = true) : gtP n a = false := less_asymm h
theorem put_snoc_gt {l : List At} {n u : ByteArray} {a : At} (h1 : ltP n a = false) (h2 : gtP n a = true) : putL (l ++ [a]) n u = putL l n u ++ [a] := by
  unfold putL
  rw [List.filter_append, List.filter_append, List.filter_cons_of_neg (by rw [h1]; decide), List.filter_cons_of_pos h2, List.filter_nil, List.filter_nil, List.append_nil, List.append_assoc]
  rfl
theorem put_all {l : List At} {n u : ByteArray} (h : metB l n = false) : putL l n u = l.filter (ltP n) ++ [(n, u)] := by
  unfold putL
  rw [filter_none l (gtP n) (fun a ha => lt_not_gt (met_no h a ha))]
theorem so1 {l : List At} {n u : ByteArray} {k : Nat} (h : k < l.length) (h0 : metB (l.take k) n = false) (h1 : ltP n l[k] = true) : metB (l.take (k + 1)) n = false ∧ soFar (l.take (k + 1)) n u = soFar (l.take k) n u ++ [l[k]] := by
  have e : metB (l.take (k + 1)) n = false := by rw [List.take_succ_eq_append_getElem h, met_snoc, h0, h1]; rfl
  refine ⟨e, ?_⟩
  unfold soFar
  rw [e, h0, if_neg (by decide), if_neg (by decide), List.take_succ_eq_append_getElem h, List.filter_append, List.filter_cons_of_pos h1]
  rfl
theorem so2 {l : List At} {n u : ByteArray} {k : Nat} (h : k < l.length) (h0 : metB (l.take k) n = false) (h1 : ltP n l[k] = false) (h2 : (l[k].1.toList == n.toList) = true) : metB (l.take (k + 1)) n = true ∧ soFar (l.take (k + 1)) n u = soFar (l.take k) n u ++ [(n, u)] := by
  have e : metB (l.take (k + 1)) n = true := by rw [List.take_succ_eq_append_getElem h, met_snoc, h1]; simp
  refine ⟨e, ?_⟩
  have hg : gtP n l[k] = false := by unfold gtP; rw [beq_iff_eq.1 h2]; exact less_irrefl _
  unfold soFar
  rw [if_pos e, h0, if_neg (by decide), List.take_succ_eq_append_getElem h]
  unfold putL
  rw [List.filter_append, List.filter_append, List.filter_cons_of_neg (by rw [h1]; decide), List.filter_cons_of_neg (by rw [hg]; decide), filter_none _ (gtP n) (fun a ha => lt_not_gt (met_no h0 a ha))]
  simp
theorem so3 {l : List At} {n u : ByteArray} {k : Nat} (h : k < l.length) (h0 : metB (l.take k) n = false) (h1 : ltP n l[k] = false) (h2 : (l[k].1.toList == n.toList) = false) : metB (l.take (k + 1)) n = true ∧ soFar (l.take (k + 1)) n u = (soFar (l.take k) n u ++ [(n, u)]) ++ [l[k]] := by
  have e : metB (l.take (k + 1)) n = true := by rw [List.take_succ_eq_append_getElem h, met_snoc, h1]; simp
  refine ⟨e, ?_⟩
  have hg : gtP n l[k] = true := by
    cases hg : gtP n l[k]
    · have := less_total _ _ h1 hg
      rw [this] at h2; simp at h2
    · rfl
  unfold soFar
  rw [if_pos e, h0, if_neg (by decide), List.take_succ_eq_append_getElem h, put_snoc_gt h1 hg, put_all h0]
theorem so4 {l : List At} {n u : ByteArray} {k : Nat} (hr : Rise l) (h : k < l.length) (h0 : metB (l.take k) n = true) : (l[k].1.toList == n.toList) = false ∧ metB (l.take (k + 1)) n = true ∧ soFar (l.take (k + 1)) n u = soFar (l.take k) n u ++ [l[k]] := by
  obtain ⟨a, ha, hna⟩ := List.any_eq_true.1 h0
  have hla : ltP n a = false := by simpa using hna
  have hlt : Op.bytesLess a.1.toList l[k].1.toList = true := by
    have hd : l = l.take k ++ l[k] :: l.drop (k + 1) := by rw [← List.drop_eq_getElem_cons h, List.take_append_drop]
    rw [hd] at hr
    exact (List.pairwise_append.1 hr).2.2 a ha l[k] List.mem_cons_self
  have hg : gtP n l[k] = true := by
    cases hga : gtP n a
    · have := less_total _ _ hla hga
      unfold gtP; rw [← this]; exact hlt
    · exact less_trans hga hlt
  have h1 : ltP n l[k] = false := less_asymm hg
  have e : metB (l.take (k + 1)) n = true := by rw [List.take_succ_eq_append_getElem h, met_snoc, h0]; rfl
  refine ⟨less_ne' hg, e, ?_⟩
  unfold soFar
  rw [if_pos e, if_pos h0, List.take_succ_eq_append_getElem h, put_snoc_gt h1 hg]
theorem so_len (l : List At) (n u : ByteArray) (k : Nat) : (soFar (l.take k) n u).length ≤ l.length + 1 := by
  have h2 : (l.take k).length ≤ l.length := by rw [List.length_take]; omega
  unfold soFar
  split
  · have := put_length (l.take k) n u; omega
  · have := List.length_filter_le (ltP n) (l.take k); omega
theorem put_sized {l : List At} {n u : ByteArray} (hs : Sized l) (hn : n.size ≤ 140737488351232) (hu : u.size ≤ 140737488351232) : Sized (putL l n u) := by
  intro a ha
  rcases List.mem_append.1 ha with ha | ha
  · exact hs a (List.mem_filter.1 ha).1
  · rcases List.mem_cons.1 ha with rfl | ha
    · exact ⟨hn, hu⟩
    · exact hs a (List.mem_filter.1 ha).1
theorem own_none (w : World) (base : Nat) : OwnA w base (.slice none 0 0) [] := ⟨⟨rfl, .inl ⟨rfl, rfl⟩⟩, by intro a ha; cases ha⟩

set_option maxHeartbeats 4000000 in
theorem refSet_any (v : Value) (l : List At) (n u : ByteArray) (w : World) (h : Attrs w v l) (hn : n.size ≤ 140737488351232) (hu : u.size ≤ 140737488351232) : Calls Tryz.prog 9 #[v, .string n, .string u] w fun e w' =>
    ∃ a, e = .returned (.tuple #[a, .int .i64 ((setE l n u : Nat) : Int)]) ∧ OwnA w' w.heap.size a (setL l n u) ∧ Below w.heap.size w w' := by
  have hCk := refCheck_any v l w h
  have hNm := fun w => refName_any n w (by unfold maxLen; omega)
  have hMy := fun w => refValue_any u w (by unfold maxLen; omega)
  obtain ⟨i0, hi, hz0, hz1, hz2⟩ := info_parts info48
  cases hC : (checkL l && nameB n.data.toList && mayL u.data.toList) with
  | false =>
    obtain ⟨e1, e2⟩ := setE_no hC
    rw [e1, e2]
    clear e1 e2
    have hor : checkL l = false ∨ (checkL l = true ∧ nameB n.data.toList = false) ∨ (checkL l = true ∧ nameB n.data.toList = true ∧ mayL u.data.toList = false) := by
      revert hC
      cases checkL l <;> cases nameB n.data.toList <;> cases mayL u.data.toList <;> simp
    clear hC
    rcases hor with hcl | ⟨hcl, hnm⟩ | ⟨hcl, hnm, hmy⟩
    · rw [hcl] at hCk
      clear hcl
      go_enter Tryz.func9, Tryz.ntmps9
      go_wp2_with (first | (go_at_call 26; refine hCk.mono ?_; rintro e w1 ⟨rfl, q, rfl⟩) | (go_at_call 27; refine (hNm _).mono ?_; rintro e w' ⟨rfl, rfl⟩) | (go_at_call 28; refine (hMy _).mono ?_; rintro e w' ⟨rfl, rfl⟩))
      go_ret2
      exact ⟨_, rfl, own_none _ _, below_drewN (Below.refl _ _) q⟩
    · rw [hcl] at hCk
      rw [hnm] at hNm
      clear hcl hnm
      go_enter Tryz.func9, Tryz.ntmps9
      go_wp2_with (first | (go_at_call 26; refine hCk.mono ?_; rintro e w1 ⟨rfl, q, rfl⟩) | (go_at_call 27; refine (hNm _).mono ?_; rintro e w' ⟨rfl, rfl⟩) | (go_at_call 28; refine (hMy _).mono ?_; rintro e w' ⟨rfl, rfl⟩))
      go_ret2
      exact ⟨_, rfl, own_none _ _, below_drewN (Below.refl _ _) q⟩
    · rw [hcl] at hCk
      rw [hnm] at hNm
      rw [hmy] at hMy
      clear hcl hnm hmy
      go_enter Tryz.func9, Tryz.ntmps9
      go_wp2_with (first | (go_at_call 26; refine hCk.mono ?_; rintro e w1 ⟨rfl, q, rfl⟩) | (go_at_call 27; refine (hNm _).mono ?_; rintro e w' ⟨rfl, rfl⟩) | (go_at_call 28; refine (hMy _).mono ?_; rintro e w' ⟨rfl, rfl⟩))
      go_ret2
      exact ⟨_, rfl, own_none _ _, below_drewN (Below.refl _ _) q⟩
  | true =>
    obtain ⟨hcl, hnm, hmy⟩ := three hC
    have hl64 := (check_parts hcl).1
    have HR := Lib.hid (check_parts hcl).2.2
    rw [hcl] at hCk
    rw [hnm] at hNm
    rw [hmy] at hMy
    have HE0 := Lib.hid (fun (hz : (putL l n u).length ≤ 64) => setE_ok hC hz)
    have HE3 := Lib.hid (fun (hz : ¬ (putL l n u).length ≤ 64) => setE_full hC hz)
    clear hC hcl hnm hmy
    obtain ⟨p, cap, rfl, hl, ⟨hs, -⟩, hc⟩ := h
    go_enter Tryz.func9, Tryz.ntmps9
    go_wp2_with (first | (go_at_call 26; refine hCk.mono ?_; rintro e w1 ⟨rfl, q, rfl⟩) | (go_at_call 27; refine (hNm _).mono ?_; rintro e w' ⟨rfl, rfl⟩) | (go_at_call 28; refine (hMy _).mono ?_; rintro e w' ⟨rfl, rfl⟩))
    have hb1 : Below w.heap.size w (w.drewN q) := below_drewN (Below.refl _ _) q
    go_loopw [8, 9, 10] (fun o d i wr => ∃ k : Nat, k ≤ l.length ∧ i = .int .i64 k ∧ d = .bool (metB (l.take k) n) ∧ wr.ownsRow w.heap.size 59 2 o (soFar (l.take k) n u).length (atCells (soFar (l.take k) n u)) ∧ Below w.heap.size w wr) (fun _ _ i _ => l.length - (intOf i).toNat)
    case atStart => exact ⟨0, by omega, rfl, rfl, ⟨rfl, .inl ⟨rfl, rfl⟩⟩, hb1⟩
    case round =>
      clear hb1
      obtain ⟨k, hk, rfl, rfl, hown, hbel⟩ := hrel
      have hlen := so_len l n u k
      have hbz := hbel.size
      by_cases hlt : k < l.length
      · obtain ⟨b, ob, rfl, hb, hcc⟩ := hc (by omega)
        obtain ⟨e1, e2⟩ := hcc k hlt
        have C1 := Lib.hid e1
        have C2 := Lib.hid e2
        clear e1 e2
        have c1 := (hbel.cell (p := ⟨b, ob + k * 2, none⟩) hb).trans C1.out
        have c2 := (hbel.cell (p := ⟨b, ob + k * 2 + 1, none⟩) hb).trans C2.out
        clear hc hcc
        cases hd : metB (l.take k) n with
        | true =>
          obtain ⟨he, hm, ho⟩ := so4 (u := u) HR.out hlt hd
          have HM := Lib.hid hm
          have HO := Lib.hid ho
          clear hm ho
          go_wp2_with (at_builtin; refine wpList_append_own _ rfl (.tmp 54) (.tmp 59) 22 rfl w.heap.size 59 i0 _ 2 32 Tryz.underlying22 hi hz0 hz1 hz2 rfl (by decide) _ _ _ rfl (hown.alloc _) ⟨wr.heap.size, 0, none⟩ 1 1 [.string l[k].1, .string l[k].2] rfl rfl (pair_new _ _ _ _) (pair_one _ _) (by unfold maxLen; omega) (by omega) (by simp; omega) ?_; intro v2 w2 r2 g2 _)
          rw [← atCells_one, ← atCells_append, ← HO.out] at r2
          have hz : (soFar (l.take (k + 1)) n u).length = (soFar (l.take k) n u).length + 1 := by rw [HO.out]; simp
          refine ⟨⟨k + 1, by omega, by go_num, by rw [HM.out], by rw [hz]; exact r2, ?_⟩, by simp [intOf]; omega⟩
          exact (hbel.alloc hbel.size _).grown g2 (hbel.alloc hbel.size _).size (fun g hg => (hown.lt g hg).1)
        | false =>
          cases hlt2 : ltP n l[k] with
          | true =>
            obtain ⟨hm, ho⟩ := so1 (u := u) hlt hd hlt2
            have he : (l[k].1.toList == n.toList) = false := less_ne hlt2
            have hbl : Op.bytesLess l[k].1.toList n.toList = true := hlt2
            have HM := Lib.hid hm
            have HO := Lib.hid ho
            clear hm ho hlt2
            go_wp2_with (at_builtin; refine wpList_append_own _ rfl (.tmp 54) (.tmp 59) 22 rfl w.heap.size 59 i0 _ 2 32 Tryz.underlying22 hi hz0 hz1 hz2 rfl (by decide) _ _ _ rfl (hown.alloc _) ⟨wr.heap.size, 0, none⟩ 1 1 [.string l[k].1, .string l[k].2] rfl rfl (pair_new _ _ _ _) (pair_one _ _) (by unfold maxLen; omega) (by omega) (by simp; omega) ?_; intro v2 w2 r2 g2 _)
            rw [← atCells_one, ← atCells_append, ← HO.out] at r2
            have hz : (soFar (l.take (k + 1)) n u).length = (soFar (l.take k) n u).length + 1 := by rw [HO.out]; simp
            refine ⟨⟨k + 1, by omega, by go_num, by rw [HM.out], by rw [hz]; exact r2, ?_⟩, by simp [intOf]; omega⟩
            exact (hbel.alloc hbel.size _).grown g2 (hbel.alloc hbel.size _).size (fun g hg => (hown.lt g hg).1)
          | false =>
            have hbl : Op.bytesLess l[k].1.toList n.toList = false := hlt2
            cases he : (l[k].1.toList == n.toList) with
            | true =>
              obtain ⟨hm, ho⟩ := so2 (u := u) hlt hd hlt2 he
              have HM := Lib.hid hm
              have HO := Lib.hid ho
              clear hm ho hlt2
              go_wp2_with (at_builtin; refine wpList_append_own _ rfl (.tmp 41) (.tmp 45) 22 rfl w.heap.size 59 i0 _ 2 32 Tryz.underlying22 hi hz0 hz1 hz2 rfl (by decide) _ _ _ rfl (hown.alloc _) ⟨wr.heap.size, 0, none⟩ 1 1 [.string n, .string u] rfl rfl (pair_new _ _ _ _) (pair_one _ _) (by unfold maxLen; omega) (by omega) (by simp; omega) ?_; intro v1 w1 r1 g1 _; have h9 := (hbel.alloc hbel.size (.cells #[.string n, .string u] 59)).grown g1 (hbel.alloc hbel.size _).size (fun g hg => (hown.lt g hg).1); have h9z := h9.size; have x1 := (h9.cell (p := ⟨b, ob + k * 2, none⟩) hb).trans C1.out; have x2 := (h9.cell (p := ⟨b, ob + k * 2 + 1, none⟩) hb).trans C2.out)
              rw [← show atCells [(n, u)] = [.string n, .string u] from rfl, ← atCells_append, ← HO.out] at r1
              have hz : (soFar (l.take (k + 1)) n u).length = (soFar (l.take k) n u).length + 1 := by rw [HO.out]; simp
              refine ⟨⟨k + 1, by omega, by go_num, by rw [HM.out], by rw [hz]; exact r1, ?_⟩, by simp [intOf]; omega⟩
              exact (hbel.alloc hbel.size _).grown g1 (hbel.alloc hbel.size _).size (fun g hg => (hown.lt g hg).1)
            | false =>
              obtain ⟨hm, ho⟩ := so3 (u := u) hlt hd hlt2 he
              have HM := Lib.hid hm
              have HO := Lib.hid ho
              clear hm ho hlt2
              go_wp2_with (first | (at_builtin; refine wpList_append_own _ rfl (.tmp 41) (.tmp 45) 22 rfl w.heap.size 59 i0 _ 2 32 Tryz.underlying22 hi hz0 hz1 hz2 rfl (by decide) _ _ _ rfl (hown.alloc _) ⟨wr.heap.size, 0, none⟩ 1 1 [.string n, .string u] rfl rfl (pair_new _ _ _ _) (pair_one _ _) (by unfold maxLen; omega) (by omega) (by simp; omega) ?_; intro v1 w1 r1 g1 _; have h9 := (hbel.alloc hbel.size (.cells #[.string n, .string u] 59)).grown g1 (hbel.alloc hbel.size _).size (fun g hg => (hown.lt g hg).1); have h9z := h9.size; have x1 := (h9.cell (p := ⟨b, ob + k * 2, none⟩) hb).trans C1.out; have x2 := (h9.cell (p := ⟨b, ob + k * 2 + 1, none⟩) hb).trans C2.out) | (at_builtin; refine wpList_append_own _ rfl (.tmp 54) (.tmp 59) 22 rfl w.heap.size 59 i0 _ 2 32 Tryz.underlying22 hi hz0 hz1 hz2 rfl (by decide) _ _ _ rfl (r1.alloc _) ⟨w1.heap.size, 0, none⟩ 1 1 [.string l[k].1, .string l[k].2] rfl rfl (pair_new _ _ _ _) (pair_one _ _) (by unfold maxLen; omega) (by omega) (by simp; omega) ?_; intro v2 w2 r2 g2 _))
              rw [← show atCells [(n, u)] = [.string n, .string u] from rfl, ← atCells_append, ← atCells_one, ← atCells_append, ← HO.out] at r2
              have hz : (soFar (l.take (k + 1)) n u).length = (soFar (l.take k) n u).length + 1 + 1 := by rw [HO.out]; simp
              refine ⟨⟨k + 1, by omega, by go_num, by rw [HM.out], by rw [hz]; exact r2, ?_⟩, by simp [intOf]; omega⟩
              exact (h9.alloc h9.size _).grown g2 (h9.alloc h9.size _).size (fun g hg => (r1.lt g hg).1)
      · have HE := Lib.hid (show l.take k = l from List.take_of_length_le (by omega))
        rw [HE.out] at hown hlen ⊢
        cases hd : metB l n with
        | true =>
          have ho : soFar l n u = putL l n u := by unfold soFar; rw [if_pos hd]
          rw [ho] at hown hlen
          by_cases hz : (putL l n u).length ≤ 64
          · have H := Lib.hid (HE0.out hz)
            have hzd : decide ((64 : Int) < ((putL l n u).length : Int)) = false := by simp; omega
            obtain ⟨p2, c2, hv2⟩ := OwnA.form (l := putL l n u) ⟨hown, put_sized hs hn hu⟩
            subst hv2
            go_wp2
            go_ret2
            exact ⟨_, by rw [H.out.1]; rfl, by rw [H.out.2]; exact ⟨hown, put_sized hs hn hu⟩, hbel⟩
          · have H := Lib.hid (HE3.out hz)
            have hzd : decide ((64 : Int) < ((putL l n u).length : Int)) = true := by simp; omega
            obtain ⟨p2, c2, hv2⟩ := OwnA.form (l := putL l n u) ⟨hown, put_sized hs hn hu⟩
            subst hv2
            go_wp2
            go_ret2
            exact ⟨_, by rw [H.out.1]; rfl, by rw [H.out.2]; exact own_none _ _, hbel⟩
        | false =>
          have ho : putL l n u = soFar l n u ++ [(n, u)] := by unfold soFar; rw [if_neg (by rw [hd]; decide)]; exact put_all hd
          have HO := Lib.hid ho
          clear ho
          by_cases hz : (putL l n u).length ≤ 64
          · have H := Lib.hid (HE0.out hz)
            have hzd : decide ((64 : Int) < ((putL l n u).length : Int)) = false := by simp; omega
            have HZZ := Lib.hid (show (putL l n u).length = (soFar l n u).length + 1 by rw [HO.out]; simp)
            go_wp2_with (at_builtin; refine wpList_append_own _ rfl (.tmp 63) (.tmp 67) 22 rfl w.heap.size 59 i0 _ 2 32 Tryz.underlying22 hi hz0 hz1 hz2 rfl (by decide) _ _ _ rfl (hown.alloc _) ⟨wr.heap.size, 0, none⟩ 1 1 [.string n, .string u] rfl rfl (pair_new _ _ _ _) (pair_one _ _) (by unfold maxLen; omega) (by omega) (by simp; omega) ?_; intro v3 w3 r3 g3 _; rw [← show atCells [(n, u)] = [.string n, .string u] from rfl, ← atCells_append, ← HO.out, ← HZZ.out] at r3; obtain ⟨p2, c2, rfl⟩ := OwnA.form (l := putL l n u) ⟨r3, put_sized hs hn hu⟩)
            go_ret2
            exact ⟨_, by rw [H.out.1]; rfl, by rw [H.out.2]; exact ⟨r3, put_sized hs hn hu⟩, (hbel.alloc hbel.size _).grown g3 (hbel.alloc hbel.size _).size (fun g hg => (hown.lt g hg).1)⟩
          · have H := Lib.hid (HE3.out hz)
            have hzd : decide ((64 : Int) < ((putL l n u).length : Int)) = true := by simp; omega
            have HZZ := Lib.hid (show (putL l n u).length = (soFar l n u).length + 1 by rw [HO.out]; simp)
            go_wp2_with (at_builtin; refine wpList_append_own _ rfl (.tmp 63) (.tmp 67) 22 rfl w.heap.size 59 i0 _ 2 32 Tryz.underlying22 hi hz0 hz1 hz2 rfl (by decide) _ _ _ rfl (hown.alloc _) ⟨wr.heap.size, 0, none⟩ 1 1 [.string n, .string u] rfl rfl (pair_new _ _ _ _) (pair_one _ _) (by unfold maxLen; omega) (by omega) (by simp; omega) ?_; intro v3 w3 r3 g3 _; rw [← show atCells [(n, u)] = [.string n, .string u] from rfl, ← atCells_append, ← HO.out, ← HZZ.out] at r3; obtain ⟨p2, c2, rfl⟩ := OwnA.form (l := putL l n u) ⟨r3, put_sized hs hn hu⟩)
            go_ret2
            exact ⟨_, by rw [H.out.1]; rfl, by rw [H.out.2]; exact own_none _ _, (hbel.alloc hbel.size _).grown g3 (hbel.alloc hbel.size _).size (fun g hg => (hown.lt g hg).1)⟩
end Go.Proofs.YtobafhjhholpgaaGreatDoor
