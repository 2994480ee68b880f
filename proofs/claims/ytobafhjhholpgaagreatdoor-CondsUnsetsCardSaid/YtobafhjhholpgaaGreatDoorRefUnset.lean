import Derived.Test.YtobafhjhholpgaaGreatDoorOwn
import Derived.Test.YtobafhjhholpgaaGreatDoorRefCheck
import Derived.Maps.AppendAt
namespace Go.Proofs.YtobafhjhholpgaaGreatDoor
open Go.RowKit
set_option maxRecDepth 100000

theorem cut_take (l : List At) (n : ByteArray) (k : Nat) (h : k < l.length) : cutL (l.take (k + 1)) n = cutL (l.take k) n ++ (if neP n l[k] = true then [l[k]] else []) := by
  unfold cutL
  rw [List.take_succ_eq_append_getElem h, List.filter_append]
  congr 1
  by_cases e : neP n l[k] = true
  · rw [if_pos e, List.filter_cons_of_pos e]; rfl
  · rw [if_neg e, List.filter_cons_of_neg e]; rfl
theorem atCells_one (a : At) : atCells [a] = [.string a.1, .string a.2] := rfl
theorem cut_len (l : List At) (n : ByteArray) (k : Nat) : (cutL (l.take k) n).length ≤ l.length := by
  have h1 := List.length_filter_le (neP n) (l.take k)
  have h2 : (l.take k).length ≤ l.length := by rw [List.length_take]; omega
  unfold cutL; omega

set_option maxHeartbeats 2000000 in
theorem refUnset_any (v : Value) (l : List At) (n : ByteArray) (w : World) (h : Attrs w v l) (hn : n.size ≤ 140737488351232) : Calls Tryz.prog 15 #[v, .string n] w fun e w' =>
    ∃ a, e = .returned (.tuple #[a, .int .i64 ((cutE l n : Nat) : Int)]) ∧ OwnA w' w.heap.size a (unsL l n) ∧ Below w.heap.size w w' := by
  have hCk := refCheck_any v l w h
  have hNm := fun w => refName_any n w (by unfold maxLen; omega)
  obtain ⟨i0, hi, hz0, hz1, hz2⟩ := info_parts info48
  cases hcl : checkL l with
  | false =>
    obtain ⟨e1, e2⟩ := cutE_no (l := l) (n := n) (by rw [hcl]; rfl)
    rw [e1, e2]
    rw [hcl] at hCk
    go_enter Tryz.func15, Tryz.ntmps15
    go_wp2_with (go_at_call 26; refine hCk.mono ?_; rintro e w1 ⟨rfl, q, rfl⟩)
    go_ret2
    exact ⟨_, rfl, ⟨⟨rfl, .inl ⟨rfl, rfl⟩⟩, by intro a ha; cases ha⟩, below_drewN (Below.refl _ _) q⟩
  | true =>
    rw [hcl] at hCk
    cases hnm : nameB n.data.toList with
    | false =>
      obtain ⟨e1, e2⟩ := cutE_no (l := l) (n := n) (by rw [hnm]; simp)
      rw [e1, e2]
      rw [hnm] at hNm
      go_enter Tryz.func15, Tryz.ntmps15
      go_wp2_with (first | (go_at_call 26; refine hCk.mono ?_; rintro e w1 ⟨rfl, q, rfl⟩) | (go_at_call 27; refine (hNm _).mono ?_; rintro e w' ⟨rfl, rfl⟩))
      go_ret2
      exact ⟨_, rfl, ⟨⟨rfl, .inl ⟨rfl, rfl⟩⟩, by intro a ha; cases ha⟩, below_drewN (Below.refl _ _) q⟩
    | true =>
      obtain ⟨e1, e2⟩ := cutE_ok (l := l) (n := n) (by rw [hcl, hnm]; rfl)
      have hl64 := (check_parts hcl).1
      rw [e1, e2]
      rw [hnm] at hNm
      clear e1 e2 hcl hnm
      obtain ⟨p, cap, rfl, hl, ⟨hs, -⟩, hc⟩ := h
      go_enter Tryz.func15, Tryz.ntmps15
      go_wp2_with (first | (go_at_call 26; refine hCk.mono ?_; rintro e w1 ⟨rfl, q, rfl⟩; have hb1 : Below w.heap.size w (w.drewN q) := below_drewN (Below.refl _ _) q) | (go_at_call 27; refine (hNm _).mono ?_; rintro e w' ⟨rfl, rfl⟩))
      go_loopw [6, 7] (fun o i wr => ∃ k : Nat, k ≤ l.length ∧ i = .int .i64 k ∧ wr.ownsRow w.heap.size 59 2 o (cutL (l.take k) n).length (atCells (cutL (l.take k) n)) ∧ Below w.heap.size w wr) (fun _ i _ => l.length - (intOf i).toNat)
      case atStart => exact ⟨0, by omega, rfl, ⟨rfl, .inl ⟨rfl, rfl⟩⟩, hb1⟩
      case round =>
        clear hb1
        obtain ⟨k, hk, rfl, hown, hbel⟩ := hrel
        by_cases hlt : k < l.length
        · obtain ⟨b, o, rfl, hb, hcc⟩ := hc (by omega)
          obtain ⟨c1, c2⟩ := hcc k hlt
          have c1 := (hbel.cell (p := ⟨b, o + k * 2, none⟩) hb).trans c1
          have c2 := (hbel.cell (p := ⟨b, o + k * 2 + 1, none⟩) hb).trans c2
          have HT := Lib.hid (cut_take l n k hlt)
          have HL := Lib.hid (cut_len l n k)
          clear hc hcc
          cases hne : neP n l[k] with
          | true =>
            have he : (l[k].1.toList == n.toList) = false := by simpa [neP] using hne
            rw [hne] at HT
            have HT2 : Hid (cutL (l.take (k + 1)) n = cutL (l.take k) n ++ [l[k]]) := Lib.hid (by rw [HT.out]; rfl)
            clear hne HT
            have hlen := HL.out
            go_wp2_with (at_builtin; refine wpList_append_own _ rfl (.tmp 29) (.tmp 34) 22 rfl w.heap.size 59 i0 _ 2 32 Tryz.underlying22 hi hz0 hz1 hz2 rfl (by decide) _ _ _ rfl (hown.alloc _) ⟨wr.heap.size, 0, none⟩ 1 1 [.string l[k].1, .string l[k].2] rfl rfl (pair_new _ _ _ _) (pair_one _ _) (by unfold maxLen; omega) (by omega) (by have := hbel.size; simp; omega) ?_; intro v2 w2 r1 r2 _)
            rw [← atCells_one, ← atCells_append, ← HT2.out] at r1
            have hz : (cutL (l.take (k + 1)) n).length = (cutL (l.take k) n).length + 1 := by rw [HT2.out]; simp
            refine ⟨⟨k + 1, by omega, by go_num, by rw [hz]; exact r1, ?_⟩, by simp [intOf]; omega⟩
            exact (hbel.alloc hbel.size _).grown r2 (hbel.alloc hbel.size _).size (fun g hg => (hown.lt g hg).1)
          | false =>
            have he : (l[k].1.toList == n.toList) = true := by simpa [neP] using hne
            rw [hne] at HT
            have HT2 : Hid (cutL (l.take (k + 1)) n = cutL (l.take k) n) := Lib.hid (by rw [HT.out]; simp)
            clear hne HT
            go_wp2
            refine ⟨⟨k + 1, by omega, by go_num, by rw [HT2.out]; exact hown, hbel⟩, by simp [intOf]; omega⟩
        · have HE := Lib.hid (show l.take k = l from List.take_of_length_le (by omega))
          rw [HE.out] at hown
          go_wp2
          go_ret2
          exact ⟨_, rfl, ⟨hown, fun a ha => hs a (List.mem_filter.1 ha).1⟩, hbel⟩
end Go.Proofs.YtobafhjhholpgaaGreatDoor
