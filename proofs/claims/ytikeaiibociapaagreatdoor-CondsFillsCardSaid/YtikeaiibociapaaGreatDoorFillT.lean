import Derived.Test.YtikeaiibociapaaGreatDoorFillA
namespace Go.Proofs.YtikeaiibociapaaGreatDoor
open Go.RowKit
set_option maxRecDepth 100000

theorem marks_set (h : Held) (xs : List Value) (j : Nat) (hj : j < xs.length) : (marks h j ++ xs.drop j).set j (.string (markT h.nu)) = marks h (j + 1) ++ xs.drop (j + 1) := by
  have hm : (marks h j).length = j := by simp [marks]
  rw [List.set_append_right _ _ (by omega), hm, Nat.sub_self, List.drop_eq_getElem_cons hj, List.set_cons_zero]
  have : marks h (j + 1) = marks h j ++ [.string (markT h.nu)] := by unfold marks; rw [List.replicate_succ']
  rw [this, List.append_assoc]; rfl

set_option maxHeartbeats 1000000 in
theorem fillText_any (base K T cT : Nat) (hs : List Held) (ls : Nat → Sl) (rows : Nat → List Value) (w : World) (hB : Bk 3 w K T cT hs ls) (hS : Sep K T hs)
    (hR : ∀ i (h : i < hs.length), w.ownsRow base 9 1 hs[i].v hs[i].n (rows i)) :
    Calls Tryz.prog 49 #[.pointer (some ⟨K, 0, none⟩)] w fun e w' => e = .returned (.tuple #[]) ∧ KeptBut (Own hs) w w' ∧ ∀ i (h : i < hs.length), w'.ownsRow base 9 1 hs[i].v hs[i].n (marks hs[i] hs[i].n) := by
  have hlen := hS.len
  have hnK : ¬ Own hs K := fun ⟨i, h, e⟩ => hS.nK i h e
  have hnT : ¬ Own hs T := fun ⟨i, h, e⟩ => hS.nT i h e
  go_enter Tryz.func49, Tryz.ntmps49
  go_wp2
  go_loopw [2] (fun i wr => ∃ k : Nat, k ≤ hs.length ∧ i = .int .i64 k ∧ KeptBut (Own hs) w wr ∧ ∀ i (h : i < hs.length), wr.ownsRow base 9 1 hs[i].v hs[i].n (if i < k then marks hs[i] hs[i].n else rows i)) (fun i _ => hs.length - (intOf i).toNat)
  case atStart => exact ⟨0, by omega, rfl, KeptBut.refl _ _, fun i hi => by simpa using hR i hi⟩
  case round =>
    obtain ⟨k, hk, rfl, hkb, hRk⟩ := hrel
    obtain ⟨wo, rfl⟩ : ∃ wo : World, wo = wr := ⟨_, rfl⟩
    have hBk := hB.kept hkb hnK hnT
    have hf := hBk.field
    by_cases hlt : k < hs.length
    · have hv := hBk.v k hlt
      have hl := hBk.l k hlt
      have hnu := hBk.nu k hlt
      unfold Held.v at hv
      unfold Sl.v at hl
      go_wp2
      obtain ⟨W1, hW1⟩ : ∃ W1, wo.alloc (.cells #[.slice hs[k].p hs[k].n hs[k].c, .slice (ls k).p (ls k).n (ls k).c, .int .i64 hs[k].nu] 125) = W1 := ⟨_, rfl⟩
      have hh0 : W1.cell? ⟨wo.heap.size, 0, none⟩ = some (.slice hs[k].p hs[k].n hs[k].c) := by rw [← hW1, World.cell?_alloc_new]; rfl
      have hh2 : W1.cell? ⟨wo.heap.size, 2, none⟩ = some (.int .i64 hs[k].nu) := by rw [← hW1, World.cell?_alloc_new]; rfl
      have hhs : wo.heap.size < W1.heap.size := by rw [← hW1]; simp
      have hkb1 : KeptBut (Own hs) w W1 := by rw [← hW1]; exact hkb.alloc _
      have hR1 : ∀ i (h : i < hs.length), W1.ownsRow base 9 1 hs[i].v hs[i].n (if i < k then marks hs[i] hs[i].n else rows i) := by
        rw [← hW1]; exact fun i hi => (hRk i hi).alloc _
      have hown : ∀ g, hs[k].v.ownBlock = some g → g < wo.heap.size := fun g e => ((hRk k hlt).lt g e).2
      rw [hW1]
      have hnuk := hS.nu k hlt
      have hnk := hS.n k hlt
      have hrow := hR1 k hlt
      rw [if_neg (by omega)] at hrow
      clear hW1 hv hl hnu hf hBk
      go_loopw [4] (fun i wi => ∃ j : Nat, j ≤ hs[k].n ∧ i = .int .i64 j ∧ KeptBut (fun b => hs[k].v.ownBlock = some b) W1 wi ∧ wi.ownsRow base 9 1 hs[k].v hs[k].n (marks hs[k] j ++ (rows k).drop j)) (fun i _ => hs[k].n - (intOf i).toNat)
      case atStart => exact ⟨0, by omega, rfl, KeptBut.refl _ _, by simpa [marks] using hrow⟩
      case round =>
        obtain ⟨j, hj, rfl, hki, hrj⟩ := hrel
        have c0 := (hki.cell (p := ⟨wo.heap.size, 0, none⟩) hhs (fun e => Nat.lt_irrefl _ (hown _ e))).trans hh0
        have c2 := (hki.cell (p := ⟨wo.heap.size, 2, none⟩) hhs (fun e => Nat.lt_irrefl _ (hown _ e))).trans hh2
        have HL3 : Hid ((rows k).length = hs[k].n) := by exact Lib.hid (by have := hrow.1; omega)
        by_cases hltj : j < hs[k].n
        · have hlen2 := hrj.1
          obtain ⟨g, cap, cur, hval, hgb, hgh, hgn, hgm, hgs, hgt⟩ : ∃ g cap cur, hs[k].v = .slice (some ⟨g, 0, none⟩) hs[k].n cap ∧ base ≤ g ∧ wr.heap[g]? = some (.cells cur 9 (0, 0)) ∧ hs[k].n ≤ cap ∧ cap ≤ maxLen ∧ cur.size = cap * 1 ∧ cur.toList.take (hs[k].n * 1) = marks hs[k] j ++ (rows k).drop j := by
            rcases hrj.2 with ⟨_, h0⟩ | h
            · omega
            · exact h
          have hp : hs[k].p = some ⟨g, 0, none⟩ := by unfold Held.v at hval; injection hval
          rw [hp] at c0
          clear hp
          have HV := Lib.hid hval
          clear hval
          have hcj : ∃ u, wr.cell? ⟨g, j, none⟩ = some u := ⟨cur[j]'(by omega), by simp [World.cell?, hgh]⟩
          obtain ⟨u, hcj⟩ := hcj
          have hfj : wr.frozen? ⟨g, j, none⟩ = false := by simp [World.frozen?, hgh]
          go_wp2
          go_still_tail 7, (by kernel_rfl)
          still_call ((markText_any _ hnuk _).mono fun _ _ h => ⟨h.1, h.2.symm⟩)
          still_step
          refine wpStill_nil ?_
          change wpList _ _ _ _ _ wr.drew
          go_wp2
          have hrs := hrj
          rw [HV.out] at hrs
          have hst := hrs.stored j (.string (markT hs[k].nu))
          rw [marks_set _ _ _ (by rw [HL3.out]; omega), ← HV.out] at hst
          go_roundw
          case rel => exact ⟨j + 1, by omega, by go_num, (hki.setCell (.inl (by rw [HV.out]; rfl)) _).drew, hst.1⟩
          case measure => simp [intOf]; omega
        · have hje : j = hs[k].n := by omega
          have hrj' : wr.ownsRow base 9 1 hs[k].v hs[k].n (marks hs[k] hs[k].n) := by
            have hl := hrow.1
            rw [hje, List.drop_of_length_le (by omega), List.append_nil] at hrj
            exact hrj
          have HJ := Lib.hid hje
          clear hje hrj
          go_wp2
          go_roundw
          case rel =>
            refine ⟨k + 1, by omega, by go_num, hkb1.trans (hki.mono fun b hb => ⟨k, hlt, hb⟩), fun i hi => ?_⟩
            by_cases e : i = k
            · subst e; rw [if_pos (by omega)]; exact hrj'
            · have h1 := hki.row (hR1 i hi) (fun g hg hg' => hS.ne k i hlt hi (Ne.symm e) g hg' hg)
              by_cases e2 : i < k
              · rw [if_pos e2] at h1; rw [if_pos (by omega)]; exact h1
              · rw [if_neg e2] at h1; rw [if_neg (by omega)]; exact h1
          case measure => simp [intOf]; omega
    · have hke : k = hs.length := by omega
      have HE := Lib.hid hke
      clear hke
      go_wp2
      go_end0
      exact ⟨rfl, hkb, fun i hi => by have := hRk i hi; rwa [if_pos (by have := HE.out; omega)] at this⟩
end Go.Proofs.YtikeaiibociapaaGreatDoor
