import Derived.Test.YtikeaiibociapaaGreatDoorGrowA
namespace Go.Proofs.YtikeaiibociapaaGreatDoor
open Go.RowKit
set_option maxRecDepth 100000

theorem marksA_at (x : Held) : ∀ (n j : Nat), j < n → (marksA x n)[j * 2]? = some (.string (markT x.nu)) ∧ (marksA x n)[j * 2 + 1]? = some (.string ⟨#[]⟩)
  | n + 1, j, h => by
    have hm := marksA_length x n
    rw [marksA_succ]
    by_cases e : j < n
    · obtain ⟨e1, e2⟩ := marksA_at x n j e
      rw [List.getElem?_append_left (by omega), List.getElem?_append_left (by omega)]
      exact ⟨e1, e2⟩
    · have : j = n := by omega
      subst this
      rw [List.getElem?_append_right (by omega), List.getElem?_append_right (by omega), hm, Nat.sub_self, show j * 2 + 1 - j * 2 = 1 by omega]
      exact ⟨rfl, rfl⟩
theorem mark_at {w : World} {base n c : Nat} {p : Option Addr} {x : Held} (h : w.ownsRow base 84 2 (.slice p n c) n (marksA x n)) (j : Nat) (hj : j < n) :
    ∃ g, p = some ⟨g, 0, none⟩ ∧ w.cell? ⟨g, j * 2, none⟩ = some (.string (markT x.nu)) ∧ w.cell? ⟨g, j * 2 + 1, none⟩ = some (.string ⟨#[]⟩) := by
  rcases h.2 with ⟨_, h0⟩ | ⟨g, cap, cur, hv, _⟩
  · omega
  · cases hv
    have hc := h.cells rfl
    obtain ⟨e1, e2⟩ := marksA_at x n j hj
    have a1 := hc _ _ e1
    have a2 := hc _ _ e2
    rw [add_at] at a1 a2
    exact ⟨g, rfl, a1, a2⟩

set_option maxHeartbeats 2000000 in
theorem lookAttr_any (base K T cT : Nat) (hs : List Held) (L : Nat → Sl) (w : World) (hB : Bk 7 w K T cT hs L) (hS : Sep K T hs) (hn40 : ∀ i (h : i < hs.length), hs[i].n ≤ 4294967296)
    (hR : ∀ i (h : i < hs.length), w.ownsRow base 84 2 hs[i].v hs[i].n (marksA hs[i] hs[i].n))
    (hL : ∀ i (h : i < hs.length), (L i).n = hs[i].n + 40 ∧ w.ownsRow base 84 2 (L i).v (hs[i].n + 40) (marksA hs[i] (hs[i].n + 40))) :
    Calls Tryz.prog 87 #[.pointer (some ⟨K, 0, none⟩)] w fun e w' => e = .returned (.bool true) ∧ KeptBut (fun _ => False) w w' := by
  have hlen := hS.len
  go_enter Tryz.func87, Tryz.ntmps87
  go_wp2
  go_loopw [3] (fun i wr => ∃ k : Nat, k ≤ hs.length ∧ i = .int .i64 k ∧ KeptBut (fun _ => False) w wr) (fun i _ => hs.length - (intOf i).toNat)
  case atStart => exact ⟨0, by omega, rfl, KeptBut.refl _ _⟩
  case round =>
    obtain ⟨k, hk, rfl, hkb⟩ := hrel
    obtain ⟨wo, rfl⟩ : ∃ wo : World, wo = wr := ⟨_, rfl⟩
    have hBk := hB.kept hkb (fun h => h) (fun h => h)
    have hf := hBk.field
    by_cases hlt : k < hs.length
    · have hv := hBk.v k hlt
      have hl := hBk.l k hlt
      have hnu := hBk.nu k hlt
      unfold Held.v at hv
      unfold Sl.v at hl
      rw [(hL k hlt).1] at hl
      have hnuk := hS.nu k hlt
      have hnk := hn40 k hlt
      have hne : (((hs[k].n : Int) + 40) != ((hs[k].n : Int) + 40)) = false := by simp
      go_wp2
      obtain ⟨W1, hW1⟩ : ∃ W1, wo.alloc (.cells #[.slice hs[k].p hs[k].n hs[k].c, .slice (L k).p (hs[k].n + 40) (L k).c, .int .i64 hs[k].nu] 123) = W1 := ⟨_, rfl⟩
      have hh0 : W1.cell? ⟨wo.heap.size, 0, none⟩ = some (.slice hs[k].p hs[k].n hs[k].c) := by rw [← hW1, World.cell?_alloc_new]; rfl
      have hh1 : W1.cell? ⟨wo.heap.size, 1, none⟩ = some (.slice (L k).p (hs[k].n + 40) (L k).c) := by rw [← hW1, World.cell?_alloc_new]; rfl
      have hh2 : W1.cell? ⟨wo.heap.size, 2, none⟩ = some (.int .i64 hs[k].nu) := by rw [← hW1, World.cell?_alloc_new]; rfl
      have hkb1 : KeptBut (fun _ => False) w W1 := by rw [← hW1]; exact hkb.alloc _
      have hrv := hkb1.row (hR k hlt) (fun _ _ h => h)
      have hrl := hkb1.row (hL k hlt).2 (fun _ _ h => h)
      unfold Held.v at hrv
      unfold Sl.v at hrl
      rw [(hL k hlt).1] at hrl
      rw [hW1]
      clear hW1 hv hl hnu hf hBk hkb
      go_loopw [5] (fun i wi => ∃ j : Nat, j ≤ hs[k].n + 40 ∧ i = .int .i64 j ∧ Below W1.heap.size W1 wi) (fun i _ => hs[k].n + 40 - (intOf i).toNat)
      case atStart => exact ⟨0, by omega, rfl, Below.refl _ _⟩
      case round =>
        obtain ⟨j, hj, rfl, hbi⟩ := hrel
        have hh0 := keep_cell hbi hh0
        have hh1 := keep_cell hbi hh1
        have hh2 := keep_cell hbi hh2
        by_cases hltj : j < hs[k].n + 40
        · obtain ⟨g, hp, hca, hcb⟩ := mark_at hrl j hltj
          have hca := keep_cell hbi hca
          have hcb := keep_cell hbi hcb
          rw [hp] at hh1
          clear hp
          by_cases hltn : j < hs[k].n
          · obtain ⟨g2, hp2, hda, hdb⟩ := mark_at hrv j hltn
            have hda := keep_cell hbi hda
            have hdb := keep_cell hbi hdb
            rw [hp2] at hh0
            clear hp2
            go_wp2
            have U0 := under_cell hh0
            have U1 := under_cell hh1
            have U2 := under_cell hh2
            have U3 := under_cell hca
            have U4 := under_cell hcb
            have U5 := under_cell hda
            have U6 := under_cell hdb
            have hd : decide ((j : Int) < (hs[k].n : Int)) = true := by simp; omega
            refine wp_region_under wr (by kernel_rfl) (by kernel_rfl) (Below.refl _ _) ?_
            repeat (go_big_quiet_step ((go_at_call 135; exact under_call (isAttr_any _ hnuk _))))
            refine wpQuiet_nil ?_
            rintro _ ⟨x, rfl⟩
            have hb3 := x.ok
            clear U0 U1 U2 U3 U4 U5 U6
            go_wp2
            go_roundw
            case rel => exact ⟨j + 1, by omega, by go_num, behind hbi hb3⟩
            case measure => simp [intOf]; omega
          · go_wp2
            have U0 := under_cell hh0
            have U1 := under_cell hh1
            have U2 := under_cell hh2
            have U3 := under_cell hca
            have U4 := under_cell hcb
            have hd : decide ((j : Int) < (hs[k].n : Int)) = false := by simp; omega
            refine wp_region_under wr (by kernel_rfl) (by kernel_rfl) (Below.refl _ _) ?_
            repeat (go_big_quiet_step ((go_at_call 135; exact under_call (isAttr_any _ hnuk _))))
            refine wpQuiet_nil ?_
            rintro _ ⟨x, rfl⟩
            have hb3 := x.ok
            clear U0 U1 U2 U3 U4
            go_wp2
            go_roundw
            case rel => exact ⟨j + 1, by omega, by go_num, behind hbi hb3⟩
            case measure => simp [intOf]; omega
        · go_wp2
          go_roundw
          case rel => exact ⟨k + 1, by omega, by go_num, hkb1.trans (KeptBut.below hbi)⟩
          case measure => simp [intOf]; omega
    · go_wp2
      go_ret
      exact ⟨rfl, hkb⟩
end Go.Proofs.YtikeaiibociapaaGreatDoor
