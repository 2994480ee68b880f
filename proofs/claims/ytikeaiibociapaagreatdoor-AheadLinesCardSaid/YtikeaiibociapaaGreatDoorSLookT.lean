import Derived.Test.YtikeaiibociapaaGreatDoorSGrowT
namespace Go.Proofs.YtikeaiibociapaaGreatDoor.src
open Go.RowKit
set_option maxRecDepth 100000

theorem quiet_same {P : Program} {f : FuncId} {args : Array Value} {w : World} {a n : Nat} {v : Value} (h : Calls P f args (w.drewN (a + n)) fun e w' => e = .returned v ∧ w.drewN (a + n) = w') :
    Calls P f args (w.drewN (a + n)) fun e w'' => e = .returned v ∧ ∃ m, w'' = w.drewN (a + m) := h.mono fun _ _ ⟨he, hm⟩ => ⟨he, n, hm.symm⟩

theorem mark_at_t {w : World} {base n c : Nat} {p : Option Addr} {x : Held} (h : w.ownsRow base 9 1 (.slice p n c) n (marks x n)) (j : Nat) (hj : j < n) : ∃ g, p = some ⟨g, 0, none⟩ ∧ w.cell? ⟨g, j, none⟩ = some (.string (markT x.nu)) := by
  rcases h.2 with ⟨_, h0⟩ | ⟨g, cap, cur, hv, _⟩
  · omega
  · cases hv
    refine ⟨g, rfl, ?_⟩
    rw [h.cellAt j (by omega)]
    simp [marks, hj]

set_option maxHeartbeats 2000000 in
theorem lookText_any (base K T cT : Nat) (hs : List Held) (L : Nat → Sl) (w : World) (hB : Bk 3 w K T cT hs L) (hS : Sep K T hs) (hn40 : ∀ i (h : i < hs.length), hs[i].n ≤ 4294967296)
    (hR : ∀ i (h : i < hs.length), w.ownsRow base 9 1 hs[i].v hs[i].n (marks hs[i] hs[i].n))
    (hL : ∀ i (h : i < hs.length), (L i).n = hs[i].n + 40 ∧ w.ownsRow base 9 1 (L i).v (hs[i].n + 40) (marks hs[i] (hs[i].n + 40))) :
    Calls Tryz.prog 83 #[.pointer (some ⟨K, 0, none⟩)] w fun e w' => e = .returned (.bool true) ∧ KeptBut (fun _ => False) w w' := by
  have hlen := hS.len
  go_enter Tryz.func83, Tryz.ntmps83
  go_wp2
  go_loopw [3] (fun i wr => ∃ k : Nat, k ≤ hs.length ∧ i = .int .i64 k ∧ KeptBut (fun _ => False) w wr) (fun i _ => hs.length - (intOf i).toNat)
  case atStart => exact ⟨0, by omega, rfl, KeptBut.refl _ _⟩
  case round =>
    obtain ⟨k, hk, rfl, hkb⟩ := hrel
    obtain ⟨wo, rfl⟩ : ∃ wo : World, wo = wr := ⟨_, rfl⟩
    have hBk := hB.kept hkb (fun h => h) (fun h => h)
    have hf := hBk.field
    by_cases hlt : k < hs.length
    · have hv := hBk.v k hlt
      have hl := hBk.l k hlt
      have hnu := hBk.nu k hlt
      unfold Held.v at hv
      unfold Sl.v at hl
      rw [(hL k hlt).1] at hl
      have hnuk := hS.nu k hlt
      have hnk := hn40 k hlt
      have hne : (((hs[k].n : Int) + 40) != ((hs[k].n : Int) + 40)) = false := by simp
      go_wp2
      obtain ⟨W1, hW1⟩ : ∃ W1, wo.alloc (.cells #[.slice hs[k].p hs[k].n hs[k].c, .slice (L k).p (hs[k].n + 40) (L k).c, .int .i64 hs[k].nu] 125) = W1 := ⟨_, rfl⟩
      have hh0 : W1.cell? ⟨wo.heap.size, 0, none⟩ = some (.slice hs[k].p hs[k].n hs[k].c) := by rw [← hW1, World.cell?_alloc_new]; rfl
      have hh1 : W1.cell? ⟨wo.heap.size, 1, none⟩ = some (.slice (L k).p (hs[k].n + 40) (L k).c) := by rw [← hW1, World.cell?_alloc_new]; rfl
      have hh2 : W1.cell? ⟨wo.heap.size, 2, none⟩ = some (.int .i64 hs[k].nu) := by rw [← hW1, World.cell?_alloc_new]; rfl
      have hkb1 : KeptBut (fun _ => False) w W1 := by rw [← hW1]; exact hkb.alloc _
      have hrv := hkb1.row (hR k hlt) (fun _ _ h => h)
      have hrl := hkb1.row (hL k hlt).2 (fun _ _ h => h)
      unfold Held.v at hrv
      unfold Sl.v at hrl
      rw [(hL k hlt).1] at hrl
      rw [hW1]
      clear hW1 hv hl hnu hf hBk hkb
      go_loopw [5] (fun i wi => ∃ j q : Nat, j ≤ hs[k].n + 40 ∧ i = .int .i64 j ∧ wi = W1.drewN q) (fun i _ => hs[k].n + 40 - (intOf i).toNat)
      case atStart => exact ⟨0, 0, by omega, rfl, rfl⟩
      case round =>
        obtain ⟨j, q, hj, rfl, rfl⟩ := hrel
        by_cases hltj : j < hs[k].n + 40
        · obtain ⟨g, hp, hc⟩ := mark_at_t hrl j hltj
          rw [hp] at hh1
          clear hp
          by_cases hltn : j < hs[k].n
          · obtain ⟨g2, hp2, hc2⟩ := mark_at_t hrv j hltn
            rw [hp2] at hh0
            clear hp2
            go_wp2
            go_quiet ((go_at_call 131; exact quiet_same (isText_yes _ hnuk _)))
            go_wp2
            go_roundw
            case rel => exact ⟨j + 1, _, by omega, by go_num, rfl⟩
            case measure => simp [intOf]; omega
          · go_wp2
            go_quiet ((go_at_call 131; exact quiet_same (isText_yes _ hnuk _)))
            go_wp2
            go_roundw
            case rel => exact ⟨j + 1, _, by omega, by go_num, rfl⟩
            case measure => simp [intOf]; omega
        · go_wp2
          go_roundw
          case rel => exact ⟨k + 1, by omega, by go_num, hkb1.drewN q⟩
          case measure => simp [intOf]; omega
    · go_wp2
      go_ret
      exact ⟨rfl, hkb⟩
end Go.Proofs.YtikeaiibociapaaGreatDoor.src
