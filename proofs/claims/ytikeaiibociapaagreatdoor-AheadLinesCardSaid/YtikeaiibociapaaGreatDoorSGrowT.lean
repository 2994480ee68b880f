import Derived.Test.YtikeaiibociapaaGreatDoorSFillT
import Derived.Test.YtikeaiibociapaaGreatDoorSGrowA
namespace Go.Proofs.YtikeaiibociapaaGreatDoor.src
open Go.RowKit
set_option maxRecDepth 100000

theorem info9 : (Tryz.prog.info? 9).map (fun i => (i.zero, i.size, i.bytes)) = some (some (.string ⟨#[]⟩), 1, 16) := by kernel_rfl

/-- the longer lists -/
def LongsT (w : World) (base : Nat) (hs : List Held) (L : Nat → Sl) (wr : World) (k : Nat) : Prop :=
  ∀ i (h : i < hs.length), i < k → (L i).n = hs[i].n + 40 ∧ wr.ownsRow base 9 1 (L i).v (hs[i].n + 40) (marks hs[i] (hs[i].n + 40)) ∧ ∀ g, (L i).v.ownBlock = some g → hs[i].v.ownBlock = some g ∨ w.heap.size ≤ g

theorem marks_snoc (h : Held) (k : Nat) : marks h k ++ [.string (markT h.nu)] = marks h (k + 1) := by unfold marks; rw [List.replicate_succ']

set_option maxHeartbeats 2000000 in
theorem growText_any (base K T cT : Nat) (hs : List Held) (ls : Nat → Sl) (w : World) (hB : Bk 3 w K T cT hs ls) (hS : Sep K T hs) (hbase : base ≤ w.heap.size) (hn40 : ∀ i (h : i < hs.length), hs[i].n ≤ 4294967296)
    (hR : ∀ i (h : i < hs.length), w.ownsRow base 9 1 hs[i].v hs[i].n (marks hs[i] hs[i].n)) :
    Calls Tryz.prog 66 #[.pointer (some ⟨K, 0, none⟩)] w fun e w' => e = .returned (.tuple #[]) ∧ KeptBut (fun b => b = T ∨ Own hs b) w w' ∧ (∀ i (h : i < hs.length), w'.ownsRow base 9 1 hs[i].v hs[i].n (marks hs[i] hs[i].n)) ∧
      ∃ L : Nat → Sl, Bk 3 w' K T cT hs L ∧ LongsT w base hs L w' hs.length := by
  have hlen := hS.len
  have hnK : ¬ Own hs K := fun ⟨i, h, e⟩ => hS.nK i h e
  have hnT : ¬ Own hs T := fun ⟨i, h, e⟩ => hS.nT i h e
  obtain ⟨i0, hi, hz0, hz1, hz2⟩ := info_parts info9
  go_enter Tryz.func66, Tryz.ntmps66
  go_wp2
  go_loopw [2] (fun i wr => ∃ (k : Nat) (L : Nat → Sl), k ≤ hs.length ∧ i = .int .i64 k ∧ KeptBut (fun b => b = T ∨ Own hs b) w wr ∧ Bk 3 wr K T cT hs (fun i => if i < k then L i else ls i) ∧ (∀ i (h : i < hs.length), wr.ownsRow base 9 1 hs[i].v hs[i].n (marks hs[i] hs[i].n)) ∧ LongsT w base hs L wr k) (fun i _ => hs.length - (intOf i).toNat)
  case atStart => exact ⟨0, ls, by omega, rfl, KeptBut.refl _ _, hB.congr (by intro i _; simp), hR, fun i _ h => by omega⟩
  case round =>
    obtain ⟨k, L, hk, rfl, hkb, hBk, hRk, hLk⟩ := hrel
    obtain ⟨wo, rfl⟩ : ∃ wo : World, wo = wr := ⟨_, rfl⟩
    have hf := hBk.field
    by_cases hlt : k < hs.length
    · have hv := hBk.v k hlt
      have hl := hBk.l k hlt
      have hnu := hBk.nu k hlt
      rw [if_neg (by omega)] at hl
      unfold Held.v at hv
      unfold Sl.v at hl
      go_wp2
      obtain ⟨W1, hW1⟩ : ∃ W1, wo.alloc (.cells #[.slice hs[k].p hs[k].n hs[k].c, .slice (ls k).p (ls k).n (ls k).c, .int .i64 hs[k].nu] 125) = W1 := ⟨_, rfl⟩
      have hh2 : W1.cell? ⟨wo.heap.size, 2, none⟩ = some (.int .i64 hs[k].nu) := by rw [← hW1, World.cell?_alloc_new]; rfl
      have hhs : wo.heap.size < W1.heap.size := by rw [← hW1]; simp
      have hkb0 : KeptBut (fun _ => False) wo W1 := by rw [← hW1]; exact (KeptBut.refl _ _).alloc _
      have hkb1 : KeptBut (fun b => b = T ∨ Own hs b) w W1 := hkb.trans (hkb0.mono (fun _ h => h.elim))
      have hR1 : ∀ i (h : i < hs.length), W1.ownsRow base 9 1 hs[i].v hs[i].n (marks hs[i] hs[i].n) := fun i hi => hkb0.row (hRk i hi) (fun _ _ h => h)
      have hB1 := hBk.kept hkb0 (fun h => h) (fun h => h)
      have hL1 : LongsT w base hs L W1 k := fun i hi hik => ⟨(hLk i hi hik).1, hkb0.row (hLk i hi hik).2.1 (fun _ _ h => h), (hLk i hi hik).2.2⟩
      have hown : ∀ g, hs[k].v.ownBlock = some g → g < wo.heap.size := fun g e => ((hRk k hlt).lt g e).2
      have hLlt : ∀ i (h : i < hs.length), i < k → ∀ g, (L i).v.ownBlock = some g → g < wo.heap.size := fun i hi hik g e => ((hLk i hi hik).2.1.lt g e).2
      have hbase1 : base ≤ W1.heap.size := Nat.le_trans hbase hkb1.size
      have hws : w.heap.size ≤ wo.heap.size := hkb.size
      rw [hW1]
      have hnuk := hS.nu k hlt
      have hnk := hn40 k hlt
      have hrow := hR1 k hlt
      clear hW1 hv hl hnu hf hBk hRk hLk hkb
      go_loopw [4, 5] (fun v i wi => ∃ (j : Nat) (p : Option Addr) (c : Nat), j ≤ 40 ∧ i = .int .i64 j ∧ v = .slice p (hs[k].n + j) c ∧ KeptBut (fun b => hs[k].v.ownBlock = some b) W1 wi ∧ wi.ownsRow base 9 1 (.slice p (hs[k].n + j) c) (hs[k].n + j) (marks hs[k] (hs[k].n + j)) ∧ wi.ownsRow base 9 1 hs[k].v hs[k].n (marks hs[k] hs[k].n) ∧
        ∀ g, (Value.slice p (hs[k].n + j) c).ownBlock = some g → hs[k].v.ownBlock = some g ∨ W1.heap.size ≤ g) (fun _ i _ => 40 - (intOf i).toNat)
      case atStart => exact ⟨0, _, _, by omega, rfl, rfl, KeptBut.refl _ _, hrow, hrow, fun g hg => .inl hg⟩
      case round =>
        obtain ⟨j, p, c, hj, rfl, rfl, hki, hrj, hrv, hblk⟩ := hrel
        have c2 := (hki.cell (p := ⟨wo.heap.size, 2, none⟩) hhs (fun e => Nat.lt_irrefl _ (hown _ e))).trans hh2
        have hbw : base ≤ wr.heap.size := Nat.le_trans hbase1 hki.size
        by_cases hltj : j < 40
        · go_wp2_with (first | (go_at_call 114; refine (markText_any _ hnuk _).mono ?_; rintro e w' ⟨rfl, rfl⟩) | (at_builtin; refine wpList_append_keep _ rfl (.tmp 28) (.tmp 32) 25 rfl base 9 i0 (.string ⟨#[]⟩) 1 16 Tryz.underlying25 hi hz0 hz1 hz2 rfl (by decide) p (hs[k].n + j) c _ rfl (hrj.alloc _) ⟨wr.heap.size, 0, none⟩ 1 [.string (markT hs[k].nu)] rfl rfl (cell_one_new _ _ _) (by simp [Value.oneCell']) (by unfold maxLen; omega) (by omega) (by simp; omega) ?_; intro p' c' w2 r1 r2 r3 r4))
          rw [marks_snoc] at r1
          have hrow2 := row_kept (hrv.alloc (.cells #[.string (markT hs[k].nu)] 9)) rfl (hrj.alloc _) (by omega) r2 r3
          have hki2 : KeptBut (fun b => hs[k].v.ownBlock = some b) W1 w2 := (hki.alloc _).behind r2 hblk
          have hsz := hki.size
          go_roundw
          case rel =>
            refine ⟨j + 1, p', c', by omega, by go_num, rfl, hki2, r1, hrow2, fun g hg => ?_⟩
            rcases r4 g hg with h | h
            · exact hblk g h
            · right; simp at h; omega
          case measure => simp [intOf]; omega
        · have hje : j = 40 := by omega
          have hBr := hB1.kept hki (fun e => hS.nK k hlt e) (fun e => hS.nT k hlt e)
          have hf := hBr.field
          have hl := hBr.l k hlt
          have hfr := hBr.fr k hlt
          rw [if_neg (by omega)] at hl
          unfold Sl.v at hl
          have hset := hBr.setLong hS.KT k hlt ⟨p, hs[k].n + j, c⟩
          have HJ := Lib.hid hje
          clear hje hBr
          go_wp2
          go_roundw
          case rel =>
            obtain ⟨L', hLk, hLn⟩ : ∃ L' : Nat → Sl, L' k = ⟨p, hs[k].n + j, c⟩ ∧ ∀ i, i ≠ k → L' i = L i := ⟨fun i => if i = k then ⟨p, hs[k].n + j, c⟩ else L i, if_pos rfl, fun i h => if_neg h⟩
            refine ⟨k + 1, L', by omega, by go_num, ?_, hset.congr ?_, ?_, ?_⟩
            · exact (hkb1.trans (hki.mono fun b hb => .inr ⟨k, hlt, hb⟩)).setCell (.inl (.inl rfl)) _
            · intro i _
              by_cases e : i = k
              · subst e
                rw [if_pos rfl, if_pos (by omega), hLk]
              · by_cases e2 : i < k
                · rw [if_neg e, if_pos e2, if_pos (by omega), hLn i e]
                · rw [if_neg e, if_neg e2, if_neg (by omega)]
            · intro i hi
              have hne : hs[i].v.ownBlock ≠ some T := hS.nT i hi
              refine ownsRow_setCell_other ?_ hne _
              by_cases e : i = k
              · subst e; exact hrv
              · exact hki.row (hR1 i hi) (fun g hg hg' => hS.ne k i hlt hi (Ne.symm e) g hg' hg)
            · intro i hi hik
              by_cases e : i = k
              · subst e
                rw [hLk]
                have hj40 := HJ.out
                subst hj40
                refine ⟨rfl, ownsRow_setCell_other hrj ?_ _, fun g hg => ?_⟩
                · intro e
                  rcases hblk T e with h | h
                  · exact hS.nT i hi h
                  · have := hB1.lt; omega
                · rcases hblk g hg with h | h
                  · exact .inl h
                  · right; omega
              · rw [hLn i e]
                obtain ⟨q1, q2, q3⟩ := hL1 i hi (by omega)
                refine ⟨q1, ownsRow_setCell_other (hki.row q2 fun g hg hg' => ?_) ?_ _, q3⟩
                · rcases q3 g hg with h | h
                  · exact hS.ne k i hlt hi (Ne.symm e) g hg' h
                  · have h1 := ((hR k hlt).lt g hg').2
                    omega
                · intro e2
                  rcases q3 T e2 with h | h
                  · exact hS.nT i hi h
                  · have := hB.lt; omega
          case measure => simp [intOf]; omega
    · have hke : k = hs.length := by omega
      have HE := Lib.hid hke
      clear hke
      go_wp2
      go_end0
      refine ⟨rfl, hkb, hRk, L, hBk.congr (fun i hi => by rw [if_pos (by have := HE.out; omega)]), ?_⟩
      rw [HE.out] at hLk
      exact hLk
end Go.Proofs.YtikeaiibociapaaGreatDoor.src
