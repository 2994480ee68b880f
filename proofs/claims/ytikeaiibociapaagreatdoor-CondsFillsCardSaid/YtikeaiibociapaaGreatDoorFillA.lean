import Derived.Test.YtikeaiibociapaaGreatDoorMarkA
import Derived.Test.YtikeaiibociapaaGreatDoorUnder
import Derived.Deep.RegionWith
namespace Go.Proofs.YtikeaiibociapaaGreatDoor
open Go.RowKit
set_option maxRecDepth 100000

/-- a slice's parts -/
structure Sl where
  p : Option Addr
  n : Nat
  c : Nat
def Sl.v (s : Sl) : Value := .slice s.p s.n s.c

/-- the book's field, and what is held -/
structure Bk (F : Nat) (W : World) (K T cT : Nat) (hs : List Held) (ls : Nat → Sl) : Prop where
  field : W.cell? ⟨K, F, none⟩ = some (.slice (some ⟨T, 0, none⟩) hs.length cT)
  v : ∀ i (h : i < hs.length), W.cell? ⟨T, i * 3, none⟩ = some hs[i].v
  l : ∀ i, i < hs.length → W.cell? ⟨T, i * 3 + 1, none⟩ = some (ls i).v
  nu : ∀ i (h : i < hs.length), W.cell? ⟨T, i * 3 + 2, none⟩ = some (.int .i64 hs[i].nu)
  fr : ∀ i, i < hs.length → W.frozen? ⟨T, i * 3 + 1, none⟩ = false
  lo : K < W.heap.size
  lt : T < W.heap.size

theorem Bk.kept {F : Nat} {S : Nat → Prop} {W W' : World} {K T cT : Nat} {hs : List Held} {ls : Nat → Sl} (h : Bk F W K T cT hs ls) (k : KeptBut S W W') (hK : ¬ S K) (hT : ¬ S T) : Bk F W' K T cT hs ls where
  field := (k.cell (p := ⟨K, F, none⟩) h.lo hK).trans h.field
  v := fun i hi => (k.cell (p := ⟨T, i * 3, none⟩) h.lt hT).trans (h.v i hi)
  l := fun i hi => (k.cell (p := ⟨T, i * 3 + 1, none⟩) h.lt hT).trans (h.l i hi)
  nu := fun i hi => (k.cell (p := ⟨T, i * 3 + 2, none⟩) h.lt hT).trans (h.nu i hi)
  fr := fun i hi => (k.frozen (p := ⟨T, i * 3 + 1, none⟩) h.lt hT).trans (h.fr i hi)
  lo := Nat.lt_of_lt_of_le h.lo k.size
  lt := Nat.lt_of_lt_of_le h.lt k.size

/-- the blocks of what is held are unlike one another, and unlike the book's -/
structure Sep (K T : Nat) (hs : List Held) : Prop where
  nu : ∀ i (h : i < hs.length), hs[i].nu < 100
  len : hs.length ≤ 1000000
  n : ∀ i (h : i < hs.length), hs[i].n ≤ 4611686018427387904
  nK : ∀ i (h : i < hs.length), hs[i].v.ownBlock ≠ some K
  nT : ∀ i (h : i < hs.length), hs[i].v.ownBlock ≠ some T
  KT : K ≠ T
  ne : ∀ i j (hi : i < hs.length) (hj : j < hs.length), i ≠ j → ∀ g, hs[i].v.ownBlock = some g → hs[j].v.ownBlock ≠ some g

def Own (hs : List Held) (b : Nat) : Prop := ∃ i, ∃ h : i < hs.length, hs[i].v.ownBlock = some b

theorem KeptBut.drew {S : Nat → Prop} {a b : World} (h : KeptBut S a b) : KeptBut S a b.drew := ⟨h.os, h.tape, h.output, h.size, h.block⟩


/-- so many marks, as attributes' cells -/
def marksA (h : Held) (k : Nat) : List Value := (List.replicate k (markA h.nu)).flatten
theorem marksA_length (h : Held) (k : Nat) : (marksA h k).length = k * 2 := by unfold marksA markA; simp
theorem marksA_succ (h : Held) (k : Nat) : marksA h (k + 1) = marksA h k ++ markA h.nu := by
  unfold marksA; rw [List.replicate_succ', List.flatten_append]; simp
theorem marksA_set (h : Held) (xs : List Value) (j : Nat) (hj : j * 2 + 1 < xs.length) :
    ((marksA h j ++ xs.drop (j * 2)).set (j * 2) (.string (markT h.nu))).set (j * 2 + 1) (.string ⟨#[]⟩) = marksA h (j + 1) ++ xs.drop ((j + 1) * 2) := by
  have hm := marksA_length h j
  have e1 : xs.drop (j * 2) = xs[j * 2] :: xs[j * 2 + 1] :: xs.drop ((j + 1) * 2) := by
    rw [List.drop_eq_getElem_cons (by omega), List.drop_eq_getElem_cons (by omega)]
    rw [show j * 2 + 1 + 1 = (j + 1) * 2 by omega]
  rw [e1, List.set_append_right _ _ (by omega), hm, Nat.sub_self, List.set_cons_zero, List.set_append_right _ _ (by omega), hm, show j * 2 + 1 - j * 2 = 1 by omega, marksA_succ]
  simp [markA]

set_option maxHeartbeats 2000000 in
theorem fillAttr_any (base K T cT : Nat) (hs : List Held) (ls : Nat → Sl) (rows : Nat → List Value) (w : World) (hB : Bk 7 w K T cT hs ls) (hS : Sep K T hs)
    (hR : ∀ i (h : i < hs.length), w.ownsRow base 84 2 hs[i].v hs[i].n (rows i)) :
    Calls Tryz.prog 53 #[.pointer (some ⟨K, 0, none⟩)] w fun e w' => e = .returned (.tuple #[]) ∧ KeptBut (Own hs) w w' ∧ ∀ i (h : i < hs.length), w'.ownsRow base 84 2 hs[i].v hs[i].n (marksA hs[i] hs[i].n) := by
  have hlen := hS.len
  have hnK : ¬ Own hs K := fun ⟨i, h, e⟩ => hS.nK i h e
  have hnT : ¬ Own hs T := fun ⟨i, h, e⟩ => hS.nT i h e
  go_enter Tryz.func53, Tryz.ntmps53
  go_wp2
  go_loopw [2] (fun i wr => ∃ k : Nat, k ≤ hs.length ∧ i = .int .i64 k ∧ KeptBut (Own hs) w wr ∧ ∀ i (h : i < hs.length), wr.ownsRow base 84 2 hs[i].v hs[i].n (if i < k then marksA hs[i] hs[i].n else rows i)) (fun i _ => hs.length - (intOf i).toNat)
  case atStart => exact ⟨0, by omega, rfl, KeptBut.refl _ _, fun i hi => by simpa using hR i hi⟩
  case round =>
    obtain ⟨k, hk, rfl, hkb, hRk⟩ := hrel
    obtain ⟨wo, rfl⟩ : ∃ wo : World, wo = wr := ⟨_, rfl⟩
    have hBk := hB.kept hkb hnK hnT
    have hf := hBk.field
    by_cases hlt : k < hs.length
    · have hv := hBk.v k hlt
      have hl := hBk.l k hlt
      have hnu := hBk.nu k hlt
      unfold Held.v at hv
      unfold Sl.v at hl
      go_wp2
      obtain ⟨W1, hW1⟩ : ∃ W1, wo.alloc (.cells #[.slice hs[k].p hs[k].n hs[k].c, .slice (ls k).p (ls k).n (ls k).c, .int .i64 hs[k].nu] 123) = W1 := ⟨_, rfl⟩
      have hh0 : W1.cell? ⟨wo.heap.size, 0, none⟩ = some (.slice hs[k].p hs[k].n hs[k].c) := by rw [← hW1, World.cell?_alloc_new]; rfl
      have hh2 : W1.cell? ⟨wo.heap.size, 2, none⟩ = some (.int .i64 hs[k].nu) := by rw [← hW1, World.cell?_alloc_new]; rfl
      have hhs : wo.heap.size < W1.heap.size := by rw [← hW1]; simp
      have hkb1 : KeptBut (Own hs) w W1 := by rw [← hW1]; exact hkb.alloc _
      have hR1 : ∀ i (h : i < hs.length), W1.ownsRow base 84 2 hs[i].v hs[i].n (if i < k then marksA hs[i] hs[i].n else rows i) := by
        rw [← hW1]; exact fun i hi => (hRk i hi).alloc _
      have hown : ∀ g, hs[k].v.ownBlock = some g → g < wo.heap.size := fun g e => ((hRk k hlt).lt g e).2
      rw [hW1]
      have hnuk := hS.nu k hlt
      have hnk := hS.n k hlt
      have hrow := hR1 k hlt
      rw [if_neg (by omega)] at hrow
      clear hW1 hv hl hnu hf hBk
      go_loopw [4] (fun i wi => ∃ j : Nat, j ≤ hs[k].n ∧ i = .int .i64 j ∧ KeptBut (fun b => hs[k].v.ownBlock = some b) W1 wi ∧ wi.ownsRow base 84 2 hs[k].v hs[k].n (marksA hs[k] j ++ (rows k).drop (j * 2))) (fun i _ => hs[k].n - (intOf i).toNat)
      case atStart => exact ⟨0, by omega, rfl, KeptBut.refl _ _, by simpa [marksA] using hrow⟩
      case round =>
        obtain ⟨j, hj, rfl, hki, hrj⟩ := hrel
        have c0 := (hki.cell (p := ⟨wo.heap.size, 0, none⟩) hhs (fun e => Nat.lt_irrefl _ (hown _ e))).trans hh0
        have c2 := (hki.cell (p := ⟨wo.heap.size, 2, none⟩) hhs (fun e => Nat.lt_irrefl _ (hown _ e))).trans hh2
        have HL3 : Hid ((rows k).length = hs[k].n * 2) := by exact Lib.hid (by have := hrow.1; omega)
        by_cases hltj : j < hs[k].n
        · have hlen2 := hrj.1
          obtain ⟨g, cap, cur, hval, hgb, hgh, hgn, hgm, hgs, hgt⟩ : ∃ g cap cur, hs[k].v = .slice (some ⟨g, 0, none⟩) hs[k].n cap ∧ base ≤ g ∧ wr.heap[g]? = some (.cells cur 84 (0, 0)) ∧ hs[k].n ≤ cap ∧ cap ≤ maxLen ∧ cur.size = cap * 2 ∧ cur.toList.take (hs[k].n * 2) = marksA hs[k] j ++ (rows k).drop (j * 2) := by
            rcases hrj.2 with ⟨_, h0⟩ | h
            · omega
            · exact h
          have hp : hs[k].p = some ⟨g, 0, none⟩ := by unfold Held.v at hval; injection hval
          rw [hp] at c0
          clear hp
          have HV := Lib.hid hval
          clear hval
          have hglt : g < wr.heap.size := (Array.getElem?_eq_some_iff.1 hgh).1
          go_wp2
          (first | (go_region_with ((go_at_call 118; refine (markAttr_any _ hnuk _).mono ?_; rintro e w2 ⟨rfl, hb2⟩; have c0 := keep_cell hb2 c0; have c2 := keep_cell hb2 c2; have hq0 := hb2.block g hglt; have hq := hq0.trans hgh; have s0 : w2.cell? ⟨g, j * 2, none⟩ = some (cur[j * 2]'(by omega)) := (by simp [World.cell?, hq]); have s1 : w2.cell? ⟨g, j * 2 + 1, none⟩ = some (cur[j * 2 + 1]'(by omega)) := (by simp [World.cell?, hq]); have f0 : w2.frozen? ⟨g, j * 2, none⟩ = false := (by simp [World.frozen?, hq]); have f1 : w2.frozen? ⟨g, j * 2 + 1, none⟩ = false := (by simp [World.frozen?, hq])))))
          all_goals
            have hkm : KeptBut (fun b => hs[k].v.ownBlock = some b) W1 w2 := hki.drew.trans (KeptBut.below hb2)
            have hrm := (KeptBut.below (S := fun _ => False) hb2).row (World.ownsRow.drew hrj) (fun _ _ h => h)
            rw [HV.out] at hrm
            have hst1 := hrm.stored (j * 2) (.string (markT hs[k].nu))
            have hst2 := hst1.1.stored (j * 2 + 1) (.string ⟨#[]⟩)
            rw [marksA_set _ _ _ (by rw [HL3.out]; omega), ← HV.out] at hst2
            go_wp2
            go_roundw
            case rel => exact ⟨j + 1, by omega, by go_num, (hkm.setCell (.inl (by rw [HV.out]; rfl)) _).setCell (.inl (by rw [HV.out]; rfl)) _, hst2.1⟩
            case measure => simp [intOf]; omega
        · have hje : j = hs[k].n := by omega
          have hrj' : wr.ownsRow base 84 2 hs[k].v hs[k].n (marksA hs[k] hs[k].n) := by
            have hl := hrow.1
            rw [hje, List.drop_of_length_le (by omega), List.append_nil] at hrj
            exact hrj
          have HJ := Lib.hid hje
          clear hje hrj
          go_wp2
          go_roundw
          case rel =>
            refine ⟨k + 1, by omega, by go_num, hkb1.trans (hki.mono fun b hb => ⟨k, hlt, hb⟩), fun i hi => ?_⟩
            by_cases e : i = k
            · subst e; rw [if_pos (by omega)]; exact hrj'
            · have h1 := hki.row (hR1 i hi) (fun g hg hg' => hS.ne k i hlt hi (Ne.symm e) g hg' hg)
              by_cases e2 : i < k
              · rw [if_pos e2] at h1; rw [if_pos (by omega)]; exact h1
              · rw [if_neg e2] at h1; rw [if_neg (by omega)]; exact h1
          case measure => simp [intOf]; omega
    · have hke : k = hs.length := by omega
      have HE := Lib.hid hke
      clear hke
      go_wp2
      go_end0
      exact ⟨rfl, hkb, fun i hi => by have := hRk i hi; rwa [if_pos (by have := HE.out; omega)] at this⟩
end Go.Proofs.YtikeaiibociapaaGreatDoor
