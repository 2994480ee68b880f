import Derived.Test.YtikeaiibociapaaGreatDoorFind
import Derived.Test.YtikeaiibociapaaGreatDoorLinesC
namespace Go.Proofs.YtikeaiibociapaaGreatDoor
open Go.RowKit
set_option maxRecDepth 100000

/-- Find's function: is it of that name? -/
theorem findS1_c (x y n : ByteArray) (B : Nat) (w : World) (hB : w.cell? ⟨B, 0, none⟩ = some (.string n)) (hlt : B < w.heap.size) :
    Calls Tryz.prog 100 #[.agg #[.string x, .string y], .pointer (some ⟨B, 0, none⟩)] w fun e w' => e = .returned (.bool (isP n (x, y))) ∧ Below w.heap.size w w' := by
  have hB2 : (w.alloc (.cells #[.string x, .string y] 69)).cell? ⟨B, 0, none⟩ = some (.string n) := ((laidNew w (.cells #[.string x, .string y] 69)).cell (p := ⟨B, 0, none⟩) hlt).trans hB
  go_enter Tryz.func100, Tryz.ntmps100
  go_wp2
  go_ret
  exact ⟨rfl, laidNew _ _⟩

/-- where the first one is; -1, if there is none -/
def placeI (l : List At) (n : ByteArray) : Int := if l.findIdx (isP n) < l.length then ((l.findIdx (isP n) : Nat) : Int) else -1
theorem ret_place {k : Int} {l : List At} {n : ByteArray} (h : k = placeI l n) : Ending.returned (.int .i64 k) = .returned (.int .i64 (placeI l n)) := by rw [h]

set_option maxHeartbeats 1000000 in
theorem indexFunc_c (v : Value) (l : List At) (n : ByteArray) (B : Nat) (w : World) (h : Attrs w v l) (hB : w.cell? ⟨B, 0, none⟩ = some (.string n)) (hlt : B < w.heap.size) :
    Calls Tryz.prog 99 #[v, .func (Fn.func 100) #[] #[.pointer (some ⟨B, 0, none⟩)]] w fun e w' => e = .returned (.int .i64 (placeI l n)) ∧ Below w.heap.size w w' := by
  obtain ⟨p, cap, rfl, hl, -, hc⟩ := h
  go_enter Tryz.func99, Tryz.ntmps99
  go_wp2
  go_loopw [8] (fun i wr => ∃ k : Nat, k ≤ l.length ∧ i = .int .i64 k ∧ (∀ j (hj : j < k) (hl : j < l.length), isP n l[j] = false) ∧ Below w.heap.size w wr) (fun i _ => l.length - (intOf i).toNat)
  case atStart => exact ⟨0, by omega, rfl, fun j hj => by omega, Below.refl _ _⟩
  case round =>
    obtain ⟨k, hk, rfl, ha, hbel⟩ := hrel
    have HA := Lib.hid ha
    clear ha
    by_cases hlk : k < l.length
    · obtain ⟨b, o, rfl, hb, hcc⟩ := hc (by omega)
      obtain ⟨c1, c2⟩ := hcc k hlk
      have c1 := (hbel.cell (p := ⟨b, o + k * 2, none⟩) hb).trans c1
      have c2 := (hbel.cell (p := ⟨b, o + k * 2 + 1, none⟩) hb).trans c2
      have hW := hbel.size
      have hC := findS1_c l[k].1 l[k].2 n B wr ((hbel.cell (p := ⟨B, 0, none⟩) hlt).trans hB) (Nat.lt_of_lt_of_le hlt hW)
      clear hcc hc hB
      cases hp : isP n (l[k].1, l[k].2) with
      | true =>
        have HF : Hid ((k : Int) = placeI l n) := Lib.hid (by
          have := idx_hit _ l k hlk (fun j hj => HA.out j hj (by omega)) hp
          unfold placeI; rw [this, if_pos hlk])
        rw [hp] at hC
        clear hp
        go_wp2_with (go_at_call 100; refine hC.mono ?_; rintro e w2 ⟨rfl, hb2⟩)
        go_ret
        exact ⟨ret_place HF.out, behind hbel hb2⟩
      | false =>
        have HN : Hid (∀ j (hj : j < k + 1) (hl : j < l.length), isP n l[j] = false) := Lib.hid (fun j hj hl => by
          by_cases e : j = k
          · subst e; exact hp
          · exact HA.out j (by omega) hl)
        rw [hp] at hC
        clear hp
        go_wp2_with (go_at_call 100; refine hC.mono ?_; rintro e w2 ⟨rfl, hb2⟩)
        go_roundw
        case rel => exact ⟨k + 1, by omega, by go_num, HN.out, behind hbel hb2⟩
        case measure => simp [intOf]; omega
    · have HE : Hid (-1 = placeI l n) := Lib.hid (by
        have := idx_end (isP n) l (fun j hj => HA.out j (by omega) hj)
        unfold placeI; rw [this, if_neg (by omega)])
      go_wp2
      go_ret
      exact ⟨ret_place HE.out, hbel⟩

set_option maxHeartbeats 1000000 in
theorem find_c (v : Value) (l : List At) (n : ByteArray) (w : World) (h : Attrs w v l) : Calls Tryz.prog 24 #[v, .string n] w fun e w' => e = .returned (getV (getL l n)) ∧ Below w.heap.size w w' := by
  have hF := indexFunc_c v l n w.heap.size (w.alloc (.cells #[.string n] 9)) (h.below (laidNew _ _)) (by rw [World.cell?_alloc_new]; rfl) (by simp)
  obtain ⟨g1, g2⟩ := get_idx l n
  have hle := idx_le (isP n) l
  obtain ⟨p, cap, rfl, hl, -, hc⟩ := h
  unfold placeI at hF
  by_cases hlt : l.findIdx (isP n) < l.length
  · rw [if_pos hlt] at hF
    obtain ⟨k, hlt, hk, hg⟩ : ∃ (k : Nat) (h : k < l.length), l.findIdx (isP n) = k ∧ getL l n = some l[k].2 := ⟨_, hlt, rfl, g2 hlt⟩
    have HG := Lib.hid hg
    rw [hk] at hF
    obtain ⟨b, o, rfl, hb, hcc⟩ := hc (by omega)
    obtain ⟨-, c2⟩ := hcc k hlt
    clear g1 g2 hk hle hc hcc hg
    go_enter Tryz.func24, Tryz.ntmps24
    go_wp2_with (go_at_call 99; refine hF.mono ?_; rintro e w3 ⟨rfl, hb3⟩; have c3 := ((behind (laidNew w _) hb3).cell (p := ⟨b, o + k * 2 + 1, none⟩) hb).trans c2)
    go_ret2
    exact ⟨ret_v (get_some HG.out), behind (laidNew _ _) hb3⟩
  · rw [if_neg hlt] at hF
    have HG : Hid (getL l n = none) := Lib.hid (g1 (by omega))
    clear g1 g2 hle hc hlt
    go_enter Tryz.func24, Tryz.ntmps24
    go_wp2_with (go_at_call 99; refine hF.mono ?_; rintro e w3 ⟨rfl, hb3⟩)
    go_ret2
    exact ⟨ret_v (get_none HG.out), behind (laidNew _ _) hb3⟩
end Go.Proofs.YtikeaiibociapaaGreatDoor
