import Derived.Test.YtcdlleeonfnamaaPlace
import Derived.Test.YtcdlleeonfnamaaTwin
namespace Go.Proofs.Ytcdlleeonfnamaa
open Go.RowKit
set_option maxRecDepth 100000

/-- named's function: is it of that name? -/
theorem named1_c (x y n : ByteArray) (B : Nat) (w : World) (hB : w.cell? ⟨B, 0, none⟩ = some (.string n)) (hlt : B < w.heap.size) :
    Calls Try.prog 37 #[.agg #[.string x, .string y], .pointer (some ⟨B, 0, none⟩)] w fun e w' => e = .returned (.bool (isP n (x, y))) ∧ Below w.heap.size w w' := by
  have hB2 : (w.alloc (.cells #[.string x, .string y] 46)).cell? ⟨B, 0, none⟩ = some (.string n) := ((laidNew w (.cells #[.string x, .string y] 46)).cell (p := ⟨B, 0, none⟩) hlt).trans hB
  go_enter Try.func37, Try.ntmps37
  go_wp2
  go_ret
  exact ⟨rfl, laidNew _ _⟩
/-- Set's function: is it not ahead of that name? -/
theorem set1_c (x y n : ByteArray) (B : Nat) (w : World) (hB : w.cell? ⟨B, 0, none⟩ = some (.string n)) (hlt : B < w.heap.size) :
    Calls Try.prog 24 #[.agg #[.string x, .string y], .pointer (some ⟨B, 0, none⟩)] w fun e w' => e = .returned (.bool (geP n (x, y))) ∧ Below w.heap.size w w' := by
  have hB2 : (w.alloc (.cells #[.string x, .string y] 46)).cell? ⟨B, 0, none⟩ = some (.string n) := ((laidNew w (.cells #[.string x, .string y] 46)).cell (p := ⟨B, 0, none⟩) hlt).trans hB
  go_enter Try.func24, Try.ntmps24
  go_wp2
  go_ret
  exact ⟨rfl, laidNew _ _⟩

theorem ret_at {p : Nat} {k : Nat} (h : p = k) : Ending.returned (.int .i64 (k : Int)) = .returned (.int .i64 ((p : Nat) : Int)) := by rw [h]

set_option maxHeartbeats 1000000 in
theorem find_named (v : Value) (l : List At) (n : ByteArray) (B : Nat) (w : World) (h : Attrs w v l) (hB : w.cell? ⟨B, 0, none⟩ = some (.string n)) (hlt : B < w.heap.size) :
    Calls Try.prog 23 #[v, .func (Fn.func 37) #[] #[.pointer (some ⟨B, 0, none⟩)]] w fun e w' => e = .returned (.int .i64 ((l.findIdx (isP n) : Nat) : Int)) ∧ Below w.heap.size w w' := by
  obtain ⟨p, cap, rfl, hl, -, hc⟩ := h
  go_enter Try.func23, Try.ntmps23
  go_wp2
  go_loopw [9] (fun i wr => ∃ k : Nat, k ≤ l.length ∧ i = .int .i64 k ∧ (∀ j (hj : j < k) (hl : j < l.length), isP n l[j] = false) ∧ Below w.heap.size w wr) (fun i _ => l.length - (intOf i).toNat)
  case atStart => exact ⟨0, by omega, rfl, fun j hj => by omega, Below.refl _ _⟩
  case round =>
    obtain ⟨k, hk, rfl, ha, hbel⟩ := hrel
    have HA := Lib.hid ha
    clear ha
    by_cases hlk : k < l.length
    · obtain ⟨b, o, rfl, hb, hcc⟩ := hc (by omega)
      obtain ⟨c1, c2⟩ := hcc k hlk
      have c1 := (hbel.cell (p := ⟨b, o + k * 2, none⟩) hb).trans c1
      have c2 := (hbel.cell (p := ⟨b, o + k * 2 + 1, none⟩) hb).trans c2
      have hW := hbel.size
      have hC := fun w2 (h2 : Below wr.heap.size wr w2) => named1_c l[k].1 l[k].2 n B w2 ((h2.cell (p := ⟨B, 0, none⟩) (Nat.lt_of_lt_of_le hlt hW)).trans ((hbel.cell (p := ⟨B, 0, none⟩) hlt).trans hB)) (Nat.lt_of_lt_of_le hlt (Nat.le_trans hW h2.size))
      clear hcc hc hB
      cases hp : isP n (l[k].1, l[k].2) with
      | true =>
        have HF : Hid (l.findIdx (isP n) = k) := Lib.hid (idx_hit _ l k hlk (fun j hj => HA.out j hj (by omega)) hp)
        rw [hp] at hC
        clear hp
        go_wp2_with (go_at_call 37; refine (hC _ (laidNew _ _)).mono ?_; rintro e w2 ⟨rfl, hb2⟩)
        go_ret
        exact ⟨ret_at HF.out, behind (behind hbel (laidNew _ _)) hb2⟩
      | false =>
        have HN : Hid (∀ j (hj : j < k + 1) (hl : j < l.length), isP n l[j] = false) := Lib.hid (fun j hj hl => by
          by_cases e : j = k
          · subst e; exact hp
          · exact HA.out j (by omega) hl)
        rw [hp] at hC
        clear hp
        go_wp2_with (go_at_call 37; refine (hC _ (laidNew _ _)).mono ?_; rintro e w2 ⟨rfl, hb2⟩)
        go_roundw
        case rel => exact ⟨k + 1, by omega, by go_num, HN.out, behind (behind hbel (laidNew _ _)) hb2⟩
        case measure => simp [intOf]; omega
    · have HE : Hid (l.findIdx (isP n) = l.length) := Lib.hid (idx_end _ l (fun j hj => HA.out j (by omega) hj))
      go_wp2
      go_ret
      exact ⟨ret_at HE.out, hbel⟩

set_option maxHeartbeats 1000000 in
theorem find_set (v : Value) (l : List At) (n : ByteArray) (B : Nat) (w : World) (h : Attrs w v l) (hB : w.cell? ⟨B, 0, none⟩ = some (.string n)) (hlt : B < w.heap.size) :
    Calls Try.prog 23 #[v, .func (Fn.func 24) #[] #[.pointer (some ⟨B, 0, none⟩)]] w fun e w' => e = .returned (.int .i64 ((l.findIdx (geP n) : Nat) : Int)) ∧ Below w.heap.size w w' := by
  obtain ⟨p, cap, rfl, hl, -, hc⟩ := h
  go_enter Try.func23, Try.ntmps23
  go_wp2
  go_loopw [9] (fun i wr => ∃ k : Nat, k ≤ l.length ∧ i = .int .i64 k ∧ (∀ j (hj : j < k) (hl : j < l.length), geP n l[j] = false) ∧ Below w.heap.size w wr) (fun i _ => l.length - (intOf i).toNat)
  case atStart => exact ⟨0, by omega, rfl, fun j hj => by omega, Below.refl _ _⟩
  case round =>
    obtain ⟨k, hk, rfl, ha, hbel⟩ := hrel
    have HA := Lib.hid ha
    clear ha
    by_cases hlk : k < l.length
    · obtain ⟨b, o, rfl, hb, hcc⟩ := hc (by omega)
      obtain ⟨c1, c2⟩ := hcc k hlk
      have c1 := (hbel.cell (p := ⟨b, o + k * 2, none⟩) hb).trans c1
      have c2 := (hbel.cell (p := ⟨b, o + k * 2 + 1, none⟩) hb).trans c2
      have hW := hbel.size
      have hC := fun w2 (h2 : Below wr.heap.size wr w2) => set1_c l[k].1 l[k].2 n B w2 ((h2.cell (p := ⟨B, 0, none⟩) (Nat.lt_of_lt_of_le hlt hW)).trans ((hbel.cell (p := ⟨B, 0, none⟩) hlt).trans hB)) (Nat.lt_of_lt_of_le hlt (Nat.le_trans hW h2.size))
      clear hcc hc hB
      cases hp : geP n (l[k].1, l[k].2) with
      | true =>
        have HF : Hid (l.findIdx (geP n) = k) := Lib.hid (idx_hit _ l k hlk (fun j hj => HA.out j hj (by omega)) hp)
        rw [hp] at hC
        clear hp
        go_wp2_with (go_at_call 24; refine (hC _ (laidNew _ _)).mono ?_; rintro e w2 ⟨rfl, hb2⟩)
        go_ret
        exact ⟨ret_at HF.out, behind (behind hbel (laidNew _ _)) hb2⟩
      | false =>
        have HN : Hid (∀ j (hj : j < k + 1) (hl : j < l.length), geP n l[j] = false) := Lib.hid (fun j hj hl => by
          by_cases e : j = k
          · subst e; exact hp
          · exact HA.out j (by omega) hl)
        rw [hp] at hC
        clear hp
        go_wp2_with (go_at_call 24; refine (hC _ (laidNew _ _)).mono ?_; rintro e w2 ⟨rfl, hb2⟩)
        go_roundw
        case rel => exact ⟨k + 1, by omega, by go_num, HN.out, behind (behind hbel (laidNew _ _)) hb2⟩
        case measure => simp [intOf]; omega
    · have HE : Hid (l.findIdx (geP n) = l.length) := Lib.hid (idx_end _ l (fun j hj => HA.out j (by omega) hj))
      go_wp2
      go_ret
      exact ⟨ret_at HE.out, hbel⟩
end Go.Proofs.Ytcdlleeonfnamaa
