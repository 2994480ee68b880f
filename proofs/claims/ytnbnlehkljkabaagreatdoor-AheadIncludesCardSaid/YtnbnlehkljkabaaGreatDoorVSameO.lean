/- SameO. -/
import Derived.Test.YtnbnlehkljkabaaGreatDoorVInclL
import Derived.Test.YtnbnlehkljkabaaGreatDoorU29
import Derived.Test.YtnbnlehkljkabaaGreatDoorU32
namespace Go.Proofs.YtnbnlehkljkabaaGreatDoor
open Go.RowKit Go.Maps
set_option maxRecDepth 100000

/-! ### lines out of a row of lines -/
theorem rep_at {α : Type} (X : List α) : ∀ (n i j : Nat), i < n → j < X.length → ((List.replicate n X).flatten)[i * X.length + j]? = X[j]?
  | 0, i, j, h, _ => by omega
  | n + 1, 0, j, _, hj => by
    rw [List.replicate_succ, List.flatten_cons, Nat.zero_mul, Nat.zero_add, List.getElem?_append_left hj]
  | n + 1, i + 1, j, h, hj => by
    rw [List.replicate_succ, List.flatten_cons, List.getElem?_append_right (by rw [Nat.succ_mul]; omega)]
    rw [show (i + 1) * X.length + j - X.length = i * X.length + j by rw [Nat.succ_mul]; omega]
    exact rep_at X n i j (by omega) hj
theorem rep_len {α : Type} (X : List α) : ∀ n : Nat, (List.replicate n X).flatten.length = n * X.length
  | 0 => by simp
  | n + 1 => by rw [List.replicate_succ, List.flatten_cons, List.length_append, rep_len X n, Nat.succ_mul]; omega
theorem inc_len (s : List UInt8) (n : Nat) : (incLines s n).length = 2 + (n + 1) * (linesL s).length := by
  unfold incLines
  rw [List.length_cons, List.length_append, rep_len, numL_length, List.length_singleton]; omega
theorem inc_first (s : List UInt8) (n : Nat) : (incLines s n)[0]? = some ([109], 1, txFirst) := rfl
theorem inc_part (s : List UInt8) (n i j : Nat) (hi : i < n + 1) (hj : j < (linesL s).length) : (incLines s n)[1 + i * (linesL s).length + j]? = some (txPart, 1 + j, (linesL s)[j]) := by
  have hl : ((List.replicate (n + 1) (numL txPart 1 (linesL s))).flatten).length = (n + 1) * (linesL s).length := by rw [rep_len, numL_length]
  have hle : i * (linesL s).length + j < (n + 1) * (linesL s).length := by
    have h1 : (i + 1) * (linesL s).length ≤ (n + 1) * (linesL s).length := Nat.mul_le_mul_right _ (by omega)
    rw [Nat.succ_mul] at h1; omega
  unfold incLines
  rw [show 1 + i * (linesL s).length + j = (i * (linesL s).length + j) + 1 by omega, List.getElem?_cons_succ, List.getElem?_append_left (by rw [hl]; exact hle)]
  have h2 := rep_at (numL txPart 1 (linesL s)) (n + 1) i j hi (by rw [numL_length]; exact hj)
  rw [numL_length] at h2
  rw [h2]
  exact numL_at txPart 1 (linesL s) j hj
theorem inc_last (s : List UInt8) (n : Nat) : (incLines s n)[1 + (n + 1) * (linesL s).length]? = some ([109], n + 3, txLast) := by
  have hl : ((List.replicate (n + 1) (numL txPart 1 (linesL s))).flatten).length = (n + 1) * (linesL s).length := by rw [rep_len, numL_length]
  unfold incLines
  rw [show 1 + (n + 1) * (linesL s).length = (n + 1) * (linesL s).length + 1 by omega, List.getElem?_cons_succ, List.getElem?_append_right (by omega), hl, Nat.sub_self]
  rfl

/-- lines that lie from some place on -/
def LinesAt (w : World) (g o : Nat) (file : ByteArray) (ws : List (List UInt8)) : Prop := g < w.heap.size ∧ ∀ k (h : k < ws.length), w.cell? ⟨g, o + k * 3, none⟩ = some (.string file) ∧ w.cell? ⟨g, o + k * 3 + 1, none⟩ = some (.int .i64 ((k : Int) + 1)) ∧ w.cell? ⟨g, o + k * 3 + 2, none⟩ = some (.string (bT ws[k]))

set_option maxHeartbeats 1000000 in
theorem same_o (B2 g o cap : Nat) (wv : Value) (file : ByteArray) (ws : List (List UInt8)) (w : World) (h1 : LinesAt w g o file ws) (h2 : w.ownsRow B2 9 1 wv ws.length (ws.map strV)) (hl : ws.length ≤ 1000000) :
    Calls Tryz.prog 34 #[.slice (some ⟨g, o, none⟩) ws.length cap, .string file, wv] w fun e w' => e = .returned (.bool true) ∧ Below w.heap.size w w' := by
  obtain ⟨p2, c2, rfl⟩ := row_slice h2
  have hc : ∀ k (hk : k < ws.length), ∃ g2, p2 = some ⟨g2, 0, none⟩ ∧ g2 < w.heap.size ∧ w.cell? ⟨g2, k, none⟩ = some (.string (bT ws[k])) := fun k hk => by
    obtain ⟨g2, d2, cur2, hv2, -, hb2, -⟩ := row_here h2 (by omega)
    simp only [Value.slice.injEq] at hv2
    obtain ⟨rfl, -, rfl⟩ := hv2
    exact ⟨g2, rfl, heap_lt hb2, row_cell h2 k _ (by rw [List.getElem?_map, List.getElem?_eq_getElem hk]; rfl)⟩
  obtain ⟨hg1, hA⟩ := h1
  have HA := Lib.hid hA
  clear h2 hA
  go_enter Tryz.func34, Tryz.ntmps34
  go_wp2
  go_loopw [7] (fun i wr => ∃ k : Nat, k ≤ ws.length ∧ i = .int .i64 k ∧ Below w.heap.size w wr) (fun i _ => ws.length - (intOf i).toNat)
  case atStart => exact ⟨0, by omega, rfl, Below.refl _ _⟩
  case round =>
    obtain ⟨k, hk, rfl, hbel⟩ := hrel
    by_cases hlk : k < ws.length
    · obtain ⟨g2, rfl, hg2, e0⟩ := hc k hlk
      obtain ⟨e1, e2, e3⟩ := HA.out k hlk
      have e0 := (hbel.cell (p := ⟨g2, k, none⟩) hg2).trans e0
      have e1 := (hbel.cell (p := ⟨g, o + k * 3, none⟩) hg1).trans e1
      have e2 := (hbel.cell (p := ⟨g, o + k * 3 + 1, none⟩) hg1).trans e2
      have e3 := (hbel.cell (p := ⟨g, o + k * 3 + 2, none⟩) hg1).trans e3
      have hw1 : IntKind.i64.wrap ((k : Int) + 1) = (k : Int) + 1 := by rw [IntKind.wrap_i64]; omega
      have hi1 : (0 : Int) ≤ (k : Int) := by omega
      have hi2 : (k : Int) < (ws.length : Int) := by omega
      clear hc
      go_wp2
      go_quiet (fail)
      go_wp2
      go_roundw
      case rel => exact ⟨k + 1, by omega, by go_num, below_drewN hbel _⟩
      case measure => simp [intOf]; omega
    · go_wp2
      go_ret
      exact ⟨rfl, hbel⟩
end Go.Proofs.YtnbnlehkljkabaaGreatDoor
