import Derived.Test.YtdbhlnokhfflmaaDoorRows
import Derived.WalkKit
import Derived.WalkSpells
import Derived.WalkLawsBesides
import Derived.Lib.Hide
namespace Go.Proofs.YtdbhlnokhfflmaaDoor
open Go.RowKit

theorem ret_bool {a b : Bool} (h : a = b) : Ending.returned (.bool a) = .returned (.bool b) := by rw [h]

theorem sum_take_succ (xs : List Int) (k : Nat) (h : k < xs.length) : (xs.take (k + 1)).sum = (xs.take k).sum + xs[k] := by
  rw [List.take_succ_eq_append_getElem h, List.sum_append]; simp

theorem sum_nonneg (xs : List Int) (h : ∀ x ∈ xs, 0 ≤ x) : 0 ≤ xs.sum := by
  induction xs with
  | nil => simp
  | cons x xs ih =>
    have h1 := h x (by simp)
    have h2 := ih (fun y hy => h y (by simp [hy]))
    simp only [List.sum_cons]; omega

theorem sum_take_le (xs : List Int) (k : Nat) (h : ∀ x ∈ xs, 0 ≤ x) : (xs.take k).sum ≤ xs.sum := by
  have e : xs.sum = (xs.take k).sum + (xs.drop k).sum := by rw [← List.sum_append, List.take_append_drop]
  have := sum_nonneg (xs.drop k) (fun x hx => h x (List.mem_of_mem_drop hx))
  omega

set_option maxHeartbeats 400000 in
theorem beyond_any (b : Nat) (xs : List Int) (w : World) (hn : xs.length ≤ 100) (hx : ∀ i, i < xs.length → w.cell? ⟨b, i, none⟩ = some (.int .i64 (xs[i]?.getD 0)))
    (hp : ∀ x ∈ xs, 0 ≤ x ∧ x ≤ 140737488351232) :
    Calls Tryd.prog 9 #[.slice (some ⟨b, 0, none⟩) xs.length xs.length] w fun e w' => e = .returned (.bool (decide (1048576 < xs.sum))) ∧ w = w' := by
  go_enter Tryd.func9, Tryd.ntmps9
  go_wp2
  go_loop [3, 4] (fun n i => ∃ k : Nat, k ≤ xs.length ∧ (xs.take k).sum ≤ 1048576 ∧ 0 ≤ (xs.take k).sum ∧ i = .int .i64 k ∧ n = .int .i64 ((xs.take k).sum)) (fun _ i => xs.length - (intOf i).toNat)
  case atStart => exact ⟨0, by omega, by simp, by simp, rfl, by simp⟩
  case round =>
    obtain ⟨k, hk, hs, hs0, rfl, rfl⟩ := hrel
    by_cases hlt : k < xs.length
    · have hc := hx k hlt
      obtain ⟨hb1, hb2⟩ := hp xs[k] (List.getElem_mem hlt)
      have HS := Lib.hid (sum_take_succ xs k hlt)
      have HL := sum_take_le xs (k + 1) (fun x hx => (hp x hx).1)
      clear hx
      go_wp2
      · go_ret
        have h1 : 1048576 < (List.take k xs).sum + xs[k] := by assumption
        have h2 := HS.out
        exact ⟨ret_bool (by simp; omega), rfl⟩
      · have h1 : (List.take k xs).sum + xs[k] ≤ 1048576 := by assumption
        go_round
        case rel => exact ⟨k + 1, by omega, by rw [HS.out]; exact h1, by rw [HS.out]; omega, by go_num, by rw [HS.out]⟩
        case measure => simp [intOf]; omega
    · have hk' : k = xs.length := by omega
      have HE : Hid (List.take k xs = xs) := by exact Lib.hid (by rw [hk', List.take_length])
      clear hk'
      go_wp2
      go_ret
      rw [HE.out] at hs
      exact ⟨ret_bool (by simp; omega), rfl⟩

theorem beyond1 (b : Nat) (x : Int) (w : World) (h0 : w.cell? ⟨b, 0, none⟩ = some (.int .i64 x)) (hx : 0 ≤ x ∧ x ≤ 140737488351232) :
    Calls Tryd.prog 9 #[.slice (some ⟨b, 0, none⟩) 1 1] w fun e w' => e = .returned (.bool (decide (1048576 < x))) ∧ w = w' := by
  have := beyond_any b [x] w (by simp) (by intro i hi; have : i = 0 := by simp at hi; omega
                                           subst this; simpa using h0) (by simpa using hx)
  simpa using this

theorem beyond2 (b : Nat) (x y : Int) (w : World) (h0 : w.cell? ⟨b, 0, none⟩ = some (.int .i64 x)) (h1 : w.cell? ⟨b, 1, none⟩ = some (.int .i64 y)) (hx : 0 ≤ x ∧ x ≤ 140737488351232) (hy : 0 ≤ y ∧ y ≤ 140737488351232) :
    Calls Tryd.prog 9 #[.slice (some ⟨b, 0, none⟩) 2 2] w fun e w' => e = .returned (.bool (decide (1048576 < x + y))) ∧ w = w' := by
  have := beyond_any b [x, y] w (by simp) (by intro i hi; have : i = 0 ∨ i = 1 := by simp at hi; omega
                                              rcases this with rfl | rfl <;> simpa) (by simpa using ⟨hx, hy⟩)
  simpa using this

theorem beyond3 (b : Nat) (x y z : Int) (w : World) (h0 : w.cell? ⟨b, 0, none⟩ = some (.int .i64 x)) (h1 : w.cell? ⟨b, 1, none⟩ = some (.int .i64 y)) (h2 : w.cell? ⟨b, 2, none⟩ = some (.int .i64 z))
    (hx : 0 ≤ x ∧ x ≤ 140737488351232) (hy : 0 ≤ y ∧ y ≤ 140737488351232) (hz : 0 ≤ z ∧ z ≤ 140737488351232) :
    Calls Tryd.prog 9 #[.slice (some ⟨b, 0, none⟩) 3 3] w fun e w' => e = .returned (.bool (decide (1048576 < x + y + z))) ∧ w = w' := by
  have := beyond_any b [x, y, z] w (by simp) (by intro i hi; have : i = 0 ∨ i = 1 ∨ i = 2 := by simp at hi; omega
                                                 rcases this with rfl | rfl | rfl <;> simpa) (by simpa using ⟨hx, hy, hz⟩)
  simpa [← Int.add_assoc] using this
theorem ret_int {a b : Int} (h : a = b) : Ending.returned (.int .i64 a) = .returned (.int .i64 b) := by rw [h]
theorem ret_v {a b : Value} (h : a = b) : Ending.returned a = .returned b := by rw [h]
theorem quiet_same {P : Program} {f : FuncId} {args : Array Value} {w : World} {a n : Nat} {v : Value} (h : Calls P f args (w.drewN (a + n)) fun e w' => e = .returned v ∧ w.drewN (a + n) = w') :
    Calls P f args (w.drewN (a + n)) fun e w'' => e = .returned v ∧ ∃ m, w'' = w.drewN (a + m) := h.mono fun _ _ ⟨he, hm⟩ => ⟨he, n, hm.symm⟩
theorem below_drewN {B : Nat} {a w : World} (h : Below B a w) (n : Nat) : Below B a (w.drewN n) := ⟨h.os, h.tape, h.output, h.size, h.block⟩

end Go.Proofs.YtdbhlnokhfflmaaDoor
