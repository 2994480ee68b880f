import Derived.Test.YtbhipobedijfbaaEscG
import Derived.Test.YtbhipobedijfbaaBeyond
namespace Go.Proofs.Ytbhipobedijfbaa
open Go.RowKit Go.Maps
set_option maxRecDepth 100000

/-! ### alive -/
theorem alive_b1 : backL [97, 38, 108, 116, 59, 98, 32, 38, 97, 109, 112, 59, 32, 38, 113, 117, 111, 116, 59, 99, 38, 35, 51, 57, 59, 38, 103, 116, 59] = some [97, 60, 98, 32, 38, 32, 34, 99, 39, 62] := by decide
theorem alive_b2 : backL [38, 110, 98, 115, 112, 59] = none := by decide
theorem alive_t1 : textL [97, 60, 98, 32, 38, 32, 34, 99, 39, 62] = [97, 38, 108, 116, 59, 98, 32, 38, 97, 109, 112, 59, 32, 38, 113, 117, 111, 116, 59, 99, 38, 35, 51, 57, 59, 38, 103, 116, 59] := by decide
theorem alive_g1 : tagL ⟨#[97]⟩ ⟨#[99, 34]⟩ ⟨#[105]⟩ ⟨#[60, 98, 62]⟩ = [60, 97, 32, 99, 108, 97, 115, 115, 61, 34, 99, 38, 113, 117, 111, 116, 59, 34, 32, 105, 100, 61, 34, 105, 34, 62, 60, 98, 62, 60, 47, 97, 62] := by rfl

set_option maxHeartbeats 4000000 in
theorem alive_e (w : World) : Calls Try.prog 16 #[] w fun e w' => e = .returned (.bool true) ∧ Below w.heap.size w w' := by
  have h1 := fun w => (back_c ⟨#[97, 38, 108, 116, 59, 98, 32, 38, 97, 109, 112, 59, 32, 38, 113, 117, 111, 116, 59, 99, 38, 35, 51, 57, 59, 38, 103, 116, 59]⟩ w (by decide)).mono fun e w' h => (⟨h.1.trans (congrArg (fun x => Ending.returned (backV x)) alive_b1), h.2⟩ : e = .returned (.tuple #[.string ⟨#[97, 60, 98, 32, 38, 32, 34, 99, 39, 62]⟩, .int .i64 0]) ∧ Below w.heap.size w w')
  have h2 := fun w => (back_c ⟨#[38, 110, 98, 115, 112, 59]⟩ w (by decide)).mono fun e w' h => (⟨h.1.trans (congrArg (fun x => Ending.returned (backV x)) alive_b2), h.2⟩ : e = .returned (.tuple #[.string ⟨#[]⟩, .int .i64 4]) ∧ Below w.heap.size w w')
  have h3 := fun w => (text_c ⟨#[97, 60, 98, 32, 38, 32, 34, 99, 39, 62]⟩ w (by decide)).mono fun e w' h => (⟨h.1.trans (congrArg (fun x => Ending.returned (.string (bT x))) alive_t1), h.2⟩ : e = .returned (.string ⟨#[97, 38, 108, 116, 59, 98, 32, 38, 97, 109, 112, 59, 32, 38, 113, 117, 111, 116, 59, 99, 38, 35, 51, 57, 59, 38, 103, 116, 59]⟩) ∧ Below w.heap.size w w')
  have h4 := fun w => (tag_c ⟨#[97]⟩ ⟨#[99, 34]⟩ ⟨#[105]⟩ ⟨#[60, 98, 62]⟩ w (by decide) (by decide) (by decide) (by decide)).mono fun e w' h => (⟨h.1.trans (congrArg (fun x => Ending.returned (.string (bT x))) alive_g1), h.2⟩ : e = .returned (.string ⟨#[60, 97, 32, 99, 108, 97, 115, 115, 61, 34, 99, 38, 113, 117, 111, 116, 59, 34, 32, 105, 100, 61, 34, 105, 34, 62, 60, 98, 62, 60, 47, 97, 62]⟩) ∧ Below w.heap.size w w')
  go_enter Try.func16, Try.ntmps16
  go_wp2_with (first
    | (go_at_call 10; (with_reducible refine (h1 _).mono ?_); rintro e w1 ⟨rfl, hb1⟩)
    | (go_at_call 10; (with_reducible refine (h2 _).mono ?_); rintro e w2 ⟨rfl, hb2⟩)
    | (go_at_call 12; (with_reducible refine (h3 _).mono ?_); rintro e w3 ⟨rfl, hb3⟩)
    | (go_at_call 14; (with_reducible refine (h4 _).mono ?_); rintro e w4 ⟨rfl, hb4⟩))
  go_ret
  exact ⟨rfl, behind (behind (behind hb1 hb2) hb3) hb4⟩
end Go.Proofs.Ytbhipobedijfbaa
