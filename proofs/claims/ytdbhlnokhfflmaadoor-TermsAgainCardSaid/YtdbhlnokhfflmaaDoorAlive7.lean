import Derived.Test.YtdbhlnokhfflmaaDoorTermL2
namespace Go.Proofs.YtdbhlnokhfflmaaDoor
open Go.RowKit
set_option maxRecDepth 100000

/-! ### alive -/
theorem alive_p1 : parseV (parseL [32, 97, 32, 112, 105, 101, 32, 59, 32, 104, 111, 116, 32]) = .tuple #[.string ⟨#[97, 32, 112, 105, 101]⟩, .string ⟨#[104, 111, 116]⟩, .string ⟨#[]⟩, .int .i64 0] := by rw [show parseL [32, 97, 32, 112, 105, 101, 32, 59, 32, 104, 111, 116, 32] = some ([97, 32, 112, 105, 101], [104, 111, 116], []) by decide]; rfl
theorem alive_p2 : parseV (parseL [112, 105, 101, 62, 97, 112, 112, 108, 101]) = .tuple #[.string ⟨#[112, 105, 101]⟩, .string ⟨#[]⟩, .string ⟨#[97, 112, 112, 108, 101]⟩, .int .i64 0] := by rw [show parseL [112, 105, 101, 62, 97, 112, 112, 108, 101] = some ([112, 105, 101], [], [97, 112, 112, 108, 101]) by decide]; rfl
theorem alive_p3 : parseV (parseL [97, 59, 98, 59, 99]) = .tuple #[.string ⟨#[]⟩, .string ⟨#[]⟩, .string ⟨#[]⟩, .int .i64 4] := by rw [show parseL [97, 59, 98, 59, 99] = none by decide]; rfl
theorem alive_t1 : textV (textL ([97], [98], [])) = .tuple #[.string ⟨#[97, 59, 98]⟩, .int .i64 0] := by rw [show textL ([97], [98], []) = some [97, 59, 98] by decide]; rfl
theorem alive_t2 : textV (textL ([97], [98], [99])) = .tuple #[.string ⟨#[]⟩, .int .i64 1] := by rw [show textL ([97], [98], [99]) = none by decide]; rfl
theorem alive_k1 : bT (keyL [84, 104, 101, 32, 80, 105, 101]) = ⟨#[112, 105, 101]⟩ := by rw [show keyL [84, 104, 101, 32, 80, 105, 101] = [112, 105, 101] by decide]; rfl
theorem alive_k2 : bT (keyL [97, 110, 32, 97, 32, 98]) = ⟨#[97, 32, 98]⟩ := by rw [show keyL [97, 110, 32, 97, 32, 98] = [97, 32, 98] by decide]; rfl
theorem alive_k3 : bT (keyL [116, 104, 101]) = ⟨#[116, 104, 101]⟩ := by rw [show keyL [116, 104, 101] = [116, 104, 101] by decide]; rfl
set_option maxHeartbeats 4000000 in
theorem alive_c (w : World) (hF : FormsIs w) : Calls Tryd.prog 14 #[] w fun e w' => e = .returned (.bool true) ∧ Below w.heap.size w w' := by
  have HF := Lib.hid hF
  clear hF
  have h1 := fun w h => (parse_c ⟨#[32, 97, 32, 112, 105, 101, 32, 59, 32, 104, 111, 116, 32]⟩ w h (by decide)).mono fun e w' h => (⟨h.1.trans (congrArg Ending.returned alive_p1), h.2⟩ : e = .returned (.tuple #[.string ⟨#[97, 32, 112, 105, 101]⟩, .string ⟨#[104, 111, 116]⟩, .string ⟨#[]⟩, .int .i64 0]) ∧ Below w.heap.size w w')
  have h2 := fun w h => (parse_c ⟨#[112, 105, 101, 62, 97, 112, 112, 108, 101]⟩ w h (by decide)).mono fun e w' h => (⟨h.1.trans (congrArg Ending.returned alive_p2), h.2⟩ : e = .returned (.tuple #[.string ⟨#[112, 105, 101]⟩, .string ⟨#[]⟩, .string ⟨#[97, 112, 112, 108, 101]⟩, .int .i64 0]) ∧ Below w.heap.size w w')
  have h3 := fun w h => (parse_c ⟨#[97, 59, 98, 59, 99]⟩ w h (by decide)).mono fun e w' h => (⟨h.1.trans (congrArg Ending.returned alive_p3), h.2⟩ : e = .returned (.tuple #[.string ⟨#[]⟩, .string ⟨#[]⟩, .string ⟨#[]⟩, .int .i64 4]) ∧ Below w.heap.size w w')
  have h4 := fun w h => (text_c ⟨#[97]⟩ ⟨#[98]⟩ ⟨#[]⟩ w h (by decide)).mono fun e w' h => (⟨h.1.trans (congrArg Ending.returned alive_t1), h.2⟩ : e = .returned (.tuple #[.string ⟨#[97, 59, 98]⟩, .int .i64 0]) ∧ Below w.heap.size w w')
  have h5 := fun w h => (text_c ⟨#[97]⟩ ⟨#[98]⟩ ⟨#[99]⟩ w h (by decide)).mono fun e w' h => (⟨h.1.trans (congrArg Ending.returned alive_t2), h.2⟩ : e = .returned (.tuple #[.string ⟨#[]⟩, .int .i64 1]) ∧ Below w.heap.size w w')
  have h6 := fun w => (key_c ⟨#[84, 104, 101, 32, 80, 105, 101]⟩ w (by decide)).mono fun e w' h => (⟨h.1.trans (congrArg (fun x => Ending.returned (.string x)) alive_k1), h.2⟩ : e = .returned (.string ⟨#[112, 105, 101]⟩) ∧ Below w.heap.size w w')
  have h7 := fun w => (key_c ⟨#[97, 110, 32, 97, 32, 98]⟩ w (by decide)).mono fun e w' h => (⟨h.1.trans (congrArg (fun x => Ending.returned (.string x)) alive_k2), h.2⟩ : e = .returned (.string ⟨#[97, 32, 98]⟩) ∧ Below w.heap.size w w')
  have h8 := fun w => (key_c ⟨#[116, 104, 101]⟩ w (by decide)).mono fun e w' h => (⟨h.1.trans (congrArg (fun x => Ending.returned (.string x)) alive_k3), h.2⟩ : e = .returned (.string ⟨#[116, 104, 101]⟩) ∧ Below w.heap.size w w')
  go_enter Tryd.func14, Tryd.ntmps14
  have b0 := Below.refl w.heap.size w
  go_wp2_with (first
    | (go_at_call 15; (with_reducible refine (h1 _ (HF.out.below b0)).mono ?_); rintro e w1 ⟨rfl, c1⟩; have b1 := behind b0 c1)
    | (go_at_call 15; (with_reducible refine (h2 _ (HF.out.below b1)).mono ?_); rintro e w2 ⟨rfl, c2⟩; have b2 := behind b1 c2)
    | (go_at_call 15; (with_reducible refine (h3 _ (HF.out.below b2)).mono ?_); rintro e w3 ⟨rfl, c3⟩; have b3 := behind b2 c3)
    | (go_at_call 10; (with_reducible refine (h4 _ (HF.out.below b3)).mono ?_); rintro e w4 ⟨rfl, c4⟩; have b4 := behind b3 c4)
    | (go_at_call 10; (with_reducible refine (h5 _ (HF.out.below b4)).mono ?_); rintro e w5 ⟨rfl, c5⟩; have b5 := behind b4 c5)
    | (go_at_call 12; (with_reducible refine (h6 _).mono ?_); rintro e w6 ⟨rfl, c6⟩; have b6 := behind b5 c6)
    | (go_at_call 12; (with_reducible refine (h7 _).mono ?_); rintro e w7 ⟨rfl, c7⟩; have b7 := behind b6 c7)
    | (go_at_call 12; (with_reducible refine (h8 _).mono ?_); rintro e w8 ⟨rfl, c8⟩; have b8 := behind b7 c8))
  go_ret
  exact ⟨rfl, b8⟩
end Go.Proofs.YtdbhlnokhfflmaaDoor
