import Derived.Test.YtllpikcfjlibeaaRefParse
import Derived.Test.YtllpikcfjlibeaaMoreW
namespace Go.Proofs.Ytllpikcfjlibeaa
open Go.RowKit

theorem fix1 : parseD (⟨#[48, 48, 48, 48, 48, 48, 48, 48, 48, 48, 48, 48, 48, 48, 102, 102]⟩ : ByteArray).data.toList = some 255 := by decide +kernel
theorem fix2 : parseD (⟨#[48, 48, 48, 48, 48, 48, 48, 48, 48, 48, 48, 48, 48, 48, 70, 70]⟩ : ByteArray).data.toList = none := by decide +kernel
theorem fix3 : (⟨(textD 255).toArray⟩ : ByteArray) = ⟨#[48, 48, 48, 48, 48, 48, 48, 48, 48, 48, 48, 48, 48, 48, 102, 102]⟩ := by decide +kernel
theorem fix4 : ofD (⟨#[]⟩ : ByteArray).data.toList = 14695981039346656037 := by decide +kernel
theorem fix5 : ofD (⟨#[97]⟩ : ByteArray).data.toList = 12638187200555641996 := by decide +kernel
theorem fix6 : ofD (⟨#[102, 111, 111, 98, 97, 114]⟩ : ByteArray).data.toList = 9625390261332436968 := by decide +kernel

theorem p1 (W w : World) (hb : Below W.heap.size W w) : Calls Try.prog 14 #[.string ⟨#[48, 48, 48, 48, 48, 48, 48, 48, 48, 48, 48, 48, 48, 48, 102, 102]⟩] w fun e w' => e = .returned (.tuple #[.int .u64 255, .int .i64 0]) ∧ Below W.heap.size W w' := by
  have := parse_any ⟨#[48, 48, 48, 48, 48, 48, 48, 48, 48, 48, 48, 48, 48, 48, 102, 102]⟩ W w hb
  rw [fix1] at this
  exact this
theorem p2 (W w : World) (hb : Below W.heap.size W w) : Calls Try.prog 14 #[.string ⟨#[48, 48, 48, 48, 48, 48, 48, 48, 48, 48, 48, 48, 48, 48, 70, 70]⟩] w fun e w' => e = .returned (.tuple #[.int .u64 0, .int .i64 4]) ∧ Below W.heap.size W w' := by
  have := parse_any ⟨#[48, 48, 48, 48, 48, 48, 48, 48, 48, 48, 48, 48, 48, 48, 70, 70]⟩ W w hb
  rw [fix2] at this
  exact this
theorem p3 (W w : World) (hb : Below W.heap.size W w) : Calls Try.prog 16 #[.int .u64 255] w fun e w' => e = .returned (.string ⟨#[48, 48, 48, 48, 48, 48, 48, 48, 48, 48, 48, 48, 48, 48, 102, 102]⟩) ∧ Below W.heap.size W w' := by
  have := text_any 255 (by decide) W w hb
  rw [fix3] at this
  exact this
theorem p4 (w : World) : Calls Try.prog 10 #[.string ⟨#[]⟩] w fun e w' => e = .returned (.int .u64 14695981039346656037) ∧ w = w' := by
  have := of_any ⟨#[]⟩ (by decide +kernel) w
  rw [fix4] at this
  exact this
theorem p5 (w : World) : Calls Try.prog 10 #[.string ⟨#[97]⟩] w fun e w' => e = .returned (.int .u64 12638187200555641996) ∧ w = w' := by
  have := of_any ⟨#[97]⟩ (by decide +kernel) w
  rw [fix5] at this
  exact this
theorem p6 (w : World) : Calls Try.prog 10 #[.string ⟨#[102, 111, 111, 98, 97, 114]⟩] w fun e w' => e = .returned (.int .u64 9625390261332436968) ∧ w = w' := by
  have := of_any ⟨#[102, 111, 111, 98, 97, 114]⟩ (by decide +kernel) w
  rw [fix6] at this
  exact this

set_option maxHeartbeats 1000000 in
theorem alive_any (W w : World) (hb : Below W.heap.size W w) : Calls Try.prog 18 #[] w fun e w' => e = .returned (.bool true) ∧ Below W.heap.size W w' := by
  go_enter Try.func18, Try.ntmps18
  go_wp2_with fail
  refine (p1 W w hb).mono ?_
  rintro e w1 ⟨rfl, hb1⟩
  go_wp2_with fail
  refine (p2 W w1 hb1).mono ?_
  rintro e w2 ⟨rfl, hb2⟩
  go_wp2_with fail
  refine (p3 W w2 hb2).mono ?_
  rintro e w3 ⟨rfl, hb3⟩
  go_wp2_with fail
  refine (p4 w3).mono ?_
  rintro e w' ⟨rfl, rfl⟩
  go_wp2_with fail
  refine (p5 w3).mono ?_
  rintro e w' ⟨rfl, rfl⟩
  go_wp2_with fail
  refine (p6 w3).mono ?_
  rintro e w' ⟨rfl, rfl⟩
  go_wp2
  go_ret
  exact ⟨rfl, hb3⟩
end Go.Proofs.Ytllpikcfjlibeaa
