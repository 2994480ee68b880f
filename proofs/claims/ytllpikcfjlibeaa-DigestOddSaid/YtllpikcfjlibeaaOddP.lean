/-
  DigestOdd: what stands for one byte more is odd just if the number and the byte differ in their lowest bits, and with the byte's lowest bit turned it is odd just if it was even; for any number and any byte. No conditions: every number of 64 bits and every byte.
-/
import Derived.Test.YtllpikcfjlibeaaLaw
import Derived.Test.YtllpikcfjlibeaaBeyond
import Derived.Test.YtllpikcfjlibeaaAlive
namespace Go.Proofs.Ytllpikcfjlibeaa.oddLaw
open Go.ChangeShapes Go.WideShapes Go.ChangeAt Go.RowKit

theorem as_nat (n : Int) (wf : (Lit.int .u64 n).wf = true) : ∃ d : Nat, n = (d : Int) ∧ d < 18446744073709551616 := by
  have h : 0 ≤ n ∧ n ≤ 18446744073709551615 := by simpa [Lit.wf, IntKind.min, IntKind.max, IntKind.signed, IntKind.bits] using wf
  exact ⟨n.toNat, by omega, by omega⟩
theorem byte_of {n : Int} (wf : (Lit.int .u8 n).wf = true) : ∃ c : UInt8, n = (c.toNat : Int) := by
  have hn : 0 ≤ n ∧ n ≤ 255 := by simpa [Lit.wf, IntKind.min, IntKind.max, IntKind.signed, IntKind.bits] using wf
  exact ⟨UInt8.ofNat n.toNat, by simp; omega⟩
theorem conv_one (W : World) (c : UInt8) : (convert 35 9 (.slice (some ⟨W.heap.size, 0, none⟩) 1 1)).run Try.prog (W.alloc (.cells #[.int .u8 (c.toNat : Int)] 5)) = .ok (.string ⟨#[c]⟩) (W.alloc (.cells #[.int .u8 (c.toNat : Int)] 5)) := by
  have h := run_convert_bytes_back (P := Try.prog) (W.alloc (.cells #[.int .u8 (c.toNat : Int)] 5)) 35 9 5 ⟨W.heap.size, 0, none⟩ 1 [c] Try.underlying35 Try.underlying5 Try.underlying9 (fun j hj => by
    obtain rfl : j = 0 := by simp at hj; omega
    simp [Addr.add])
  exact h

theorem one_data (c : UInt8) : (⟨#[c]⟩ : ByteArray).data.toList = [c] := rfl

/-- the lowest bits -/
theorem low_eq (d : Nat) (c : UInt8) : (((stepD d c : Nat) : Int) % 2 == ((d ^^^ c.toNat : Nat) : Int) % 2) = true := by
  have := stepD_low d c
  rw [beq_iff_eq]; omega
theorem low_ne (d : Nat) (c : UInt8) : (((stepD d (c ^^^ 1) : Nat) : Int) % 2 != ((stepD d c : Nat) : Int) % 2) = true := by
  have h1 := stepD_low d c
  have h2 := stepD_low d (c ^^^ 1)
  have h3 := xor_low d c.toNat
  have h4 := xor_low d (c ^^^ 1).toNat
  have h5 : (c ^^^ 1).toNat % 2 = (c.toNat + 1) % 2 := by rw [UInt8.toNat_xor]; exact xor_low c.toNat 1
  rw [bne_iff_ne]; omega

set_option maxHeartbeats 1000000 in
theorem walk (n : Int) (wf : (Lit.int .u64 n).wf = true) (m : Int) (wm : (Lit.int .u8 m).wf = true) (w : World) :
    Calls Try.prog 8 #[.int .u64 n, .int .u8 m] w fun e w' => e = .returned (.bool true) ∧ Below w.heap.size w w' := by
  obtain ⟨d, rfl, hd⟩ := as_nat n wf
  obtain ⟨c, rfl⟩ := byte_of wm
  clear wf wm
  have hc := c.toNat_lt
  have hk := fun (W : World) => conv_one W c
  have h0 : bits .xor .u8 (c.toNat : Int) 1 = ((c ^^^ 1).toNat : Int) := by rw [UInt8.toNat_xor]; exact u8_xor_nat c.toNat 1 (by omega) (by omega)
  have h1 : bits .xor .u64 (d : Int) (c.toNat : Int) = ((d ^^^ c.toNat : Nat) : Int) := bits_xor_u64_nat d c.toNat hd (by omega)
  have e1 := low_eq d c
  have e2 := low_ne d c
  have H1 := fun w => more_any d hd ⟨#[c]⟩ (by show 1 ≤ _; decide +kernel) w
  have H2 := fun w => more_any d hd ⟨#[c ^^^ 1]⟩ (by show 1 ≤ _; decide +kernel) w
  rw [one_data, moreD_cons, moreD_nil] at H1 H2
  have b1 := stepD_lt d c
  have b2 := stepD_lt d (c ^^^ 1)
  have b3 := xor_lt d c hd
  obtain ⟨x, hx⟩ : ∃ x, stepD d c = x := ⟨_, rfl⟩
  obtain ⟨y, hy⟩ : ∃ y, stepD d (c ^^^ 1) = y := ⟨_, rfl⟩
  obtain ⟨z, hz⟩ : ∃ z, d ^^^ c.toNat = z := ⟨_, rfl⟩
  rw [hx] at H1 b1 e1 e2
  rw [hy] at H2 b2 e2
  rw [hz] at h1 b3 e1
  clear hx hy hz
  obtain ⟨c2, hc2⟩ : ∃ c2, c ^^^ 1 = c2 := ⟨_, rfl⟩
  rw [hc2] at H2 h0
  clear hc2
  have hk2 := fun (W : World) => conv_one W c2
  go_enter Try.func8, Try.ntmps8
  go_wp2_with fail
  refine (H1 _).mono ?_
  rintro e w1 ⟨rfl, hw1⟩
  have hb1 : Below w.heap.size w w1 := by rw [← hw1]; exact laidNew _ _
  clear hw1
  go_wp2_with fail
  refine (alive_any w w1 hb1).mono ?_
  rintro e w2 ⟨rfl, hb2⟩
  go_wp2_with fail
  refine (H2 _).mono ?_
  rintro e w3 ⟨rfl, hw3⟩
  have hb3 : Below w.heap.size w w3 := by rw [← hw3]; exact behind hb2 (laidNew _ _)
  clear hw3
  go_wp2
  go_ret
  exact ⟨rfl, hb3⟩

theorem readable : ∀ t ∈ #[22, 5].toList, Try.prog.readableRec t = true ∧ t < Try.prog.types.size := by
  intro t ht
  have h : t ∈ ([22, 5] : List TypeId) := ht
  simp only [List.mem_cons, List.not_mem_nil, or_false] at h
  rcases h with rfl | rfl
  · exact ⟨by kernel_rfl, of_decide_eq_true (by kernel_rfl)⟩
  · exact ⟨by kernel_rfl, of_decide_eq_true (by kernel_rfl)⟩

theorem lifted (os : Os) (started : os.Started) (H : Type) (enc : TypeId × Value → H) :
    ReturnsInHanded {} Try.checked os 8 .any (Rows.digestOddSpec.pre6 enc Try.prog Try.f8 Rows.digestOddRow.domain false) (Rows.digestOddSpec.post enc Try.prog Try.f8 false true false false) := by
  refine returnsInHanded_of_change_sized (C := Try.checked) own started (by kernel_rfl) Try.func8
    (ChangeSpec.witness6 (enc := enc) (C := Try.checked) false ⟨#[], #[.int .u64 0, .int .u8 0], []⟩ 8 (by kernel_rfl) (by kernel_rfl) (by kernel_rfl) (by kernel_rfl)) ?_
  intro W base args ds gs before hval hW _ hz _
  have hW' := hW
  obtain ⟨p, q, hA, hV, rfl, hfz, hnd⟩ := hW
  rw [Try.params8] at hA hval
  obtain ⟨v0, vs0, d0, ds0, p0, q0, hargs0, rfl, rfl, h0, r0⟩ := trodAll_cons hA
  obtain ⟨v1, vs1, d1, ds1, p1, q1, hargs1, rfl, rfl, h1, r1⟩ := trodAll_cons r0
  obtain ⟨rfl, rfl, rfl⟩ := trodAll_nil r1
  subst hargs1
  obtain rfl : args = #[v0, v1] := by cases args; simp_all
  obtain ⟨rfl, rfl⟩ := trodVars_none hV
  obtain ⟨n0, rfl, rfl, rfl, wf0⟩ := open_int Try.underlying22 (hval 0 22 v0 rfl rfl) h0
  obtain ⟨n1, rfl, rfl, rfl, wf1⟩ := open_int Try.underlying5 (hval 1 5 v1 rfl rfl) h1
  refine (walk n0 wf0 n1 wf1 W).mono fun e W' ⟨he, hb⟩ => ⟨_, he, law_post rfl rfl ?_ hW' rfl hb⟩
  rw [Try.params8]
  exact readable

theorem proved : Rows.DigestOddSaid :=
  OpenClaim.holds_of_wide 8 Try.f8 rfl rfl rfl rfl rfl rfl rfl ⟨rfl, rfl, rfl, rfl, rfl⟩ rfl rfl rfl rfl rfl (by kernel_rfl) Try.func8 (by kernel_rfl)
    (of_decide_eq_true (by kernel_rfl)) (by unfold Func.isWrapper; first | (rw [if_pos (by decide +kernel)]; kernel_rfl) | (rw [if_neg (by decide +kernel)]; exact ⟨rfl, rfl⟩))
    (fun os started H enc _ => lifted os started H enc)
end Go.Proofs.Ytllpikcfjlibeaa.oddLaw
