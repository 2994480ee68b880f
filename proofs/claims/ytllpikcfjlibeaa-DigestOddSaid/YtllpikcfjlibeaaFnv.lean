import Derived.Laws.BitsAllLaws
namespace Go.Proofs.Ytllpikcfjlibeaa

/-- FNV-1a's step, as plain numbers -/
def stepD (d : Nat) (c : UInt8) : Nat := (d ^^^ c.toNat) * 1099511628211 % 18446744073709551616
/-- what stands for bytes behind others -/
def moreD (d : Nat) (l : List UInt8) : Nat := l.foldl stepD d
/-- what stands for bytes -/
def ofD (l : List UInt8) : Nat := moreD 14695981039346656037 l

theorem xor_lt (d : Nat) (c : UInt8) (hd : d < 18446744073709551616) : d ^^^ c.toNat < 18446744073709551616 := by
  have := c.toNat_lt
  exact Nat.xor_lt_two_pow (n := 64) (by omega) (by omega)
theorem stepD_lt (d : Nat) (c : UInt8) : stepD d c < 18446744073709551616 := by unfold stepD; omega
theorem moreD_nil (d : Nat) : moreD d [] = d := rfl
theorem moreD_cons (d : Nat) (c : UInt8) (l : List UInt8) : moreD d (c :: l) = moreD (stepD d c) l := rfl
theorem moreD_append (d : Nat) (a b : List UInt8) : moreD d (a ++ b) = moreD (moreD d a) b := by unfold moreD; rw [List.foldl_append]
theorem moreD_lt (d : Nat) (hd : d < 18446744073709551616) (l : List UInt8) : moreD d l < 18446744073709551616 := by
  induction l generalizing d with
  | nil => exact hd
  | cons c l ih => exact ih _ (stepD_lt d c)
theorem moreD_take (d : Nat) (l : List UInt8) (k : Nat) (h : k < l.length) : moreD d (l.take (k + 1)) = stepD (moreD d (l.take k)) l[k] := by
  rw [List.take_succ_eq_append_getElem h, moreD_append, moreD_cons, moreD_nil]
theorem ofD_lt (l : List UInt8) : ofD l < 18446744073709551616 := by unfold ofD; exact moreD_lt 14695981039346656037 (by decide +kernel) l

/-- the step in the model's words -/
theorem step_run (d : Nat) (c : UInt8) (hd : d < 18446744073709551616) : IntKind.u64.wrap (bits .xor .u64 (d : Int) (IntKind.u64.wrap ((c.toNat : Nat) : Int)) * 1099511628211) = ((stepD d c : Nat) : Int) := by
  have := c.toNat_lt
  have e : IntKind.u64.wrap ((c.toNat : Nat) : Int) = ((c.toNat : Nat) : Int) := by rw [IntKind.wrap_u64]; omega
  rw [e]
  rw [bits_xor_u64_nat d c.toNat hd (by omega), IntKind.wrap_u64]
  unfold stepD
  omega

/-- times an odd number loses nothing -/
theorem times_inj {a b : Nat} (ha : a < 18446744073709551616) (hb : b < 18446744073709551616) (h : a * 1099511628211 % 18446744073709551616 = b * 1099511628211 % 18446744073709551616) : a = b := by
  have e : ∀ x : Nat, x < 18446744073709551616 → x * 1099511628211 % 18446744073709551616 * 14886173955864302971 % 18446744073709551616 = x := by
    intro x hx
    rw [Nat.mod_mul_mod, Nat.mul_assoc, Nat.mul_mod, show 1099511628211 * 14886173955864302971 % 18446744073709551616 = 1 from by decide +kernel, Nat.mul_one, Nat.mod_mod, Nat.mod_eq_of_lt hx]
  rw [← e a ha, ← e b hb, h]
theorem xor_right {a b c : Nat} (h : a ^^^ c = b ^^^ c) : a = b := by
  have e := congrArg (· ^^^ c) h
  simpa [Nat.xor_assoc] using e
theorem xor_left {a b c : Nat} (h : c ^^^ a = c ^^^ b) : a = b := by
  rw [Nat.xor_comm c a, Nat.xor_comm c b] at h
  exact xor_right h
theorem stepD_inj {d e : Nat} (c : UInt8) (hd : d < 18446744073709551616) (he : e < 18446744073709551616) (h : stepD d c = stepD e c) : d = e := by
  have := times_inj (xor_lt d c hd) (xor_lt e c he) h
  exact xor_right this
theorem stepD_byte {d : Nat} {a b : UInt8} (hd : d < 18446744073709551616) (h : stepD d a = stepD d b) : a = b := by
  have := times_inj (xor_lt d a hd) (xor_lt d b hd) h
  exact UInt8.toNat_inj.1 (xor_left this)
theorem moreD_inj (l : List UInt8) : ∀ {d e : Nat}, d < 18446744073709551616 → e < 18446744073709551616 → moreD d l = moreD e l → d = e := by
  induction l with
  | nil => intro d e _ _ h; exact h
  | cons c l ih => intro d e hd he h; exact stepD_inj c hd he (ih (stepD_lt d c) (stepD_lt e c) h)
/-- one byte that is changed changes it -/
theorem moreD_set (d : Nat) (hd : d < 18446744073709551616) (l : List UInt8) (k : Nat) (h : k < l.length) (x : UInt8) (hx : x ≠ l[k]) : moreD d (l.set k x) ≠ moreD d l := by
  induction l generalizing d k with
  | nil => simp at h
  | cons c l ih =>
    cases k with
    | zero =>
      intro e
      exact hx (stepD_byte hd (moreD_inj l (stepD_lt d x) (stepD_lt d c) e))
    | succ k => exact ih (stepD d c) (stepD_lt d c) k (by simpa using h) (by simpa using hx)

/-- the lowest bit -/
theorem xor_low (a b : Nat) : (a ^^^ b) % 2 = (a + b) % 2 := by
  have h := Nat.testBit_xor a b 0
  simp only [Nat.testBit_zero] at h
  rcases Nat.mod_two_eq_zero_or_one a with h1 | h1 <;> rcases Nat.mod_two_eq_zero_or_one b with h2 | h2 <;> rcases Nat.mod_two_eq_zero_or_one (a ^^^ b) with h3 | h3 <;> simp [h1, h2, h3] at h <;> omega
theorem stepD_low (d : Nat) (c : UInt8) : stepD d c % 2 = (d ^^^ c.toNat) % 2 := by unfold stepD; omega
end Go.Proofs.Ytllpikcfjlibeaa
