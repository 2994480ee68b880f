import Derived.Lib.BytesEntry
namespace Go.Proofs.Ytllpikcfjlibeaa

/-- a digit -/
def hexB (n : Nat) : UInt8 := if n < 10 then UInt8.ofNat (48 + n) else UInt8.ofNat (87 + n)
/-- the sixteen digits -/
def hexL : List UInt8 := [48, 49, 50, 51, 52, 53, 54, 55, 56, 57, 97, 98, 99, 100, 101, 102]
theorem hexL_at : ∀ n, n < 16 → hexL.getD n 0 = hexB n := by decide
/-- a number's lowest i digits, the highest first -/
def lowD : Nat → Nat → List UInt8
  | 0, _ => []
  | i + 1, d => hexB (d / 16 ^ i % 16) :: lowD i d
theorem lowD_length (i d : Nat) : (lowD i d).length = i := by
  induction i with
  | zero => rfl
  | succ i ih => simp [lowD, ih]
/-- a number's text -/
def textD (d : Nat) : List UInt8 := lowD 16 d
/-- a digit's value -/
def valB (c : UInt8) : Option Nat := if 48 ≤ c.toNat ∧ c.toNat ≤ 57 then some (c.toNat - 48) else if 97 ≤ c.toNat ∧ c.toNat ≤ 102 then some (c.toNat - 87) else none
/-- digits behind a number -/
def goD : Nat → List UInt8 → Option Nat
  | d, [] => some d
  | d, c :: l => match valB c with
    | none => none
    | some v => goD (d * 16 + v) l
/-- a text's number -/
def parseD (l : List UInt8) : Option Nat := if l.length = 16 then goD 0 l else none

theorem valB_lt {c : UInt8} {v : Nat} (h : valB c = some v) : v < 16 := by
  unfold valB at h
  split at h
  · injection h; omega
  · split at h
    · injection h; omega
    · cases h
theorem hexB_val {c : UInt8} {v : Nat} (h : valB c = some v) : hexB v = c := by
  have e : ∀ n, n < 256 → ∀ v, valB (UInt8.ofNat n) = some v → hexB v = UInt8.ofNat n := by
    intro n hn v hv
    unfold valB at hv
    have e1 : (UInt8.ofNat n).toNat = n := by simp; omega
    rw [e1] at hv
    unfold hexB
    split at hv
    · injection hv with hv
      rw [if_pos (by omega)]; congr 1; omega
    · split at hv
      · injection hv with hv
        rw [if_neg (by omega)]; congr 1; omega
      · cases hv
  have := e c.toNat c.toNat_lt v
  rw [UInt8.ofNat_toNat] at this
  exact this h
theorem valB_hex : ∀ v, v < 16 → valB (hexB v) = some v := by decide

theorem goD_lowD (i : Nat) : ∀ e d : Nat, goD e (lowD i d) = some (e * 16 ^ i + d % 16 ^ i) := by
  induction i with
  | zero => intro e d; simp [lowD, goD, Nat.mod_one]
  | succ i ih =>
    intro e d
    have hv := valB_hex (d / 16 ^ i % 16) (Nat.mod_lt _ (by decide))
    simp only [lowD, goD, hv]
    rw [ih]
    congr 1
    have e1 : d % 16 ^ (i + 1) = d % 16 ^ i + 16 ^ i * (d / 16 ^ i % 16) := by rw [Nat.pow_succ, Nat.mod_mul]
    rw [e1, Nat.pow_succ, Nat.add_mul, Nat.mul_comm (16 ^ i) 16, Nat.mul_comm (16 ^ i) (d / 16 ^ i % 16), Nat.mul_assoc e]
    omega
theorem lowD_goD (l : List UInt8) : ∀ e m : Nat, goD e l = some m → lowD l.length m = l ∧ m / 16 ^ l.length = e := by
  induction l with
  | nil => intro e m h; simp [goD] at h; subst h; simp [lowD]
  | cons c l ih =>
    intro e m h
    simp only [goD] at h
    cases hv : valB c with
    | none => rw [hv] at h; cases h
    | some v =>
      rw [hv] at h
      obtain ⟨h1, h2⟩ := ih _ _ h
      have hlt := valB_lt hv
      refine ⟨?_, ?_⟩
      · show hexB (m / 16 ^ l.length % 16) :: lowD l.length m = _
        rw [h1, h2, show (e * 16 + v) % 16 = v from by omega, hexB_val hv]
      · show m / 16 ^ (l.length + 1) = e
        rw [Nat.pow_succ, ← Nat.div_div_eq_div_mul, h2]; omega
theorem parse_text (d : Nat) (hd : d < 18446744073709551616) : parseD (textD d) = some d := by
  unfold parseD textD
  rw [if_pos (lowD_length _ _), goD_lowD]
  congr 1
  rw [Nat.zero_mul, Nat.zero_add]
  exact Nat.mod_eq_of_lt (Nat.lt_of_lt_of_eq hd (by decide +kernel))
theorem text_parse {l : List UInt8} {m : Nat} (h : parseD l = some m) : textD m = l := by
  unfold parseD at h
  split at h
  · next hl =>
    have := (lowD_goD l _ _ h).1
    rw [hl] at this
    exact this
  · cases h
theorem goD_lt (l : List UInt8) (e m : Nat) (h : goD e l = some m) : m < (e + 1) * 16 ^ l.length := by
  have := (lowD_goD l e m h).2
  have hp : 0 < 16 ^ l.length := Nat.pow_pos (by decide)
  rw [← this]
  exact Nat.lt_mul_of_div_lt (Nat.lt_succ_self _) hp
theorem parseD_lt {l : List UInt8} {m : Nat} (h : parseD l = some m) : m < 18446744073709551616 := by
  unfold parseD at h
  split at h
  · next hl =>
    have := goD_lt l 0 m h
    rw [hl] at this
    exact Nat.lt_of_lt_of_eq this (by decide +kernel)
  · cases h

/-- where a byte stands among the digits -/
def placeB (c : UInt8) : Int := match valB c with
  | some v => (v : Int)
  | none => -1
theorem place_hex (c : UInt8) : Lib.indexByte hexL c = placeB c := by
  have e : ∀ n, n < 256 → Lib.indexByte hexL (UInt8.ofNat n) = placeB (UInt8.ofNat n) := by decide +kernel
  have := e c.toNat c.toNat_lt
  rwa [UInt8.ofNat_toNat] at this
end Go.Proofs.Ytllpikcfjlibeaa
