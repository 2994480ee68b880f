import Derived.Test.YtbhipobedijfbaaEscL
import Derived.Lib.Bytealg
import Derived.Lib.DecodeN
import Derived.Lib.SpaceUEq
import Derived.Lib.TrimUEq
import Derived.Shelf.GgClosure.StringsIndexFunc
namespace Go.Proofs.Ytbhipobedijfbaa
set_option maxRecDepth 100000

/-! ### a mark's end; signs among runes -/
theorem index_at (c : UInt8) : ∀ (p t : List UInt8), c ∉ p → Lib.indexByte (p ++ c :: t) c = (p.length : Int)
  | [], t, _ => by simp [Lib.indexByte]
  | b :: p, t, h => by
    simp only [List.mem_cons, not_or] at h
    have ih := index_at c p t h.2
    show Lib.indexByte (b :: (p ++ c :: t)) c = _
    unfold Lib.indexByte
    have : (b == c) = false := by rw [beq_eq_false_iff_ne]; exact fun e => h.1 e.symm
    rw [this, ih]
    have h2 : ((p.length : Int) == -1) = false := by rw [beq_eq_false_iff_ne]; omega
    rw [h2]
    simp
/-- what is asked for among the marks: up to the first semicolon -/
def candL (s : List UInt8) : List UInt8 := s.take (Lib.indexByte s 59 + 1).toNat
/-- the sign for which a mark stands -/
def signOf (m : List UInt8) : Option UInt8 :=
  if m = [38, 97, 109, 112, 59] then some 38 else if m = [38, 108, 116, 59] then some 60 else if m = [38, 103, 116, 59] then some 62 else if m = [38, 113, 117, 111, 116, 59] then some 34 else if m = [38, 35, 51, 57, 59] then some 39 else none
theorem cand_is (p s : List UInt8) (h : (59 : UInt8) ∉ p) : (p ++ [59] <+: s) ↔ candL s = p ++ [59] := by
  constructor
  · rintro ⟨t, rfl⟩
    have e0 : (p ++ [59]) ++ t = p ++ 59 :: t := by simp
    rw [e0]
    unfold candL
    rw [index_at 59 p t h]
    have : ((p.length : Int) + 1).toNat = (p ++ [59]).length := by simp
    rw [this]
    rw [show p ++ 59 :: t = (p ++ [59]) ++ t by simp]
    exact List.take_left
  · intro e
    rw [← e]
    exact List.take_prefix _ _
theorem head_cand (s : List UInt8) : headL s = (signOf (candL s)).map fun d => (d, (candL s).length) := by
  have h1 := cand_is [38, 97, 109, 112] s (by decide)
  have h2 := cand_is [38, 108, 116] s (by decide)
  have h3 := cand_is [38, 103, 116] s (by decide)
  have h4 := cand_is [38, 113, 117, 111, 116] s (by decide)
  have h5 := cand_is [38, 35, 51, 57] s (by decide)
  simp only [List.cons_append, List.nil_append] at h1 h2 h3 h4 h5
  unfold headL signOf
  simp only [h1, h2, h3, h4, h5]
  repeat' split
  all_goals first
    | rfl
    | (next e => rw [e]; rfl)
    | (simp_all)
/-- a rune that is a sign is the byte; else all its bytes are no signs -/
theorem mark_high {c : UInt8} (h : 128 ≤ c.toNat) : markL c = none := by
  unfold markL
  repeat' split
  all_goals first
    | rfl
    | (next e => subst e; exact absurd h (by decide))
theorem decode_low (s : ByteArray) (i : Nat) (h : i < s.size) (hb : s[i].toNat < 128) : Utf8.decode s i = (s[i].toNat, 1) := by
  rw [Lib.decode_at]
  have e : s.get! i = s[i] := by simp [ByteArray.get!, h]; rfl
  rw [e]
  unfold Lib.decodeN
  rw [if_pos hb]
theorem decode_high (s : ByteArray) (i : Nat) (h : i < s.size) (hb : 128 ≤ s[i].toNat) : 128 ≤ (Utf8.decode s i).1 ∧ (Utf8.decode s i).2 + i ≤ s.size ∧ ∀ j (hj : j < s.size), i ≤ j → j < i + (Utf8.decode s i).2 → 128 ≤ s[j].toNat := by
  have g : ∀ j (hj : j < s.size), s.get! j = s[j] := fun j hj => by simp [ByteArray.get!, hj]; rfl
  have hc := Lib.decodeN_conts (s.size - i) (s.get! i).toNat (s.get! (i + 1)).toNat (s.get! (i + 2)).toNat (s.get! (i + 3)).toNat
  have hd := Lib.decodeN_cases (s.size - i) (s.get! i).toNat (s.get! (i + 1)).toNat (s.get! (i + 2)).toNat (s.get! (i + 3)).toNat
  rw [← Lib.decode_at] at hc hd
  obtain ⟨c1, c2, c3, c4⟩ := hc
  have hw := Lib.width_pos s i
  rw [g i h] at hd
  refine ⟨?_, ?_, ?_⟩
  · rcases hd with ⟨hl, -⟩ | ⟨_, _, _, h1, e⟩ | ⟨_, _, _, _, h1, e⟩ | ⟨h1, -⟩ | e
    · omega
    · rw [e]; exact h1
    · rw [e]; simp only; omega
    · omega
    · rw [e]; decide
  · omega
  · intro j hj h1 h2
    rcases (show j = i ∨ j = i + 1 ∨ j = i + 2 ∨ j = i + 3 by omega) with rfl | rfl | rfl | rfl
    · exact hb
    · have := (c1 (by omega)).1
      rw [g _ hj] at this; omega
    · have := (c2 (by omega)).1
      rw [g _ hj] at this; omega
    · have := (c3 (by omega)).1
      rw [g _ hj] at this; omega
end Go.Proofs.Ytbhipobedijfbaa
