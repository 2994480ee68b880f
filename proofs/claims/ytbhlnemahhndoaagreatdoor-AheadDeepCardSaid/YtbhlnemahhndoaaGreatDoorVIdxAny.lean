/- Merged: IdxAny. -/
import Derived.Test.YtbhlnemahhndoaaGreatDoorVRuneM
import Derived.Test.YtbhlnemahhndoaaGreatDoorU18
import Derived.Lib.SpaceUEq
import Derived.Lib.QuoteLoop
namespace Go.Proofs.YtbhlnemahhndoaaGreatDoor
open Go.RowKit
set_option maxRecDepth 100000

/-! ### the first blank of a short text, read rune by rune -/
theorem ascii_row : ∀ R : Fin 128, Lib.indexByte [32, 9] (Int.toNat (R.val : Int)).toUInt8 = (if R.val = 32 then 0 else if R.val = 9 then 1 else -1) := by decide
theorem rune_c (R : Nat) (hv : Utf8.valid (R : Int) = true) (w : World) : Calls Tryz.prog 221 #[.string ⟨#[32, 9]⟩, .int .i32 (R : Int)] w fun e w' => e = .returned (.int .i64 (if R = 32 then 0 else if R = 9 then 1 else -1)) ∧ Below w.heap.size w w' := by
  by_cases h1 : R < 128
  · refine (Tryz.strings_IndexRune_ascii ⟨#[32, 9]⟩ (R : Int) w (by omega) (by omega)).mono fun e w' h => ⟨h.1.trans ?_, h.2 ▸ Below.refl _ _⟩
    exact congrArg (fun x => Ending.returned (.int .i64 x)) (ascii_row ⟨R, h1⟩)
  · rw [if_neg (by omega), if_neg (by omega)]
    by_cases h2 : R < 2048
    · exact rune_two R (by omega) h2 w
    · by_cases h3 : R < 65536
      · by_cases h4 : R = 65533
        · subst h4; exact rune_err w
        · exact rune_three R (by omega) h3 hv h4 w
      · exact rune_four R (by omega) hv w
theorem decode_lowS (s : ByteArray) (i : Nat) (h : i < s.size) (hb : s[i].toNat < 128) : Utf8.decode s i = (s[i].toNat, 1) := by
  rw [Lib.decode_at]
  have e : s.get! i = s[i] := by simp [ByteArray.get!, h]; rfl
  rw [e]
  unfold Lib.decodeN
  rw [if_pos hb]
theorem decode_highS (s : ByteArray) (i : Nat) (h : i < s.size) (hb : 128 ≤ s[i].toNat) : 128 ≤ (Utf8.decode s i).1 ∧ (Utf8.decode s i).2 + i ≤ s.size ∧ ∀ j (hj : j < s.size), i ≤ j → j < i + (Utf8.decode s i).2 → 128 ≤ s[j].toNat := by
  have g : ∀ j (hj : j < s.size), s.get! j = s[j] := fun j hj => by simp [ByteArray.get!, hj]; rfl
  have hc := Lib.decodeN_conts (s.size - i) (s.get! i).toNat (s.get! (i + 1)).toNat (s.get! (i + 2)).toNat (s.get! (i + 3)).toNat
  have hd := Lib.decodeN_cases (s.size - i) (s.get! i).toNat (s.get! (i + 1)).toNat (s.get! (i + 2)).toNat (s.get! (i + 3)).toNat
  rw [← Lib.decode_at] at hc hd
  obtain ⟨c1, c2, c3, c4⟩ := hc
  have hw := Lib.width_pos s i
  rw [g i h] at hd
  refine ⟨?_, ?_, ?_⟩
  · rcases hd with ⟨hl, -⟩ | ⟨_, _, _, h1, e⟩ | ⟨_, _, _, _, h1, e⟩ | ⟨h1, -⟩ | e
    · omega
    · rw [e]; exact h1
    · rw [e]; simp only; omega
    · omega
    · rw [e]; decide
  · omega
  · intro j hj h1 h2
    rcases (show j = i ∨ j = i + 1 ∨ j = i + 2 ∨ j = i + 3 by omega) with rfl | rfl | rfl | rfl
    · exact hb
    · have := (c1 (by omega)).1
      rw [g _ hj] at this; omega
    · have := (c2 (by omega)).1
      rw [g _ hj] at this; omega
    · have := (c3 (by omega)).1
      rw [g _ hj] at this; omega
theorem decode_valid (s : ByteArray) (i : Nat) : Utf8.valid ((Utf8.decode s i).1 : Int) = true := by
  have h := Lib.decodeN_valid (s.size - i) (s.get! i).toNat (s.get! (i + 1)).toNat (s.get! (i + 2)).toNat (s.get! (i + 3)).toNat (UInt8.toNat_lt _)
  rw [← Lib.decode_at] at h
  unfold Utf8.valid
  simp only [Bool.or_eq_true, Bool.and_eq_true, decide_eq_true_eq]
  omega
/-- what stands at the byte at i of s -/
def NoBlank (s : ByteArray) (i : Nat) : Prop := ∀ h : i < s.size, blankB s[i] = false
theorem blank_nat (c : UInt8) : blankB c = true ↔ c.toNat = 32 ∨ c.toNat = 9 := by
  unfold blankB
  rw [Bool.or_eq_true, decide_eq_true_eq, decide_eq_true_eq, ← UInt8.toNat_inj, ← UInt8.toNat_inj]
  exact Iff.rfl
theorem decode_blank (s : ByteArray) (i : Nat) (h : i < s.size) : 1 ≤ (Utf8.decode s i).2 ∧ (((Utf8.decode s i).1 = 32 ∨ (Utf8.decode s i).1 = 9) → blankB s[i] = true) ∧ ((Utf8.decode s i).1 ≠ 32 → (Utf8.decode s i).1 ≠ 9 → i + (Utf8.decode s i).2 ≤ s.size ∧ ∀ j, i ≤ j → j < i + (Utf8.decode s i).2 → NoBlank s j) := by
  refine ⟨Lib.width_pos s i, ?_⟩
  by_cases hb : s[i].toNat < 128
  · rw [decode_lowS s i h hb]
    refine ⟨fun e => (blank_nat _).mpr e, fun e1 e2 => ⟨h, fun j h1 h2 => ?_⟩⟩
    obtain rfl : j = i := by simp only at h2; omega
    intro _
    cases e : blankB s[j] with
    | false => rfl
    | true => rcases (blank_nat _).mp e with e | e
              · exact absurd e e1
              · exact absurd e e2
  · obtain ⟨h1, h2, h3⟩ := decode_highS s i h (by omega)
    refine ⟨fun e => by omega, fun _ _ => ⟨by omega, fun j g1 g2 hj => ?_⟩⟩
    have := h3 j hj g1 g2
    cases e : blankB s[j] with
    | false => rfl
    | true => have := (blank_nat _).mp e; omega
theorem blank_contains (c : UInt8) : ([32, 9] : List UInt8).contains c = blankB c := by
  simp [blankB, Bool.or_comm]
theorem any_row : ∀ (l : List UInt8) (n : Nat), (∀ j (h : j < l.length), j < n → blankB l[j] = false) → (n = l.length → Lib.indexAny l [32, 9] = -1) ∧ (∀ h : n < l.length, blankB l[n] = true → Lib.indexAny l [32, 9] = (n : Int))
  | [], n, _ => ⟨fun _ => rfl, fun h => by simp at h⟩
  | c :: t, 0, _ => by
    refine ⟨fun h => by simp at h, fun _ hb => ?_⟩
    unfold Lib.indexAny
    rw [blank_contains]
    have : blankB c = true := hb
    simp [this]
  | c :: t, n + 1, hk => by
    have hc : blankB c = false := hk 0 (by simp) (by omega)
    have ih := any_row t n (fun j h hn => hk (j + 1) (by simpa using h) (by omega))
    unfold Lib.indexAny
    rw [blank_contains, hc]
    refine ⟨fun h => ?_, fun h hb => ?_⟩
    · rw [ih.1 (by simpa using h)]; rfl
    · rw [ih.2 (by simpa using h) (by simpa using hb)]
      have : ((n : Int) == -1) = false := by rw [beq_eq_false_iff_ne]; omega
      simp [this]
theorem any_none {s : ByteArray} (h : ∀ j, j < s.size → NoBlank s j) : Lib.indexAny s.data.toList [32, 9] = -1 :=
  (any_row s.data.toList s.data.toList.length (fun j hj _ => h j (by simpa using hj) (by simpa using hj))).1 rfl
theorem any_at {s : ByteArray} {n : Nat} (hn : n < s.size) (h : ∀ j, j < n → NoBlank s j) (hb : blankB s[n] = true) : Lib.indexAny s.data.toList [32, 9] = (n : Int) :=
  (any_row s.data.toList n (fun j hj hjn => h j hjn (by simpa using hj))).2 (by simpa using hn) hb
set_option maxHeartbeats 4000000 in
theorem index_short (s : ByteArray) (w : World) (hs : s.size ≤ 8) : Calls Tryz.prog 191 #[.string s, .string ⟨#[32, 9]⟩] w fun e w' => e = .returned (.int .i64 (Lib.indexAny s.data.toList [32, 9])) ∧ Below w.heap.size w w' := by
  have g1 : ¬ 8 < (s.size : Int) := by omega
  generalize hans : Lib.indexAny s.data.toList [32, 9] = ans
  go_enter Tryz.func191, Tryz.ntmps191
  go_wp2
  go_loopg [] s.size (fun gf wr => ∃ pos : Nat, wr.heap[w.heap.size]? = some (.stringIter s pos) ∧ Below w.heap.size w wr ∧ pos ≤ s.size ∧ s.size ≤ pos + gf ∧ ∀ j, j < pos → NoBlank s j)
  case atStart => exact ⟨0, World.iter_heap w s 0, (Below.refl _ w).alloc (Nat.le_refl _) _, by omega, by omega, fun j h => by omega⟩
  case round =>
    obtain ⟨pos, hit, hbw, hpl, hfu, hnb⟩ := hrel
    by_cases hps : pos < s.size
    · obtain ⟨g', rfl⟩ : ∃ g', gk = g' + 1 := ⟨gk - 1, by omega⟩
      have hnx : ∀ ty, (Instr.next (.pointer (some ⟨w.heap.size, 0, none⟩)) true ty).run Tryz.prog wr = _ := fun ty => Lib.run_next_any_at wr w.heap.size s pos ty hit hps
      have hval := decode_valid s pos
      obtain ⟨d1, d2, d3⟩ := decode_blank s pos hps
      obtain ⟨R, n, hRn⟩ : ∃ R n, Utf8.decode s pos = (R, n) := ⟨_, _, rfl⟩
      rw [hRn] at hnx hval d1 d2 d3
      simp only at hval d1 d2 d3
      have hit2 := Lib.iterAt_heap wr w.heap.size s pos (pos + n) hit
      have hbw2 := Lib.below_iterAt hbw (k := w.heap.size) (Nat.le_refl _) s (pos + n)
      obtain ⟨W, hWd⟩ : ∃ W, wr.iterAt w.heap.size s (pos + n) = W := ⟨_, rfl⟩
      rw [hWd] at hit2 hbw2
      simp only [hWd] at hnx
      clear hWd hit hRn
      have hI := fun w => rune_c R hval w
      by_cases hb : R = 32 ∨ R = 9
      · have hRes := hans.symm.trans (any_at hps hnb (d2 hb))
        subst hRes
        obtain ⟨v, hv, hv0⟩ : ∃ v : Int, (if R = 32 then (0 : Int) else if R = 9 then 1 else -1) = v ∧ 0 ≤ v := by
          refine ⟨_, rfl, ?_⟩
          split
          · omega
          · rw [if_pos (by omega)]; omega
        rw [hv] at hI
        clear d3 d2 hv hb
        go_wp2_with (go_at_call 221; (with_reducible refine (hI _).mono ?_); rintro e w2 ⟨rfl, hb2⟩)
        go_ret
        exact ⟨rfl, behind hbw2 hb2⟩
      · obtain ⟨e1, e2⟩ := d3 (fun e => hb (.inl e)) (fun e => hb (.inr e))
        have hv : (if R = 32 then (0 : Int) else if R = 9 then 1 else -1) = -1 := by rw [if_neg (fun e => hb (.inl e)), if_neg (fun e => hb (.inr e))]
        rw [hv] at hI
        clear d3 d2 hv hb
        go_wp2_with (go_at_call 221; (with_reducible refine (hI _).mono ?_); rintro e w2 ⟨rfl, hb2⟩)
        go_roundg g'
        case measure => omega
        case rel =>
          exact ⟨pos + n, (hb2.block _ (Array.getElem?_eq_some_iff.mp hit2).1).trans hit2, behind hbw2 hb2, e1, by omega, fun j hj => if hp : j < pos then hnb j hp else e2 j (by omega) hj⟩
    · have hnx : ∀ ty, (Instr.next (.pointer (some ⟨w.heap.size, 0, none⟩)) true ty).run Tryz.prog wr = _ := fun ty => Lib.run_next_end_at wr w.heap.size s pos ty hit hps
      have hRes := hans.symm.trans (any_none (fun j hj => hnb j (by omega)))
      subst hRes
      clear hit
      go_wp2
      go_ret
      exact ⟨rfl, hbw⟩
end Go.Proofs.YtbhlnemahhndoaaGreatDoor
