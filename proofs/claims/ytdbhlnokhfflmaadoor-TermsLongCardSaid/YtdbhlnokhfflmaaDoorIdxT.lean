import Derived.Test.YtdbhlnokhfflmaaDoorRuneT
import Derived.Test.YtdbhlnokhfflmaaDoorTermL
import Derived.Lib.SpaceUEq
import Derived.Lib.QuoteLoop
namespace Go.Proofs.YtdbhlnokhfflmaaDoor
open Go.RowKit
set_option maxRecDepth 100000

/-! ### the first blank of a short text, read rune by rune -/
def sgR (R : Nat) : Int := if R = 59 then 0 else if R = 62 then 1 else if R = 60 then 2 else if R = 40 then 3 else if R = 41 then 4 else -1
theorem ascii_row : ∀ R : Fin 128, Lib.indexByte [59, 62, 60, 40, 41] (Int.toNat (R.val : Int)).toUInt8 = sgR R.val := by decide
theorem sg_high {R : Nat} (h : 128 ≤ R) : sgR R = -1 := by
  unfold sgR; repeat rw [if_neg (by omega)]
def SgN (R : Nat) : Prop := R = 59 ∨ R = 62 ∨ R = 60 ∨ R = 40 ∨ R = 41
theorem sg_yes {R : Nat} (h : SgN R) : 0 ≤ sgR R := by rcases h with rfl | rfl | rfl | rfl | rfl <;> decide
theorem sg_no {R : Nat} (h : ¬ SgN R) : sgR R = -1 := by
  unfold SgN at h; unfold sgR; repeat rw [if_neg (by omega)]
theorem rune_c (R : Nat) (hv : Utf8.valid (R : Int) = true) (w : World) : Calls Tryd.prog 47 #[.string ⟨#[59, 62, 60, 40, 41]⟩, .int .i32 (R : Int)] w fun e w' => e = .returned (.int .i64 (sgR R)) ∧ Below w.heap.size w w' := by
  by_cases h1 : R < 128
  · refine (Tryd.strings_IndexRune_ascii ⟨#[59, 62, 60, 40, 41]⟩ (R : Int) w (by omega) (by omega)).mono fun e w' h => ⟨h.1.trans ?_, h.2 ▸ Below.refl _ _⟩
    exact congrArg (fun x => Ending.returned (.int .i64 x)) (ascii_row ⟨R, h1⟩)
  · rw [sg_high (by omega)]
    by_cases h2 : R < 2048
    · exact rune_two R (by omega) h2 w
    · by_cases h3 : R < 65536
      · by_cases h4 : R = 65533
        · subst h4; exact rune_err w
        · exact rune_three R (by omega) h3 hv h4 w
      · exact rune_four R (by omega) hv w
theorem decode_lowS (s : ByteArray) (i : Nat) (h : i < s.size) (hb : s[i].toNat < 128) : Utf8.decode s i = (s[i].toNat, 1) := by
  rw [Lib.decode_at]
  have e : s.get! i = s[i] := by simp [ByteArray.get!, h]; rfl
  rw [e]
  unfold Lib.decodeN
  rw [if_pos hb]
theorem decode_highS (s : ByteArray) (i : Nat) (h : i < s.size) (hb : 128 ≤ s[i].toNat) : 128 ≤ (Utf8.decode s i).1 ∧ (Utf8.decode s i).2 + i ≤ s.size ∧ ∀ j (hj : j < s.size), i ≤ j → j < i + (Utf8.decode s i).2 → 128 ≤ s[j].toNat := by
  have g : ∀ j (hj : j < s.size), s.get! j = s[j] := fun j hj => by simp [ByteArray.get!, hj]; rfl
  have hc := Lib.decodeN_conts (s.size - i) (s.get! i).toNat (s.get! (i + 1)).toNat (s.get! (i + 2)).toNat (s.get! (i + 3)).toNat
  have hd := Lib.decodeN_cases (s.size - i) (s.get! i).toNat (s.get! (i + 1)).toNat (s.get! (i + 2)).toNat (s.get! (i + 3)).toNat
  rw [← Lib.decode_at] at hc hd
  obtain ⟨c1, c2, c3, c4⟩ := hc
  have hw := Lib.width_pos s i
  rw [g i h] at hd
  refine ⟨?_, ?_, ?_⟩
  · rcases hd with ⟨hl, -⟩ | ⟨_, _, _, h1, e⟩ | ⟨_, _, _, _, h1, e⟩ | ⟨h1, -⟩ | e
    · omega
    · rw [e]; exact h1
    · rw [e]; simp only; omega
    · omega
    · rw [e]; decide
  · omega
  · intro j hj h1 h2
    rcases (show j = i ∨ j = i + 1 ∨ j = i + 2 ∨ j = i + 3 by omega) with rfl | rfl | rfl | rfl
    · exact hb
    · have := (c1 (by omega)).1
      rw [g _ hj] at this; omega
    · have := (c2 (by omega)).1
      rw [g _ hj] at this; omega
    · have := (c3 (by omega)).1
      rw [g _ hj] at this; omega
theorem decode_valid (s : ByteArray) (i : Nat) : Utf8.valid ((Utf8.decode s i).1 : Int) = true := by
  have h := Lib.decodeN_valid (s.size - i) (s.get! i).toNat (s.get! (i + 1)).toNat (s.get! (i + 2)).toNat (s.get! (i + 3)).toNat (UInt8.toNat_lt _)
  rw [← Lib.decode_at] at h
  unfold Utf8.valid
  simp only [Bool.or_eq_true, Bool.and_eq_true, decide_eq_true_eq]
  omega
/-- what stands at the byte at i of s -/
def NoSign (s : ByteArray) (i : Nat) : Prop := ∀ h : i < s.size, signB s[i] = false
theorem sign_nat (c : UInt8) : signB c = true ↔ SgN c.toNat := by
  unfold signB SgN
  simp only [Bool.or_eq_true, decide_eq_true_eq]
  rw [← UInt8.toNat_inj, ← UInt8.toNat_inj, ← UInt8.toNat_inj, ← UInt8.toNat_inj, ← UInt8.toNat_inj]
  constructor
  · rintro ((((h | h) | h) | h) | h)
    · exact .inl h
    · exact .inr (.inl h)
    · exact .inr (.inr (.inl h))
    · exact .inr (.inr (.inr (.inl h)))
    · exact .inr (.inr (.inr (.inr h)))
  · rintro (h | h | h | h | h)
    · exact .inl (.inl (.inl (.inl h)))
    · exact .inl (.inl (.inl (.inr h)))
    · exact .inl (.inl (.inr h))
    · exact .inl (.inr h)
    · exact .inr h
theorem decode_sign (s : ByteArray) (i : Nat) (h : i < s.size) : 1 ≤ (Utf8.decode s i).2 ∧ (SgN (Utf8.decode s i).1 → signB s[i] = true) ∧ (¬ SgN (Utf8.decode s i).1 → i + (Utf8.decode s i).2 ≤ s.size ∧ ∀ j, i ≤ j → j < i + (Utf8.decode s i).2 → NoSign s j) := by
  refine ⟨Lib.width_pos s i, ?_⟩
  by_cases hb : s[i].toNat < 128
  · rw [decode_lowS s i h hb]
    refine ⟨fun e => (sign_nat _).mpr e, fun e1 => ⟨h, fun j h1 h2 => ?_⟩⟩
    obtain rfl : j = i := by simp only at h2; omega
    intro _
    cases e : signB s[j] with
    | false => rfl
    | true => exact absurd ((sign_nat _).mp e) e1
  · obtain ⟨h1, h2, h3⟩ := decode_highS s i h (by omega)
    refine ⟨fun e => by unfold SgN at e; omega, fun _ => ⟨by omega, fun j g1 g2 hj => ?_⟩⟩
    have := h3 j hj g1 g2
    cases e : signB s[j] with
    | false => rfl
    | true => have := (sign_nat _).mp e; unfold SgN at this; omega
theorem sign_contains (c : UInt8) : ([59, 62, 60, 40, 41] : List UInt8).contains c = signB c := by
  unfold signB
  simp [Bool.or_assoc]
theorem any_row : ∀ (l : List UInt8) (n : Nat), (∀ j (h : j < l.length), j < n → signB l[j] = false) → (n = l.length → Lib.indexAny l [59, 62, 60, 40, 41] = -1) ∧ (∀ h : n < l.length, signB l[n] = true → Lib.indexAny l [59, 62, 60, 40, 41] = (n : Int))
  | [], n, _ => ⟨fun _ => rfl, fun h => by simp at h⟩
  | c :: t, 0, _ => by
    refine ⟨fun h => by simp at h, fun _ hb => ?_⟩
    unfold Lib.indexAny
    rw [sign_contains]
    have : signB c = true := hb
    simp [this]
  | c :: t, n + 1, hk => by
    have hc : signB c = false := hk 0 (by simp) (by omega)
    have ih := any_row t n (fun j h hn => hk (j + 1) (by simpa using h) (by omega))
    unfold Lib.indexAny
    rw [sign_contains, hc]
    refine ⟨fun h => ?_, fun h hb => ?_⟩
    · rw [ih.1 (by simpa using h)]; rfl
    · rw [ih.2 (by simpa using h) (by simpa using hb)]
      have : ((n : Int) == -1) = false := by rw [beq_eq_false_iff_ne]; omega
      simp [this]
theorem any_none {s : ByteArray} (h : ∀ j, j < s.size → NoSign s j) : Lib.indexAny s.data.toList [59, 62, 60, 40, 41] = -1 :=
  (any_row s.data.toList s.data.toList.length (fun j hj _ => h j (by simpa using hj) (by simpa using hj))).1 rfl
theorem any_at {s : ByteArray} {n : Nat} (hn : n < s.size) (h : ∀ j, j < n → NoSign s j) (hb : signB s[n] = true) : Lib.indexAny s.data.toList [59, 62, 60, 40, 41] = (n : Int) :=
  (any_row s.data.toList n (fun j hj hjn => h j hjn (by simpa using hj))).2 (by simpa using hn) hb
set_option maxHeartbeats 4000000 in
theorem index_short (s : ByteArray) (w : World) (hs : s.size ≤ 8) : Calls Tryd.prog 41 #[.string s, .string ⟨#[59, 62, 60, 40, 41]⟩] w fun e w' => e = .returned (.int .i64 (Lib.indexAny s.data.toList [59, 62, 60, 40, 41])) ∧ Below w.heap.size w w' := by
  have g1 : ¬ 8 < (s.size : Int) := by omega
  generalize hans : Lib.indexAny s.data.toList [59, 62, 60, 40, 41] = ans
  go_enter Tryd.func41, Tryd.ntmps41
  go_wp2
  go_loopg [] s.size (fun gf wr => ∃ pos : Nat, wr.heap[w.heap.size]? = some (.stringIter s pos) ∧ Below w.heap.size w wr ∧ pos ≤ s.size ∧ s.size ≤ pos + gf ∧ ∀ j, j < pos → NoSign s j)
  case atStart => exact ⟨0, World.iter_heap w s 0, (Below.refl _ w).alloc (Nat.le_refl _) _, by omega, by omega, fun j h => by omega⟩
  case round =>
    obtain ⟨pos, hit, hbw, hpl, hfu, hnb⟩ := hrel
    by_cases hps : pos < s.size
    · obtain ⟨g', rfl⟩ : ∃ g', gk = g' + 1 := ⟨gk - 1, by omega⟩
      have hnx : ∀ ty, (Instr.next (.pointer (some ⟨w.heap.size, 0, none⟩)) true ty).run Tryd.prog wr = _ := fun ty => Lib.run_next_any_at wr w.heap.size s pos ty hit hps
      have hval := decode_valid s pos
      obtain ⟨d1, d2, d3⟩ := decode_sign s pos hps
      obtain ⟨R, n, hRn⟩ : ∃ R n, Utf8.decode s pos = (R, n) := ⟨_, _, rfl⟩
      rw [hRn] at hnx hval d1 d2 d3
      simp only at hval d1 d2 d3
      have hit2 := Lib.iterAt_heap wr w.heap.size s pos (pos + n) hit
      have hbw2 := Lib.below_iterAt hbw (k := w.heap.size) (Nat.le_refl _) s (pos + n)
      obtain ⟨W, hWd⟩ : ∃ W, wr.iterAt w.heap.size s (pos + n) = W := ⟨_, rfl⟩
      rw [hWd] at hit2 hbw2
      simp only [hWd] at hnx
      clear hWd hit hRn
      have hI := fun w => rune_c R hval w
      by_cases hb : SgN R
      · have hRes := hans.symm.trans (any_at hps hnb (d2 hb))
        subst hRes
        obtain ⟨v, hv, hv0⟩ : ∃ v : Int, sgR R = v ∧ 0 ≤ v := ⟨_, rfl, sg_yes hb⟩
        rw [hv] at hI
        clear d3 d2 hv hb
        go_wp2_with (go_at_call 47; (with_reducible refine (hI _).mono ?_); rintro e w2 ⟨rfl, hb2⟩)
        go_ret
        exact ⟨rfl, behind hbw2 hb2⟩
      · obtain ⟨e1, e2⟩ := d3 hb
        rw [sg_no hb] at hI
        clear d3 d2 hb
        go_wp2_with (go_at_call 47; (with_reducible refine (hI _).mono ?_); rintro e w2 ⟨rfl, hb2⟩)
        go_roundg g'
        case measure => omega
        case rel =>
          exact ⟨pos + n, (hb2.block _ (Array.getElem?_eq_some_iff.mp hit2).1).trans hit2, behind hbw2 hb2, e1, by omega, fun j hj => if hp : j < pos then hnb j hp else e2 j (by omega) hj⟩
    · have hnx : ∀ ty, (Instr.next (.pointer (some ⟨w.heap.size, 0, none⟩)) true ty).run Tryd.prog wr = _ := fun ty => Lib.run_next_end_at wr w.heap.size s pos ty hit hps
      have hRes := hans.symm.trans (any_none (fun j hj => hnb j (by omega)))
      subst hRes
      clear hit
      go_wp2
      go_ret
      exact ⟨rfl, hbw⟩

def sgn5 : ByteArray := ⟨#[59, 62, 60, 40, 41]⟩
theorem sgn_ascii : ∀ (j : Nat) (b : UInt8), sgn5.data.toList[j]? = some b → b.toNat < 128 := Go.Proofs.ascii_of_all (l := sgn5.data.toList) (by decide)
theorem zero256 : (Tryd.prog.info? 57).map (fun i => (i.zero, i.size)) = some (some (.agg (Array.replicate 256 (.bool false))), 256) := by kernel_rfl
theorem index_c (s : ByteArray) (w : World) (hs : s.size < 4294967281) : Calls Tryd.prog 41 #[.string s, .string sgn5] w fun e w' => e = .returned (.int .i64 (Lib.indexAny s.data.toList [59, 62, 60, 40, 41])) ∧ Below w.heap.size w w' := by
  by_cases h : 8 < s.size
  · refine (Tryd.strings_IndexAny_long (zero_of_info zero256).1 s sgn5 w (by decide) h hs (by decide) sgn_ascii).mono ?_
    rintro e w' ⟨rfl, rfl⟩
    exact ⟨rfl, behind (laidNew _ _) (laidNew _ _)⟩
  · exact index_short s w (by omega)
theorem any_neg (l : List UInt8) : (Lib.indexAny l [59, 62, 60, 40, 41] = -1 ∧ l.any signB = false) ∨ (0 ≤ Lib.indexAny l [59, 62, 60, 40, 41] ∧ l.any signB = true) := by
  induction l with
  | nil => exact .inl ⟨rfl, rfl⟩
  | cons c t ih =>
    unfold Lib.indexAny
    rw [sign_contains, List.any_cons]
    cases h : signB c with
    | true => exact .inr ⟨by simp, by simp⟩
    | false =>
      rcases ih with ⟨h1, h2⟩ | ⟨h1, h2⟩
      · left; rw [h1, h2]; exact ⟨rfl, rfl⟩
      · right
        rw [h2]
        have : (Lib.indexAny t [59, 62, 60, 40, 41] == -1) = false := by rw [beq_eq_false_iff_ne]; omega
        simp [this]; omega
set_option maxHeartbeats 1000000 in
theorem contains_c (s : ByteArray) (w : World) (hs : s.size < 4294967281) : Calls Tryd.prog 32 #[.string s, .string sgn5] w fun e w' => e = .returned (.bool (s.data.toList.any signB)) ∧ Below w.heap.size w w' := by
  have hI := index_c s w hs
  unfold sgn5 at hI ⊢
  rcases any_neg s.data.toList with ⟨h1, h2⟩ | ⟨h1, h2⟩
  · rw [h1] at hI
    rw [h2]
    clear h1 h2
    go_enter Tryd.func32, Tryd.ntmps32
    go_wp2_with (go_at_call 41; refine hI.mono ?_; rintro e w2 ⟨rfl, hb2⟩)
    go_ret
    exact ⟨rfl, hb2⟩
  · rw [h2]
    obtain ⟨v, hv⟩ : ∃ v, Lib.indexAny s.data.toList [59, 62, 60, 40, 41] = v := ⟨_, rfl⟩
    rw [hv] at hI h1
    clear hv h2
    go_enter Tryd.func32, Tryd.ntmps32
    go_wp2_with (go_at_call 41; refine hI.mono ?_; rintro e w2 ⟨rfl, hb2⟩)
    go_ret
    exact ⟨rfl, hb2⟩
theorem part_eq (l : List UInt8) : partB l = (!decide (l = []) && !l.any signB) := by cases l <;> rfl
set_option maxHeartbeats 1000000 in
theorem mayPart_c (s : ByteArray) (w : World) (hs : s.size < 4294967281) : Calls Tryd.prog 25 #[.string s] w fun e w' => e = .returned (.bool (partB s.data.toList)) ∧ Below w.heap.size w w' := by
  by_cases h : s = ⟨#[]⟩
  · subst h
    go_enter Tryd.func25, Tryd.ntmps25
    go_wp2
    go_ret
    exact ⟨rfl, Below.refl _ _⟩
  · have hC := fun w => contains_c s w hs
    unfold sgn5 at hC
    have h2 : s.toList.isEmpty = false := by
      rw [Lib.toList_data]
      cases he : s.data.toList with
      | nil => exact absurd (bT_eq he) h
      | cons a l => rfl
    have hp : partB s.data.toList = !s.data.toList.any signB := by
      have : s.data.toList.isEmpty = false := by rw [← Lib.toList_data]; exact h2
      unfold partB; rw [this]; rfl
    rw [hp]
    clear hp h
    generalize s.data.toList.any signB = q at hC ⊢
    go_enter Tryd.func25, Tryd.ntmps25
    go_wp2_with (go_at_call 32; (with_reducible refine (hC _).mono ?_); rintro e w2 ⟨rfl, hb2⟩)
    go_ret
    exact ⟨rfl, hb2⟩
end Go.Proofs.YtdbhlnokhfflmaaDoor
