import Derived.Test.YtcdlleeonfnamaaAsksC
import Derived.Test.YtcdlleeonfnamaaPartC
namespace Go.Proofs.Ytcdlleeonfnamaa
open Go.RowKit Go.Maps
set_option maxRecDepth 100000

theorem zero_fn (w : World) : (zeroValue 24).run Try.prog w = .ok .nilFunc w := by rfl
theorem look_any {w w' : World} {u t : ByteArray} {b : Bool} (h : Asked w w' u b t) (s : ByteArray) (hs : s.size ≤ maxLen) (f : Value) (hf : ∀ z, (asksD w.heap.size).atKey (.string s.data.toList) z = .held f) :
    (Instr.lookup 55 (.map (some (w.heap.size + 4))) (.string s) false).run Try.prog w' = .ok f w' := by
  obtain ⟨v, ps, hrun, hv⟩ := h.own.lookup key_k Try.underlying55 (zero_fn _) (zd := .held .nilFunc) (zp := []) rfl (key_of s hs)
  rw [← heldR_out hv (hf _)]; exact hrun
def isV (o : Option ByteArray) (t : ByteArray) : Bool := match o with
  | some g => g.toList == t.toList
  | none => false
theorem isV_eq (o : Option ByteArray) (t : ByteArray) : isV o t = decide (o = some t) := by
  cases o with
  | none => simp [isV]
  | some g =>
    show (g.toList == t.toList) = _
    rw [Bool.eq_iff_iff, decide_eq_true_eq, beq_iff_eq, Lib.toList_data, Lib.toList_data]
    constructor
    · intro e; rw [ByteArray.ext (Array.toList_inj.1 e)]
    · intro e; injection e with e; rw [e]
theorem ask_ok {n : ByteArray} {b c : Bool} (h : b = c) : Value.tuple #[.string n, .bool b, .int .i64 0] = askV (some (n.data.toList, c)) := by rw [h]; exact ask_some rfl

set_option maxHeartbeats 2000000 in
theorem askC_set (v : Value) (l : List At) (n nm tx : ByteArray) (w : World) (h : Attrs w v l) (hz : nm.size ≤ maxLen) (hp : Calls Try.prog 29 #[.string n] w fun e w' => e = .returned (.tuple #[.string ⟨#[]⟩, .string nm, .string tx]) ∧ Below w.heap.size w w') :
    Calls Try.prog 17 #[v, .string n] w fun e w' => e = .returned (askV (if nameB nm.data.toList = true then some (nm.data.toList, (getL l nm).isSome) else none)) ∧ Below w.heap.size w w' := by
  have hN := fun w => name_any nm w hz
  have hG := fun w h => get_any v l nm w h
  cases hn : nameB nm.data.toList with
  | false =>
    rw [hn] at hN
    clear hn
    go_enter Try.func17, Try.ntmps17
    go_wp2_with (first
      | (go_at_call 29; refine hp.mono ?_; rintro e w2 ⟨rfl, hb2⟩)
      | (go_at_call 14; refine (hN _).mono ?_; rintro e w3 ⟨rfl, rfl⟩))
    go_ret3
    exact ⟨rfl, hb2⟩
  | true =>
    rw [hn] at hN
    cases hg : getL l nm with
    | none =>
      rw [hg] at hG
      unfold getV at hG
      clear hn hg
      go_enter Try.func17, Try.ntmps17
      go_wp2_with (first
        | (go_at_call 29; refine hp.mono ?_; rintro e w2 ⟨rfl, hb2⟩)
        | (go_at_call 14; refine (hN _).mono ?_; rintro e w3 ⟨rfl, rfl⟩)
        | (go_at_call 15; refine (hG _ (h.below hb2)).mono ?_; rintro e w3 ⟨rfl, hb3⟩)
        | (go_at_call 30; refine (asks_c ⟨#[]⟩ false tx _).mono ?_; rintro e w4 ⟨rfl, hA⟩; have hL := look_any hA ⟨#[]⟩ (by decide) _ (asksD_set _); unfold fSet at hL)
        | (go_at_call 42; refine (asks2_c _ false _ hA.c1).mono ?_; rintro e w5 ⟨rfl, rfl⟩))
      go_ret3
      exact ⟨ret_v (ask_ok rfl), behind (behind hb2 hb3) hA.bel⟩
    | some g =>
      rw [hg] at hG
      unfold getV at hG
      clear hn hg
      go_enter Try.func17, Try.ntmps17
      go_wp2_with (first
        | (go_at_call 29; refine hp.mono ?_; rintro e w2 ⟨rfl, hb2⟩)
        | (go_at_call 14; refine (hN _).mono ?_; rintro e w3 ⟨rfl, rfl⟩)
        | (go_at_call 15; refine (hG _ (h.below hb2)).mono ?_; rintro e w3 ⟨rfl, hb3⟩)
        | (go_at_call 30; refine (asks_c g true tx _).mono ?_; rintro e w4 ⟨rfl, hA⟩; have hL := look_any hA ⟨#[]⟩ (by decide) _ (asksD_set _); unfold fSet at hL)
        | (go_at_call 42; refine (asks2_c _ true _ hA.c1).mono ?_; rintro e w5 ⟨rfl, rfl⟩))
      go_ret3
      exact ⟨ret_v (ask_ok rfl), behind (behind hb2 hb3) hA.bel⟩

set_option maxHeartbeats 2000000 in
theorem askC_not (v : Value) (l : List At) (n nm tx : ByteArray) (w : World) (h : Attrs w v l) (hz : nm.size ≤ maxLen) (hp : Calls Try.prog 29 #[.string n] w fun e w' => e = .returned (.tuple #[.string ⟨#[33]⟩, .string nm, .string tx]) ∧ Below w.heap.size w w') :
    Calls Try.prog 17 #[v, .string n] w fun e w' => e = .returned (askV (if nameB nm.data.toList = true then some (nm.data.toList, !(getL l nm).isSome) else none)) ∧ Below w.heap.size w w' := by
  have hN := fun w => name_any nm w hz
  have hG := fun w h => get_any v l nm w h
  cases hn : nameB nm.data.toList with
  | false =>
    rw [hn] at hN
    clear hn
    go_enter Try.func17, Try.ntmps17
    go_wp2_with (first
      | (go_at_call 29; refine hp.mono ?_; rintro e w2 ⟨rfl, hb2⟩)
      | (go_at_call 14; refine (hN _).mono ?_; rintro e w3 ⟨rfl, rfl⟩))
    go_ret3
    exact ⟨rfl, hb2⟩
  | true =>
    rw [hn] at hN
    cases hg : getL l nm with
    | none =>
      rw [hg] at hG
      unfold getV at hG
      clear hn hg
      go_enter Try.func17, Try.ntmps17
      go_wp2_with (first
        | (go_at_call 29; refine hp.mono ?_; rintro e w2 ⟨rfl, hb2⟩)
        | (go_at_call 14; refine (hN _).mono ?_; rintro e w3 ⟨rfl, rfl⟩)
        | (go_at_call 15; refine (hG _ (h.below hb2)).mono ?_; rintro e w3 ⟨rfl, hb3⟩)
        | (go_at_call 30; refine (asks_c ⟨#[]⟩ false tx _).mono ?_; rintro e w4 ⟨rfl, hA⟩; have hL := look_any hA ⟨#[33]⟩ (by decide) _ (asksD_not _); unfold fNot at hL)
        | (go_at_call 43; refine (asks3_c _ false _ hA.c1).mono ?_; rintro e w5 ⟨rfl, rfl⟩))
      go_ret3
      exact ⟨ret_v (ask_ok rfl), behind (behind hb2 hb3) hA.bel⟩
    | some g =>
      rw [hg] at hG
      unfold getV at hG
      clear hn hg
      go_enter Try.func17, Try.ntmps17
      go_wp2_with (first
        | (go_at_call 29; refine hp.mono ?_; rintro e w2 ⟨rfl, hb2⟩)
        | (go_at_call 14; refine (hN _).mono ?_; rintro e w3 ⟨rfl, rfl⟩)
        | (go_at_call 15; refine (hG _ (h.below hb2)).mono ?_; rintro e w3 ⟨rfl, hb3⟩)
        | (go_at_call 30; refine (asks_c g true tx _).mono ?_; rintro e w4 ⟨rfl, hA⟩; have hL := look_any hA ⟨#[33]⟩ (by decide) _ (asksD_not _); unfold fNot at hL)
        | (go_at_call 43; refine (asks3_c _ true _ hA.c1).mono ?_; rintro e w5 ⟨rfl, rfl⟩))
      go_ret3
      exact ⟨ret_v (ask_ok rfl), behind (behind hb2 hb3) hA.bel⟩

set_option maxHeartbeats 2000000 in
theorem askC_is (v : Value) (l : List At) (n nm tx : ByteArray) (w : World) (h : Attrs w v l) (hz : nm.size ≤ maxLen) (hp : Calls Try.prog 29 #[.string n] w fun e w' => e = .returned (.tuple #[.string ⟨#[61]⟩, .string nm, .string tx]) ∧ Below w.heap.size w w') :
    Calls Try.prog 17 #[v, .string n] w fun e w' => e = .returned (askV (if nameB nm.data.toList = true then some (nm.data.toList, isV (getL l nm) tx) else none)) ∧ Below w.heap.size w w' := by
  have hN := fun w => name_any nm w hz
  have hG := fun w h => get_any v l nm w h
  cases hn : nameB nm.data.toList with
  | false =>
    rw [hn] at hN
    clear hn
    go_enter Try.func17, Try.ntmps17
    go_wp2_with (first
      | (go_at_call 29; refine hp.mono ?_; rintro e w2 ⟨rfl, hb2⟩)
      | (go_at_call 14; refine (hN _).mono ?_; rintro e w3 ⟨rfl, rfl⟩))
    go_ret3
    exact ⟨rfl, hb2⟩
  | true =>
    rw [hn] at hN
    cases hg : getL l nm with
    | none =>
      rw [hg] at hG
      unfold getV at hG
      clear hn hg
      go_enter Try.func17, Try.ntmps17
      go_wp2_with (first
        | (go_at_call 29; refine hp.mono ?_; rintro e w2 ⟨rfl, hb2⟩)
        | (go_at_call 14; refine (hN _).mono ?_; rintro e w3 ⟨rfl, rfl⟩)
        | (go_at_call 15; refine (hG _ (h.below hb2)).mono ?_; rintro e w3 ⟨rfl, hb3⟩)
        | (go_at_call 30; refine (asks_c ⟨#[]⟩ false tx _).mono ?_; rintro e w4 ⟨rfl, hA⟩; have hL := look_any hA ⟨#[61]⟩ (by decide) _ (asksD_is _); unfold fIs at hL)
        | (go_at_call 41; refine (asks1_c _ _ _ ⟨#[]⟩ tx false _ hA.c1 hA.c0 hA.c2).mono ?_; rintro e w5 ⟨rfl, rfl⟩))
      go_ret3
      exact ⟨ret_v (ask_ok rfl), behind (behind hb2 hb3) hA.bel⟩
    | some g =>
      rw [hg] at hG
      unfold getV at hG
      clear hn hg
      go_enter Try.func17, Try.ntmps17
      go_wp2_with (first
        | (go_at_call 29; refine hp.mono ?_; rintro e w2 ⟨rfl, hb2⟩)
        | (go_at_call 14; refine (hN _).mono ?_; rintro e w3 ⟨rfl, rfl⟩)
        | (go_at_call 15; refine (hG _ (h.below hb2)).mono ?_; rintro e w3 ⟨rfl, hb3⟩)
        | (go_at_call 30; refine (asks_c g true tx _).mono ?_; rintro e w4 ⟨rfl, hA⟩; have hL := look_any hA ⟨#[61]⟩ (by decide) _ (asksD_is _); unfold fIs at hL)
        | (go_at_call 41; refine (asks1_c _ _ _ g tx true _ hA.c1 hA.c0 hA.c2).mono ?_; rintro e w5 ⟨rfl, rfl⟩))
      go_ret3
      exact ⟨ret_v (ask_ok rfl), behind (behind hb2 hb3) hA.bel⟩

set_option maxHeartbeats 2000000 in
theorem askC_isnt (v : Value) (l : List At) (n nm tx : ByteArray) (w : World) (h : Attrs w v l) (hz : nm.size ≤ maxLen) (hp : Calls Try.prog 29 #[.string n] w fun e w' => e = .returned (.tuple #[.string ⟨#[33, 61]⟩, .string nm, .string tx]) ∧ Below w.heap.size w w') :
    Calls Try.prog 17 #[v, .string n] w fun e w' => e = .returned (askV (if nameB nm.data.toList = true then some (nm.data.toList, !isV (getL l nm) tx) else none)) ∧ Below w.heap.size w w' := by
  have hN := fun w => name_any nm w hz
  have hG := fun w h => get_any v l nm w h
  cases hn : nameB nm.data.toList with
  | false =>
    rw [hn] at hN
    clear hn
    go_enter Try.func17, Try.ntmps17
    go_wp2_with (first
      | (go_at_call 29; refine hp.mono ?_; rintro e w2 ⟨rfl, hb2⟩)
      | (go_at_call 14; refine (hN _).mono ?_; rintro e w3 ⟨rfl, rfl⟩))
    go_ret3
    exact ⟨rfl, hb2⟩
  | true =>
    rw [hn] at hN
    cases hg : getL l nm with
    | none =>
      rw [hg] at hG
      unfold getV at hG
      clear hn hg
      go_enter Try.func17, Try.ntmps17
      go_wp2_with (first
        | (go_at_call 29; refine hp.mono ?_; rintro e w2 ⟨rfl, hb2⟩)
        | (go_at_call 14; refine (hN _).mono ?_; rintro e w3 ⟨rfl, rfl⟩)
        | (go_at_call 15; refine (hG _ (h.below hb2)).mono ?_; rintro e w3 ⟨rfl, hb3⟩)
        | (go_at_call 30; refine (asks_c ⟨#[]⟩ false tx _).mono ?_; rintro e w4 ⟨rfl, hA⟩; have hL := look_any hA ⟨#[33, 61]⟩ (by decide) _ (asksD_isnt _); unfold fIsnt at hL)
        | (go_at_call 44; refine (asks4_c _ _ _ _ ⟨#[]⟩ tx false _ hA.c3 hA.c1 hA.c0 hA.c2).mono ?_; rintro e w5 ⟨rfl, rfl⟩))
      go_ret3
      exact ⟨ret_v (ask_ok rfl), behind (behind hb2 hb3) hA.bel⟩
    | some g =>
      rw [hg] at hG
      unfold getV at hG
      clear hn hg
      go_enter Try.func17, Try.ntmps17
      go_wp2_with (first
        | (go_at_call 29; refine hp.mono ?_; rintro e w2 ⟨rfl, hb2⟩)
        | (go_at_call 14; refine (hN _).mono ?_; rintro e w3 ⟨rfl, rfl⟩)
        | (go_at_call 15; refine (hG _ (h.below hb2)).mono ?_; rintro e w3 ⟨rfl, hb3⟩)
        | (go_at_call 30; refine (asks_c g true tx _).mono ?_; rintro e w4 ⟨rfl, hA⟩; have hL := look_any hA ⟨#[33, 61]⟩ (by decide) _ (asksD_isnt _); unfold fIsnt at hL)
        | (go_at_call 44; refine (asks4_c _ _ _ _ g tx true _ hA.c3 hA.c1 hA.c0 hA.c2).mono ?_; rintro e w5 ⟨rfl, rfl⟩))
      go_ret3
      exact ⟨ret_v (ask_ok rfl), behind (behind hb2 hb3) hA.bel⟩

theorem head_cut {a b : List UInt8} (h : (a ++ 33 :: 61 :: b).head? ≠ some 33) : (a ++ [33]).head? ≠ some 33 := by
  cases a with
  | nil => exact fun _ => h rfl
  | cons x a => exact fun e => h e
theorem bT_size (l : List UInt8) : (bT l).size = l.length := by show l.toArray.size = _; simp
theorem ask_any (v : Value) (l : List At) (s : ByteArray) (w : World) (h : Attrs w v l) (hs : s.size ≤ 140737488351232) : Calls Try.prog 17 #[v, .string s] w fun e w' => e = .returned (askV (askL l s.data.toList)) ∧ Below w.heap.size w w' := by
  have hz : s.data.toList.length = s.size := by simp
  by_cases h33 : s.data.toList.head? = some 33
  · obtain ⟨t, ht⟩ : ∃ t, s.data.toList = 33 :: t := by
      cases e : s.data.toList with
      | nil => rw [e] at h33; cases h33
      | cons x t => rw [e] at h33; injection h33 with h33; exact ⟨t, by rw [h33]⟩
    have := askC_not v l s (bT t) ⟨#[]⟩ w h (by rw [bT_size]; rw [ht] at hz; simp at hz; unfold maxLen; omega) (parts_not s t w ht)
    rw [ht, ask_not]
    exact this
  · by_cases h6 : (61 : UInt8) ∈ s.data.toList
    · obtain ⟨a, b, hab, ha⟩ : ∃ a b, s.data.toList = a ++ 61 :: b ∧ (61 : UInt8) ∉ a := by
        rcases index_at 61 s.data.toList with ⟨h1, _⟩ | ⟨a, b, h1, h2, _⟩
        · exact absurd h6 h1
        · exact ⟨a, b, h1, h2⟩
      by_cases h3 : a.getLast? = some 33
      · obtain ⟨a', rfl⟩ : ∃ a', a = a' ++ [33] := List.getLast?_eq_some_iff.1 h3
        have h6' : (61 : UInt8) ∉ a' := fun hm => ha (by simp [hm])
        have hab' : s.data.toList = a' ++ 33 :: 61 :: b := by rw [hab]; simp
        have := askC_isnt v l s (bT a') (bT b) w h (by rw [bT_size]; rw [hab] at hz; simp at hz; unfold maxLen; omega) (partC_ne s a' b w hs h33 h6' hab')
        rw [hab', ask_ne l (head_cut (by rw [hab'] at h33; exact h33)) h6', ← isV_eq]
        exact this
      · have := askC_is v l s (bT a) (bT b) w h (by rw [bT_size]; rw [hab] at hz; simp at hz; unfold maxLen; omega) (parts_eq s a b w hs h33 ha h3 hab)
        rw [hab, ask_eq l (by rw [← hab]; exact h33) ha h3, ← isV_eq]
        exact this
    · have := askC_set v l s s ⟨#[]⟩ w h (by unfold maxLen; omega) (parts_is s w h33 h6)
      rw [ask_is l h33 h6, bT_data]
      exact this
end Go.Proofs.Ytcdlleeonfnamaa
