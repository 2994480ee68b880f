import Derived.Test.YtdbhlnokhfflmaaDoorTermG
namespace Go.Proofs.YtdbhlnokhfflmaaDoor
open Go.RowKit
set_option maxRecDepth 100000

/-! ### the document's answer -/
def firstN (l : List UInt8) (c : UInt8) : Nat := (l.takeWhile (fun x => x != c)).length
theorem first_le (l : List UInt8) (c : UInt8) : firstN l c ≤ l.length := (List.takeWhile_prefix (l := l) (fun x => x != c)).length_le
theorem first_no {l : List UInt8} {c : UInt8} (h : c ∉ l) : firstN l c = l.length := by
  unfold firstN
  rw [take_self (fun x hx => by rw [bne_iff_ne]; exact fun e => h (e ▸ hx))]
theorem first_mid {a : List UInt8} {c : UInt8} (b : List UInt8) (h : c ∉ a) : firstN (a ++ c :: b) c = a.length := by
  unfold firstN
  rw [List.takeWhile_append_of_pos (fun x hx => by rw [bne_iff_ne]; exact fun e => h (e ▸ hx))]
  simp
theorem first_is {l : List UInt8} {c : UInt8} : firstN l c = l.length ↔ c ∉ l := by
  refine ⟨fun h hc => ?_, first_no⟩
  obtain ⟨a, b, e, ha⟩ := first_of hc
  rw [e, first_mid b ha] at h
  simp at h
theorem first_at {l : List UInt8} {c : UInt8} {k : Nat} (hk : k < l.length) (h : ∀ j (hj : j < l.length), j < k → l[j] ≠ c) (e : l[k] = c) : firstN l c = k := by
  have hs : l = l.take k ++ c :: l.drop (k + 1) := by rw [← e, ← List.drop_eq_getElem_cons hk, List.take_append_drop]
  have hn : c ∉ l.take k := fun hm => by
    obtain ⟨j, hj, he⟩ := List.mem_take_iff_getElem.1 hm
    exact h j (by omega) (by omega) he
  rw [hs, first_mid _ hn, List.length_take]; omega
set_option maxHeartbeats 1000000 in
theorem first_c (s : ByteArray) (c : UInt8) (w : World) (hs : s.size ≤ 140737488351232) :
    Calls Tryd.prog 26 #[.string s, .int .u8 (c.toNat : Int)] w fun e w' => e = .returned (.int .i64 (firstN s.data.toList c : Int)) ∧ w = w' := by
  have hl : s.data.toList.length = s.size := by simp
  have HL := Lib.hid hl
  clear hl
  go_enter Tryd.func26, Tryd.ntmps26
  go_wp2
  go_loop [5] (fun i => ∃ k : Nat, k ≤ s.size ∧ i = .int .i64 k ∧ Hid (∀ j (hj : j < s.data.toList.length), j < k → s.data.toList[j] ≠ c)) (fun i => s.size - (intOf i).toNat)
  case atStart => exact ⟨0, by omega, rfl, Lib.hid (fun j _ h => by omega)⟩
  case round =>
    obtain ⟨k, hk, rfl, ha⟩ := hrel
    by_cases hlt : k < s.size
    · have hlt' : k < s.data.toList.length := by rw [HL.out]; exact hlt
      have hg : s.data.toList[k] = s[k] := rfl
      by_cases he : s[k] = c
      · have hq : ((s[k].toNat : Int) == (c.toNat : Int)) = true := by rw [he]; simp
        have HF := Lib.hid (first_at hlt' ha.out (hg.trans he))
        clear he hg
        go_wp2
        go_ret
        exact ⟨ret_int (by rw [HF.out]), rfl⟩
      · have hq : ((s[k].toNat : Int) == (c.toNat : Int)) = false := by
          rw [beq_eq_false_iff_ne]; intro e; exact he (UInt8.toNat_inj.1 (by omega))
        have HN : Hid (∀ j (hj : j < s.data.toList.length), j < k + 1 → s.data.toList[j] ≠ c) := Lib.hid (fun j hj h => by
          by_cases e : j < k
          · exact ha.out j hj e
          · obtain rfl : j = k := by omega
            exact fun e2 => he (hg ▸ e2))
        clear he hg
        go_wp2
        go_round
        case rel => exact ⟨k + 1, by omega, by go_num, HN⟩
        case measure => simp [intOf]; omega
    · have HF := Lib.hid (first_no (l := s.data.toList) (c := c) (fun hm => by
        obtain ⟨j, hj, e⟩ := List.getElem_of_mem hm
        exact ha.out j hj (by have := HL.out; omega) e))
      go_wp2
      go_ret
      exact ⟨ret_int (by rw [HF.out, HL.out]), rfl⟩
theorem lef_cons {c : UInt8} (t : List UInt8) (h : blankB c = true) : lefL (c :: t) = lefL t := by unfold lefL; rw [List.dropWhile_cons_of_pos h]
theorem lef_stop {c : UInt8} (t : List UInt8) (h : blankB c = false) : lefL (c :: t) = c :: t := by unfold lefL; rw [List.dropWhile_cons_of_neg (by rw [h]; decide)]
theorem rig_snoc {c : UInt8} (t : List UInt8) (h : blankB c = true) : rigL (t ++ [c]) = rigL t := by
  unfold rigL; rw [List.reverse_append, List.reverse_singleton, List.singleton_append, List.dropWhile_cons_of_pos h]
theorem rig_stop {c : UInt8} (t : List UInt8) (h : blankB c = false) : rigL (t ++ [c]) = t ++ [c] := by
  unfold rigL; rw [List.reverse_append, List.reverse_singleton, List.singleton_append, List.dropWhile_cons_of_neg (by rw [h]; decide)]; simp
theorem blank_int (c : UInt8) : (blankB c = true ∧ ((c.toNat : Int) = 32 ∨ (c.toNat : Int) = 9)) ∨ (blankB c = false ∧ (c.toNat : Int) ≠ 32 ∧ (c.toNat : Int) ≠ 9) := by
  have h1 : c = 32 ↔ (c.toNat : Int) = 32 := ⟨fun e => by rw [e]; rfl, fun e => UInt8.toNat_inj.1 (by show c.toNat = 32; omega)⟩
  have h2 : c = 9 ↔ (c.toNat : Int) = 9 := ⟨fun e => by rw [e]; rfl, fun e => UInt8.toNat_inj.1 (by show c.toNat = 9; omega)⟩
  unfold blankB
  by_cases e1 : c = 32
  · exact .inl ⟨by simp [e1], .inl (h1.1 e1)⟩
  · by_cases e2 : c = 9
    · exact .inl ⟨by simp [e2], .inr (h2.1 e2)⟩
    · exact .inr ⟨by simp [e1, e2], fun e => e1 (h1.2 e), fun e => e2 (h2.2 e)⟩
def szV : Value → Nat
  | .string t => t.size
  | _ => 0
theorem left_cases (t : ByteArray) : t.size = 0 ∨ (∃ h : 0 < t.size, ((t[0].toNat : Int) = 32 ∨ (t[0].toNat : Int) = 9) ∧ lefL (t.extract 1 t.size).data.toList = lefL t.data.toList) ∨ (∃ h : 0 < t.size, (t[0].toNat : Int) ≠ 32 ∧ (t[0].toNat : Int) ≠ 9 ∧ lefL t.data.toList = t.data.toList) := by
  by_cases h : 0 < t.size
  · right
    have hz : t.data.toList.length = t.size := by simp
    have hs : t.data.toList = t[0] :: t.data.toList.drop 1 := by
      have := List.drop_eq_getElem_cons (l := t.data.toList) (i := 0) (by omega)
      rw [List.drop_zero] at this
      exact this
    rcases blank_int t[0] with ⟨h1, h2⟩ | ⟨h1, h2, h3⟩
    · left
      refine ⟨h, h2, ?_⟩
      rw [extract_list]
      conv => rhs; rw [hs]
      rw [lef_cons _ h1]
    · right
      refine ⟨h, h2, h3, ?_⟩
      conv => lhs; rw [hs]
      rw [lef_stop _ h1]
      exact hs.symm
  · exact .inl (by omega)
theorem right_cases (t : ByteArray) : t.size = 0 ∨ (∃ h : t.size - 1 < t.size, ((t[t.size - 1].toNat : Int) = 32 ∨ (t[t.size - 1].toNat : Int) = 9) ∧ rigL (t.extract 0 (t.size - 1)).data.toList = rigL t.data.toList) ∨ (∃ h : t.size - 1 < t.size, (t[t.size - 1].toNat : Int) ≠ 32 ∧ (t[t.size - 1].toNat : Int) ≠ 9 ∧ rigL t.data.toList = t.data.toList) := by
  by_cases h : 0 < t.size
  · right
    have hlt : t.size - 1 < t.size := by omega
    have hz : t.data.toList.length = t.size := by simp
    have hs : t.data.toList = t.data.toList.take (t.size - 1) ++ [t[t.size - 1]] := by
      have h1 := List.take_succ_eq_append_getElem (l := t.data.toList) (i := t.size - 1) (by omega)
      rw [List.take_of_length_le (by omega)] at h1
      exact h1
    rcases blank_int t[t.size - 1] with ⟨h1, h2⟩ | ⟨h1, h2, h3⟩
    · left
      refine ⟨hlt, h2, ?_⟩
      rw [extract_take]
      conv => rhs; rw [hs]
      rw [rig_snoc _ h1]
    · right
      refine ⟨hlt, h2, h3, ?_⟩
      conv => lhs; rw [hs]
      rw [rig_stop _ h1]
      exact hs.symm
  · exact .inl (by omega)
theorem data_nil {t : ByteArray} (h : t.size = 0) : t.data.toList = [] := by
  have hz : t.data.toList.length = t.size := by simp
  exact List.length_eq_zero_iff.1 (by omega)
theorem trim_end {s t r : ByteArray} (hL : lefL s.data.toList = t.data.toList) (hb : rigL r.data.toList = rigL t.data.toList) (h : r.size = 0 ∨ rigL r.data.toList = r.data.toList) : r = bT (trimL s.data.toList) := by
  apply bT_eq
  rw [trim_lr, hL, ← hb]
  rcases h with h | h
  · rw [data_nil h]; rfl
  · exact h.symm
set_option maxHeartbeats 2000000 in
theorem refTrim_c (s : ByteArray) (w : World) (hs : s.size ≤ 140737488351232) :
    Calls Tryd.prog 27 #[.string s] w fun e w' => e = .returned (.string (bT (trimL s.data.toList))) ∧ w = w' := by
  go_enter Tryd.func27, Tryd.ntmps27
  go_wp2
  go_loop [0] (fun v => ∃ t : ByteArray, t.size ≤ s.size ∧ v = .string t ∧ Hid (lefL t.data.toList = lefL s.data.toList)) szV
  case atStart => exact ⟨s, Nat.le_refl _, rfl, Lib.hid rfl⟩
  case round =>
    obtain ⟨t, ht, rfl, ha⟩ := hrel
    have c0 := left_cases t
    rcases c0 with h0 | ⟨h0, h1, h2⟩ | ⟨h0, h1, h2, h3⟩
    · have hL := Lib.hid (show lefL s.data.toList = t.data.toList by
        rw [← ha.out, data_nil h0]; rfl)
      have h1 : (t.size : Int) = 0 := by omega
      go_wp2
      go_loop [0] (fun v => ∃ r : ByteArray, r.size ≤ t.size ∧ v = .string r ∧ Hid (rigL r.data.toList = rigL t.data.toList)) szV
      case atStart => exact ⟨t, Nat.le_refl _, rfl, Lib.hid rfl⟩
      case round =>
        obtain ⟨r, hr, rfl, hb⟩ := hrel
        rcases right_cases r with k0 | ⟨k0, k1, k2⟩ | ⟨k0, k1, k2, k3⟩
        · have HE := Lib.hid (trim_end hL.out hb.out (Or.inl k0))
          have k1 : (r.size : Int) = 0 := by omega
          go_wp2
          go_ret
          exact ⟨congrArg (fun x => Ending.returned (.string x)) HE.out, rfl⟩
        · exfalso; omega
        · exfalso; omega
    · have hx : (1 : Int) ≤ (t.size : Int) := by omega
      have H2 := Lib.hid (h2.trans ha.out)
      have hz : (t.extract 1 t.size).size = t.size - 1 := by rw [ByteArray.size_extract]; omega
      clear h2
      rcases h1 with h1 | h1
      · have hq : ((t[0].toNat : Int) == 32) = true := by rw [h1]; rfl
        clear h1
        go_wp2
        go_round
        case rel => exact ⟨t.extract 1 t.size, by omega, rfl, H2⟩
        case measure => show (t.extract 1 t.size).size < t.size; omega
      · have hq : ((t[0].toNat : Int) == 32) = false := by rw [h1]; rfl
        have hq2 : ((t[0].toNat : Int) == 9) = true := by rw [h1]; rfl
        clear h1
        go_wp2
        go_round
        case rel => exact ⟨t.extract 1 t.size, by omega, rfl, H2⟩
        case measure => show (t.extract 1 t.size).size < t.size; omega
    · have hL := Lib.hid (show lefL s.data.toList = t.data.toList by rw [← ha.out, h3])
      have hx : (1 : Int) ≤ (t.size : Int) := by omega
      have hq : ((t[0].toNat : Int) == 32) = false := beq_eq_false_iff_ne.2 h1
      have hq2 : ((t[0].toNat : Int) == 9) = false := beq_eq_false_iff_ne.2 h2
      clear h1 h2 h3
      go_wp2
      go_loop [0] (fun v => ∃ r : ByteArray, r.size ≤ t.size ∧ v = .string r ∧ Hid (rigL r.data.toList = rigL t.data.toList)) szV
      case atStart => exact ⟨t, Nat.le_refl _, rfl, Lib.hid rfl⟩
      case round =>
        obtain ⟨r, hr, rfl, hb⟩ := hrel
        rcases right_cases r with k0 | ⟨k0, k1, k2⟩ | ⟨k0, k1, k2, k3⟩
        · have HE := Lib.hid (trim_end hL.out hb.out (Or.inl k0))
          have k1 : (r.size : Int) = 0 := by omega
          go_wp2
          go_ret
          exact ⟨congrArg (fun x => Ending.returned (.string x)) HE.out, rfl⟩
        · have kz : (r.extract 0 (r.size - 1)).size = r.size - 1 := by rw [ByteArray.size_extract]; omega
          have K2 := Lib.hid (k2.trans hb.out)
          have e2 : ((r.size : Int) - 1).toNat = r.size - 1 := by omega
          have e3 : (1 : Int) ≤ (r.size : Int) := by omega
          have e4 : IntKind.i64.wrap ((r.size : Int) - 1) = (r.size : Int) - 1 := by rw [IntKind.wrap_i64]; omega
          clear k2
          rcases k1 with k1 | k1
          · have kq : ((r[r.size - 1].toNat : Int) == 32) = true := by rw [k1]; rfl
            clear k1
            go_wp2
            exact ⟨⟨r.extract 0 (r.size - 1), by omega, rfl, K2⟩, by show (r.extract 0 (r.size - 1)).size < r.size; omega⟩
          · have kq : ((r[r.size - 1].toNat : Int) == 32) = false := by rw [k1]; rfl
            have kq2 : ((r[r.size - 1].toNat : Int) == 9) = true := by rw [k1]; rfl
            clear k1
            go_wp2
            exact ⟨⟨r.extract 0 (r.size - 1), by omega, rfl, K2⟩, by show (r.extract 0 (r.size - 1)).size < r.size; omega⟩
        · have HE := Lib.hid (trim_end hL.out hb.out (Or.inr k3))
          have e2 : ((r.size : Int) - 1).toNat = r.size - 1 := by omega
          have e3 : (1 : Int) ≤ (r.size : Int) := by omega
          have e4 : IntKind.i64.wrap ((r.size : Int) - 1) = (r.size : Int) - 1 := by rw [IntKind.wrap_i64]; omega
          have kq : ((r[r.size - 1].toNat : Int) == 32) = false := beq_eq_false_iff_ne.2 k1
          have kq2 : ((r[r.size - 1].toNat : Int) == 9) = false := beq_eq_false_iff_ne.2 k2
          clear k1 k2 k3
          go_wp2
          go_ret
          exact ⟨congrArg (fun x => Ending.returned (.string x)) HE.out, rfl⟩

theorem part_first (l : List UInt8) : partB l = true ↔ l ≠ [] ∧ firstN l 59 = l.length ∧ firstN l 62 = l.length ∧ firstN l 60 = l.length ∧ firstN l 40 = l.length ∧ firstN l 41 = l.length := by
  simp only [first_is]
  unfold partB
  rw [Bool.and_eq_true, Bool.not_eq_true', Bool.not_eq_true', List.any_eq_false]
  constructor
  · rintro ⟨h1, h2⟩
    exact ⟨fun e => (by rw [e] at h1; cases h1), fun e => h2 _ e rfl, fun e => h2 _ e rfl, fun e => h2 _ e rfl, fun e => h2 _ e rfl, fun e => h2 _ e rfl⟩
  · rintro ⟨h1, h2, h3, h4, h5, h6⟩
    refine ⟨by cases l with | nil => exact absurd rfl h1 | cons _ _ => rfl, fun c hc hs => ?_⟩
    unfold signB at hs
    simp only [Bool.or_eq_true, decide_eq_true_eq] at hs
    rcases hs with (((rfl | rfl) | rfl) | rfl) | rfl
    · exact h2 hc
    · exact h3 hc
    · exact h4 hc
    · exact h5 hc
    · exact h6 hc
set_option maxHeartbeats 2000000 in
theorem refPart_c (s : ByteArray) (w : World) (hs : s.size ≤ 140737488351232) :
    Calls Tryd.prog 28 #[.string s] w fun e w' => e = .returned (.bool (partB s.data.toList)) ∧ w = w' := by
  have hl : s.data.toList.length = s.size := by simp
  by_cases h : s = ⟨#[]⟩
  · subst h
    go_enter Tryd.func28, Tryd.ntmps28
    go_wp2
    go_ret
    exact ⟨rfl, rfl⟩
  · obtain ⟨h1, h2⟩ := ne_empty h
    have hp := part_first s.data.toList
    have hB : partB s.data.toList = (((((decide (firstN s.data.toList 59 = s.size) && decide (firstN s.data.toList 62 = s.size)) && decide (firstN s.data.toList 60 = s.size)) && decide (firstN s.data.toList 40 = s.size)) && decide (firstN s.data.toList 41 = s.size))) := by
      rw [Bool.eq_iff_iff, hp, hl]
      simp only [Bool.and_eq_true, decide_eq_true_eq]
      exact ⟨fun ⟨_, a, b, c, d, e⟩ => ⟨⟨⟨⟨a, b⟩, c⟩, d⟩, e⟩, fun ⟨⟨⟨⟨a, b⟩, c⟩, d⟩, e⟩ => ⟨h2, a, b, c, d, e⟩⟩
    have q1 := fun w => first_c s 59 w hs
    have q2 := fun w => first_c s 62 w hs
    have q3 := fun w => first_c s 60 w hs
    have q4 := fun w => first_c s 40 w hs
    have q5 := fun w => first_c s 41 w hs
    rw [hB]
    clear hB hp h2 h hl
    simp only [show (((59 : UInt8).toNat : Nat) : Int) = 59 from rfl, show (((62 : UInt8).toNat : Nat) : Int) = 62 from rfl, show (((60 : UInt8).toNat : Nat) : Int) = 60 from rfl, show (((40 : UInt8).toNat : Nat) : Int) = 40 from rfl, show (((41 : UInt8).toNat : Nat) : Int) = 41 from rfl] at q1 q2 q3 q4 q5
    generalize firstN s.data.toList 59 = n1 at *
    generalize firstN s.data.toList 62 = n2 at *
    generalize firstN s.data.toList 60 = n3 at *
    generalize firstN s.data.toList 40 = n4 at *
    generalize firstN s.data.toList 41 = n5 at *
    have fact : ∀ n : Nat, (n = s.size → decide (n = s.size) = true ∧ ((n : Int) == (s.size : Int)) = true) ∧ (¬ n = s.size → decide (n = s.size) = false ∧ ((n : Int) == (s.size : Int)) = false) := fun n =>
      ⟨fun e => ⟨decide_eq_true e, by rw [beq_iff_eq]; omega⟩, fun e => ⟨decide_eq_false e, by rw [beq_eq_false_iff_ne]; omega⟩⟩
    have FA := Lib.hid fact
    clear fact
    by_cases e1 : n1 = s.size
    · obtain ⟨d1, b1⟩ := (FA.out n1).1 e1
      by_cases e2 : n2 = s.size
      · obtain ⟨d2, b2⟩ := (FA.out n2).1 e2
        by_cases e3 : n3 = s.size
        · obtain ⟨d3, b3⟩ := (FA.out n3).1 e3
          by_cases e4 : n4 = s.size
          · obtain ⟨d4, b4⟩ := (FA.out n4).1 e4
            by_cases e5 : n5 = s.size
            · obtain ⟨d5, b5⟩ := (FA.out n5).1 e5
              rw [d1, d2, d3, d4, d5]
              clear e1 e2 e3 e4 e5 d1 d2 d3 d4 d5
              go_enter Tryd.func28, Tryd.ntmps28
              go_wp2_with (first
                | (go_at_call 26; (with_reducible refine (q1 _).mono ?_); rintro e w2 ⟨rfl, rfl⟩)
                | (go_at_call 26; (with_reducible refine (q2 _).mono ?_); rintro e w2 ⟨rfl, rfl⟩)
                | (go_at_call 26; (with_reducible refine (q3 _).mono ?_); rintro e w2 ⟨rfl, rfl⟩)
                | (go_at_call 26; (with_reducible refine (q4 _).mono ?_); rintro e w2 ⟨rfl, rfl⟩)
                | (go_at_call 26; (with_reducible refine (q5 _).mono ?_); rintro e w2 ⟨rfl, rfl⟩))
              go_ret
              exact ⟨rfl, rfl⟩
            · obtain ⟨d5, b5⟩ := (FA.out n5).2 e5
              rw [d1, d2, d3, d4, d5]
              clear e1 e2 e3 e4 e5 d1 d2 d3 d4 d5
              go_enter Tryd.func28, Tryd.ntmps28
              go_wp2_with (first
                | (go_at_call 26; (with_reducible refine (q1 _).mono ?_); rintro e w2 ⟨rfl, rfl⟩)
                | (go_at_call 26; (with_reducible refine (q2 _).mono ?_); rintro e w2 ⟨rfl, rfl⟩)
                | (go_at_call 26; (with_reducible refine (q3 _).mono ?_); rintro e w2 ⟨rfl, rfl⟩)
                | (go_at_call 26; (with_reducible refine (q4 _).mono ?_); rintro e w2 ⟨rfl, rfl⟩)
                | (go_at_call 26; (with_reducible refine (q5 _).mono ?_); rintro e w2 ⟨rfl, rfl⟩))
              go_ret
              exact ⟨rfl, rfl⟩
          · obtain ⟨d4, b4⟩ := (FA.out n4).2 e4
            rw [d1, d2, d3, d4, Bool.and_false, Bool.false_and]
            clear e1 e2 e3 e4 d1 d2 d3 d4
            go_enter Tryd.func28, Tryd.ntmps28
            go_wp2_with (first
              | (go_at_call 26; (with_reducible refine (q1 _).mono ?_); rintro e w2 ⟨rfl, rfl⟩)
              | (go_at_call 26; (with_reducible refine (q2 _).mono ?_); rintro e w2 ⟨rfl, rfl⟩)
              | (go_at_call 26; (with_reducible refine (q3 _).mono ?_); rintro e w2 ⟨rfl, rfl⟩)
              | (go_at_call 26; (with_reducible refine (q4 _).mono ?_); rintro e w2 ⟨rfl, rfl⟩)
              | (go_at_call 26; (with_reducible refine (q5 _).mono ?_); rintro e w2 ⟨rfl, rfl⟩))
            go_ret
            exact ⟨rfl, rfl⟩
        · obtain ⟨d3, b3⟩ := (FA.out n3).2 e3
          rw [d1, d2, d3, Bool.and_false, Bool.false_and, Bool.false_and]
          clear e1 e2 e3 d1 d2 d3
          go_enter Tryd.func28, Tryd.ntmps28
          go_wp2_with (first
            | (go_at_call 26; (with_reducible refine (q1 _).mono ?_); rintro e w2 ⟨rfl, rfl⟩)
            | (go_at_call 26; (with_reducible refine (q2 _).mono ?_); rintro e w2 ⟨rfl, rfl⟩)
            | (go_at_call 26; (with_reducible refine (q3 _).mono ?_); rintro e w2 ⟨rfl, rfl⟩)
            | (go_at_call 26; (with_reducible refine (q4 _).mono ?_); rintro e w2 ⟨rfl, rfl⟩)
            | (go_at_call 26; (with_reducible refine (q5 _).mono ?_); rintro e w2 ⟨rfl, rfl⟩))
          go_ret
          exact ⟨rfl, rfl⟩
      · obtain ⟨d2, b2⟩ := (FA.out n2).2 e2
        rw [d1, d2, Bool.and_false, Bool.false_and, Bool.false_and, Bool.false_and]
        clear e1 e2 d1 d2
        go_enter Tryd.func28, Tryd.ntmps28
        go_wp2_with (first
          | (go_at_call 26; (with_reducible refine (q1 _).mono ?_); rintro e w2 ⟨rfl, rfl⟩)
          | (go_at_call 26; (with_reducible refine (q2 _).mono ?_); rintro e w2 ⟨rfl, rfl⟩)
          | (go_at_call 26; (with_reducible refine (q3 _).mono ?_); rintro e w2 ⟨rfl, rfl⟩)
          | (go_at_call 26; (with_reducible refine (q4 _).mono ?_); rintro e w2 ⟨rfl, rfl⟩)
          | (go_at_call 26; (with_reducible refine (q5 _).mono ?_); rintro e w2 ⟨rfl, rfl⟩))
        go_ret
        exact ⟨rfl, rfl⟩
    · obtain ⟨d1, b1⟩ := (FA.out n1).2 e1
      rw [d1, Bool.false_and, Bool.false_and, Bool.false_and, Bool.false_and]
      clear e1 d1
      go_enter Tryd.func28, Tryd.ntmps28
      go_wp2_with (first
        | (go_at_call 26; (with_reducible refine (q1 _).mono ?_); rintro e w2 ⟨rfl, rfl⟩)
        | (go_at_call 26; (with_reducible refine (q2 _).mono ?_); rintro e w2 ⟨rfl, rfl⟩)
        | (go_at_call 26; (with_reducible refine (q3 _).mono ?_); rintro e w2 ⟨rfl, rfl⟩)
        | (go_at_call 26; (with_reducible refine (q4 _).mono ?_); rintro e w2 ⟨rfl, rfl⟩)
        | (go_at_call 26; (with_reducible refine (q5 _).mono ?_); rintro e w2 ⟨rfl, rfl⟩))
      go_ret
      exact ⟨rfl, rfl⟩
end Go.Proofs.YtdbhlnokhfflmaaDoor
