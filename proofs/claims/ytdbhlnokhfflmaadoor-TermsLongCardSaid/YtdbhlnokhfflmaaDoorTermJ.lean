import Derived.Test.YtdbhlnokhfflmaaDoorTermI
import Derived.Test.YtdbhlnokhfflmaaDoorRefLower
namespace Go.Proofs.YtdbhlnokhfflmaaDoor
open Go.RowKit
set_option maxRecDepth 100000

/-! ### the document's answer: Text -/
theorem str_eq {a b : ByteArray} : (a.toList == b.toList) = decide (a = b) := by
  rw [Bool.eq_iff_iff, beq_iff_eq, decide_eq_true_eq, Lib.toList_data, Lib.toList_data]
  exact ⟨fun h => by rw [← bT_data a, ← bT_data b, h], fun h => by rw [h]⟩
theorem bT_parts {p q : Parts} (h1 : bT p.1 = bT q.1) (h2 : bT p.2.1 = bT q.2.1) (h3 : bT p.2.2 = bT q.2.2) : p = q := Prod.ext (bT_inj h1) (Prod.ext (bT_inj h2) (bT_inj h3))
set_option maxHeartbeats 2000000 in
theorem refText_ee (a b c t : ByteArray) (v r : Value) (w : World) (hs : a.size + b.size + c.size ≤ 1048576)  (ht : a = t)
    (HR : Hid (∀ w, Calls Tryd.prog 19 #[.string t] w fun e w' => e = .returned v ∧ w = w'))
    (hv : (v = parseV none ∧ r = textV none) ∨ ∃ x y z : ByteArray, v = .tuple #[.string x, .string y, .string z, .int .i64 0] ∧ ((x = a ∧ y = ⟨#[]⟩ ∧ z = ⟨#[]⟩ ∧ r = .tuple #[.string t, .int .i64 0]) ∨ (¬ (x = a ∧ y = ⟨#[]⟩ ∧ z = ⟨#[]⟩) ∧ r = textV none))) :
    Calls Tryd.prog 11 #[.string a, .string ⟨#[]⟩, .string ⟨#[]⟩] w fun e w' => e = .returned r ∧ w = w' := by
  subst ht
  rcases hv with ⟨rfl, rfl⟩ | ⟨x, y, z, rfl, ⟨rfl, rfl, rfl, rfl⟩ | ⟨hn, rfl⟩⟩
  · unfold parseV at HR
    unfold textV
    go_enter Tryd.func11, Tryd.ntmps11
    go_wp2_with (go_at_call 19; (with_reducible refine (HR.out _).mono ?_); rintro e w2 ⟨rfl, rfl⟩)
    go_ret2
    exact ⟨rfl, rfl⟩
  · have k1 : (x.toList == x.toList) = true := by simp
    have k2 : ((⟨#[]⟩ : ByteArray).toList == (⟨#[]⟩ : ByteArray).toList) = true := by simp
    have k3 : ((⟨#[]⟩ : ByteArray).toList == (⟨#[]⟩ : ByteArray).toList) = true := by simp
    go_enter Tryd.func11, Tryd.ntmps11
    go_wp2_with (go_at_call 19; (with_reducible refine (HR.out _).mono ?_); rintro e w2 ⟨rfl, rfl⟩)
    go_ret2
    exact ⟨rfl, rfl⟩
  · unfold textV
    by_cases k1 : x = a
    · by_cases k2 : y = ⟨#[]⟩
      · have k3 : ¬ z = ⟨#[]⟩ := fun e => hn ⟨k1, k2, e⟩
        have k4 : z.toList.isEmpty = false := (ne_empty k3).1
        subst k1
        subst k2
        clear hn k3
        go_enter Tryd.func11, Tryd.ntmps11
        go_wp2_with (go_at_call 19; (with_reducible refine (HR.out _).mono ?_); rintro e w2 ⟨rfl, rfl⟩)
        go_ret2
        exact ⟨rfl, rfl⟩
      · have k4 : y.toList.isEmpty = false := (ne_empty k2).1
        subst k1
        clear hn k2
        go_enter Tryd.func11, Tryd.ntmps11
        go_wp2_with (go_at_call 19; (with_reducible refine (HR.out _).mono ?_); rintro e w2 ⟨rfl, rfl⟩)
        go_ret2
        exact ⟨rfl, rfl⟩
    · have k4 : (x.toList == a.toList) = false := by rw [str_eq]; exact decide_eq_false k1
      clear hn k1
      go_enter Tryd.func11, Tryd.ntmps11
      go_wp2_with (go_at_call 19; (with_reducible refine (HR.out _).mono ?_); rintro e w2 ⟨rfl, rfl⟩)
      go_ret2
      exact ⟨rfl, rfl⟩
set_option maxHeartbeats 2000000 in
theorem refText_be (a b c t : ByteArray) (v r : Value) (w : World) (hs : a.size + b.size + c.size ≤ 1048576) (hb : ¬ b = ⟨#[]⟩) (ht : (a ++ ⟨#[59]⟩) ++ b = t)
    (HR : Hid (∀ w, Calls Tryd.prog 19 #[.string t] w fun e w' => e = .returned v ∧ w = w'))
    (hv : (v = parseV none ∧ r = textV none) ∨ ∃ x y z : ByteArray, v = .tuple #[.string x, .string y, .string z, .int .i64 0] ∧ ((x = a ∧ y = b ∧ z = ⟨#[]⟩ ∧ r = .tuple #[.string t, .int .i64 0]) ∨ (¬ (x = a ∧ y = b ∧ z = ⟨#[]⟩) ∧ r = textV none))) :
    Calls Tryd.prog 11 #[.string a, .string b, .string ⟨#[]⟩] w fun e w' => e = .returned r ∧ w = w' := by
  have h1 := (ne_empty hb).1
  have s1 : ¬ 9223372036854775807 < a.size + (⟨#[59]⟩ : ByteArray).size := by rw [one_size]; omega
  obtain ⟨m, hm⟩ : ∃ m, a ++ (⟨#[59]⟩ : ByteArray) = m := ⟨_, rfl⟩
  have hmz : m.size = a.size + 1 := by rw [← hm, ba_size, one_size]
  have s2 : ¬ 9223372036854775807 < m.size + b.size := by omega
  rw [hm] at ht
  clear hmz hb
  rcases hv with ⟨rfl, rfl⟩ | ⟨x, y, z, rfl, ⟨rfl, rfl, rfl, rfl⟩ | ⟨hn, rfl⟩⟩
  · unfold parseV at HR
    unfold textV
    go_enter Tryd.func11, Tryd.ntmps11
    go_wp2_with (go_at_call 19; (with_reducible refine (HR.out _).mono ?_); rintro e w2 ⟨rfl, rfl⟩)
    go_ret2
    exact ⟨rfl, rfl⟩
  · have k1 : (x.toList == x.toList) = true := by simp
    have k2 : ((y : ByteArray).toList == (y : ByteArray).toList) = true := by simp
    have k3 : ((⟨#[]⟩ : ByteArray).toList == (⟨#[]⟩ : ByteArray).toList) = true := by simp
    go_enter Tryd.func11, Tryd.ntmps11
    go_wp2_with (go_at_call 19; (with_reducible refine (HR.out _).mono ?_); rintro e w2 ⟨rfl, rfl⟩)
    go_ret2
    exact ⟨rfl, rfl⟩
  · unfold textV
    by_cases k1 : x = a
    · by_cases k2 : y = b
      · have k3 : ¬ z = ⟨#[]⟩ := fun e => hn ⟨k1, k2, e⟩
        have k4 : z.toList.isEmpty = false := (ne_empty k3).1
        subst k1
        subst k2
        clear hn k3
        go_enter Tryd.func11, Tryd.ntmps11
        go_wp2_with (go_at_call 19; (with_reducible refine (HR.out _).mono ?_); rintro e w2 ⟨rfl, rfl⟩)
        go_ret2
        exact ⟨rfl, rfl⟩
      · have k4 : (y.toList == b.toList) = false := by rw [str_eq]; exact decide_eq_false k2
        subst k1
        clear hn k2
        go_enter Tryd.func11, Tryd.ntmps11
        go_wp2_with (go_at_call 19; (with_reducible refine (HR.out _).mono ?_); rintro e w2 ⟨rfl, rfl⟩)
        go_ret2
        exact ⟨rfl, rfl⟩
    · have k4 : (x.toList == a.toList) = false := by rw [str_eq]; exact decide_eq_false k1
      clear hn k1
      go_enter Tryd.func11, Tryd.ntmps11
      go_wp2_with (go_at_call 19; (with_reducible refine (HR.out _).mono ?_); rintro e w2 ⟨rfl, rfl⟩)
      go_ret2
      exact ⟨rfl, rfl⟩
set_option maxHeartbeats 2000000 in
theorem refText_ec (a b c t : ByteArray) (v r : Value) (w : World) (hs : a.size + b.size + c.size ≤ 1048576) (hc : ¬ c = ⟨#[]⟩) (ht : (a ++ ⟨#[62]⟩) ++ c = t)
    (HR : Hid (∀ w, Calls Tryd.prog 19 #[.string t] w fun e w' => e = .returned v ∧ w = w'))
    (hv : (v = parseV none ∧ r = textV none) ∨ ∃ x y z : ByteArray, v = .tuple #[.string x, .string y, .string z, .int .i64 0] ∧ ((x = a ∧ y = ⟨#[]⟩ ∧ z = c ∧ r = .tuple #[.string t, .int .i64 0]) ∨ (¬ (x = a ∧ y = ⟨#[]⟩ ∧ z = c) ∧ r = textV none))) :
    Calls Tryd.prog 11 #[.string a, .string ⟨#[]⟩, .string c] w fun e w' => e = .returned r ∧ w = w' := by
  have h2 := (ne_empty hc).1
  have s3 : ¬ 9223372036854775807 < a.size + (⟨#[62]⟩ : ByteArray).size := by rw [one_size]; omega
  obtain ⟨m, hm⟩ : ∃ m, a ++ (⟨#[62]⟩ : ByteArray) = m := ⟨_, rfl⟩
  have hmz : m.size = a.size + 1 := by rw [← hm, ba_size, one_size]
  have s4 : ¬ 9223372036854775807 < m.size + c.size := by omega
  rw [hm] at ht
  clear hmz hc
  rcases hv with ⟨rfl, rfl⟩ | ⟨x, y, z, rfl, ⟨rfl, rfl, rfl, rfl⟩ | ⟨hn, rfl⟩⟩
  · unfold parseV at HR
    unfold textV
    go_enter Tryd.func11, Tryd.ntmps11
    go_wp2_with (go_at_call 19; (with_reducible refine (HR.out _).mono ?_); rintro e w2 ⟨rfl, rfl⟩)
    go_ret2
    exact ⟨rfl, rfl⟩
  · have k1 : (x.toList == x.toList) = true := by simp
    have k2 : ((⟨#[]⟩ : ByteArray).toList == (⟨#[]⟩ : ByteArray).toList) = true := by simp
    have k3 : ((z : ByteArray).toList == (z : ByteArray).toList) = true := by simp
    go_enter Tryd.func11, Tryd.ntmps11
    go_wp2_with (go_at_call 19; (with_reducible refine (HR.out _).mono ?_); rintro e w2 ⟨rfl, rfl⟩)
    go_ret2
    exact ⟨rfl, rfl⟩
  · unfold textV
    by_cases k1 : x = a
    · by_cases k2 : y = ⟨#[]⟩
      · have k3 : ¬ z = c := fun e => hn ⟨k1, k2, e⟩
        have k4 : (z.toList == c.toList) = false := by rw [str_eq]; exact decide_eq_false k3
        subst k1
        subst k2
        clear hn k3
        go_enter Tryd.func11, Tryd.ntmps11
        go_wp2_with (go_at_call 19; (with_reducible refine (HR.out _).mono ?_); rintro e w2 ⟨rfl, rfl⟩)
        go_ret2
        exact ⟨rfl, rfl⟩
      · have k4 : y.toList.isEmpty = false := (ne_empty k2).1
        subst k1
        clear hn k2
        go_enter Tryd.func11, Tryd.ntmps11
        go_wp2_with (go_at_call 19; (with_reducible refine (HR.out _).mono ?_); rintro e w2 ⟨rfl, rfl⟩)
        go_ret2
        exact ⟨rfl, rfl⟩
    · have k4 : (x.toList == a.toList) = false := by rw [str_eq]; exact decide_eq_false k1
      clear hn k1
      go_enter Tryd.func11, Tryd.ntmps11
      go_wp2_with (go_at_call 19; (with_reducible refine (HR.out _).mono ?_); rintro e w2 ⟨rfl, rfl⟩)
      go_ret2
      exact ⟨rfl, rfl⟩
set_option maxHeartbeats 2000000 in
theorem refText_bc (a b c t : ByteArray) (v r : Value) (w : World) (hs : a.size + b.size + c.size ≤ 1048576) (hb : ¬ b = ⟨#[]⟩) (hc : ¬ c = ⟨#[]⟩) (ht : (((a ++ ⟨#[59]⟩) ++ b) ++ ⟨#[62]⟩) ++ c = t)
    (HR : Hid (∀ w, Calls Tryd.prog 19 #[.string t] w fun e w' => e = .returned v ∧ w = w'))
    (hv : (v = parseV none ∧ r = textV none) ∨ ∃ x y z : ByteArray, v = .tuple #[.string x, .string y, .string z, .int .i64 0] ∧ ((x = a ∧ y = b ∧ z = c ∧ r = .tuple #[.string t, .int .i64 0]) ∨ (¬ (x = a ∧ y = b ∧ z = c) ∧ r = textV none))) :
    Calls Tryd.prog 11 #[.string a, .string b, .string c] w fun e w' => e = .returned r ∧ w = w' := by
  have h1 := (ne_empty hb).1
  have s1 : ¬ 9223372036854775807 < a.size + (⟨#[59]⟩ : ByteArray).size := by rw [one_size]; omega
  obtain ⟨m, hm⟩ : ∃ m, a ++ (⟨#[59]⟩ : ByteArray) = m := ⟨_, rfl⟩
  have hmz : m.size = a.size + 1 := by rw [← hm, ba_size, one_size]
  have s2 : ¬ 9223372036854775807 < m.size + b.size := by omega
  rw [hm] at ht
  have h2 := (ne_empty hc).1
  obtain ⟨n, hn⟩ : ∃ n, m ++ b = n := ⟨_, rfl⟩
  have hnz : n.size = m.size + b.size := by rw [← hn, ba_size]
  have s3 : ¬ 9223372036854775807 < n.size + (⟨#[62]⟩ : ByteArray).size := by rw [one_size]; omega
  rw [hn] at ht
  obtain ⟨o, ho⟩ : ∃ o, n ++ (⟨#[62]⟩ : ByteArray) = o := ⟨_, rfl⟩
  have hoz : o.size = n.size + 1 := by rw [← ho, ba_size, one_size]
  have s4 : ¬ 9223372036854775807 < o.size + c.size := by omega
  rw [ho] at ht
  clear hmz hnz hoz hb hc
  rcases hv with ⟨rfl, rfl⟩ | ⟨x, y, z, rfl, ⟨rfl, rfl, rfl, rfl⟩ | ⟨hn, rfl⟩⟩
  · unfold parseV at HR
    unfold textV
    go_enter Tryd.func11, Tryd.ntmps11
    go_wp2_with (go_at_call 19; (with_reducible refine (HR.out _).mono ?_); rintro e w2 ⟨rfl, rfl⟩)
    go_ret2
    exact ⟨rfl, rfl⟩
  · have k1 : (x.toList == x.toList) = true := by simp
    have k2 : ((y : ByteArray).toList == (y : ByteArray).toList) = true := by simp
    have k3 : ((z : ByteArray).toList == (z : ByteArray).toList) = true := by simp
    go_enter Tryd.func11, Tryd.ntmps11
    go_wp2_with (go_at_call 19; (with_reducible refine (HR.out _).mono ?_); rintro e w2 ⟨rfl, rfl⟩)
    go_ret2
    exact ⟨rfl, rfl⟩
  · unfold textV
    by_cases k1 : x = a
    · by_cases k2 : y = b
      · have k3 : ¬ z = c := fun e => hn ⟨k1, k2, e⟩
        have k4 : (z.toList == c.toList) = false := by rw [str_eq]; exact decide_eq_false k3
        subst k1
        subst k2
        clear hn k3
        go_enter Tryd.func11, Tryd.ntmps11
        go_wp2_with (go_at_call 19; (with_reducible refine (HR.out _).mono ?_); rintro e w2 ⟨rfl, rfl⟩)
        go_ret2
        exact ⟨rfl, rfl⟩
      · have k4 : (y.toList == b.toList) = false := by rw [str_eq]; exact decide_eq_false k2
        subst k1
        clear hn k2
        go_enter Tryd.func11, Tryd.ntmps11
        go_wp2_with (go_at_call 19; (with_reducible refine (HR.out _).mono ?_); rintro e w2 ⟨rfl, rfl⟩)
        go_ret2
        exact ⟨rfl, rfl⟩
    · have k4 : (x.toList == a.toList) = false := by rw [str_eq]; exact decide_eq_false k1
      clear hn k1
      go_enter Tryd.func11, Tryd.ntmps11
      go_wp2_with (go_at_call 19; (with_reducible refine (HR.out _).mono ?_); rintro e w2 ⟨rfl, rfl⟩)
      go_ret2
      exact ⟨rfl, rfl⟩
theorem wr_left (a b c : ByteArray) : (¬ b = ⟨#[]⟩ → wrB a b ⟨#[]⟩ = (a ++ ⟨#[59]⟩) ++ b) ∧ (¬ c = ⟨#[]⟩ → wrB a ⟨#[]⟩ c = (a ++ ⟨#[62]⟩) ++ c) ∧ (¬ b = ⟨#[]⟩ → ¬ c = ⟨#[]⟩ → wrB a b c = (((a ++ ⟨#[59]⟩) ++ b) ++ ⟨#[62]⟩) ++ c) := by
  refine ⟨fun h => ?_, fun h => ?_, fun h h2 => ?_⟩
  · rw [wr_be a h, ByteArray.append_assoc]
  · rw [wr_ec a h, ByteArray.append_assoc]
  · rw [wr_bc a h h2, ByteArray.append_assoc, ByteArray.append_assoc, ByteArray.append_assoc, ByteArray.append_assoc, ByteArray.append_assoc]
theorem refText_c (a b c : ByteArray) (w : World) (hs : a.size + b.size + c.size ≤ 1048576) :
    Calls Tryd.prog 11 #[.string a, .string b, .string c] w fun e w' => e = .returned (textV (textL (a.data.toList, b.data.toList, c.data.toList))) ∧ w = w' := by
  have hz := wr_size a b c
  have HR := Lib.hid (fun w => refParse_c (wrB a b c) w (by omega))
  obtain ⟨P, hP⟩ : ∃ P : Parts, (a.data.toList, b.data.toList, c.data.toList) = P := ⟨_, rfl⟩
  have hd : (wrB a b c).data.toList = writeL P := by rw [← hP]; rfl
  have hw : bT (writeL P) = wrB a b c := by rw [← hP]; rfl
  have ha : bT P.1 = a := by rw [← hP]; exact bT_data a
  have hb : bT P.2.1 = b := by rw [← hP]; exact bT_data b
  have hc : bT P.2.2 = c := by rw [← hP]; exact bT_data c
  rw [hd] at HR
  rw [hP]
  have hv : (parseV (parseL (writeL P)) = parseV none ∧ textV (textL P) = textV none) ∨ ∃ x y z : ByteArray, parseV (parseL (writeL P)) = .tuple #[.string x, .string y, .string z, .int .i64 0] ∧
      ((x = a ∧ y = b ∧ z = c ∧ textV (textL P) = .tuple #[.string (wrB a b c), .int .i64 0]) ∨ (¬ (x = a ∧ y = b ∧ z = c) ∧ textV (textL P) = textV none)) := by
    unfold textL
    cases hp : parseL (writeL P) with
    | none => exact .inl ⟨rfl, rfl⟩
    | some q =>
      refine .inr ⟨bT q.1, bT q.2.1, bT q.2.2, rfl, ?_⟩
      by_cases e : q = P
      · rw [if_pos (by rw [e]), e, ← hw]
        exact .inl ⟨ha, hb, hc, rfl⟩
      · rw [if_neg (fun h => e (Option.some.inj h))]
        exact .inr ⟨fun ⟨h1, h2, h3⟩ => e (bT_parts (h1.trans ha.symm) (h2.trans hb.symm) (h3.trans hc.symm)), rfl⟩
  generalize parseV (parseL (writeL P)) = v at *
  generalize textV (textL P) = r at *
  obtain ⟨w1, w2, w3⟩ := wr_left a b c
  by_cases eb : b = ⟨#[]⟩
  · by_cases ec : c = ⟨#[]⟩
    · subst eb; subst ec
      exact refText_ee a ⟨#[]⟩ ⟨#[]⟩ _ v r w hs (wr_ee a).symm HR hv
    · subst eb
      exact refText_ec a ⟨#[]⟩ c _ v r w hs ec (w2 ec).symm HR hv
  · by_cases ec : c = ⟨#[]⟩
    · subst ec
      exact refText_be a b ⟨#[]⟩ _ v r w hs eb (w1 eb).symm HR hv
    · exact refText_bc a b c _ v r w hs eb ec (w3 eb ec).symm HR hv
end Go.Proofs.YtdbhlnokhfflmaaDoor
