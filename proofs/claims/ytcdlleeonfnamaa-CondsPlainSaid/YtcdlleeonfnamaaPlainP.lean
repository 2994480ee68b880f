/-
  CondsPlain: a text without braces stays as it is, and asks for nothing; two texts, of which the first one ends with none open, are filled by themselves; where the list is at most 1000 long, all its texts have at most 100000 bytes, and the two texts have at most 3000 bytes together; true is answered beyond. No conditions: every list of attributes and every two texts.
-/
import Derived.Test.YtcdlleeonfnamaaAlive
import Derived.Test.YtcdlleeonfnamaaFacts
import Derived.Test.YtcdlleeonfnamaaPair
import Derived.Test.YtcdlleeonfnamaaFillP
namespace Go.Proofs.Ytcdlleeonfnamaa.plainLaw
open Go.ChangeShapes Go.WideShapes Go.ChangeAt Go.RowKit
set_option maxRecDepth 100000

theorem cat_data (a b : ByteArray) : (a ++ b).data.toList = a.data.toList ++ b.data.toList := by rw [ByteArray.data_append]; simp
theorem cat_size (a b : ByteArray) : (a ++ b).size = a.size + b.size := ByteArray.size_append
theorem bT_append (a b : List UInt8) : bT (a ++ b) = bT a ++ bT b := by
  rw [← bT_data (bT a ++ bT b), cat_data]; rfl
def is123 (c : UInt8) : Bool := decide (c.toNat = 123)
theorem no_brace {s : List UInt8} (h : s.any is123 = false) : ∀ c ∈ s, ¬ c = 123 := by
  rintro c hc rfl
  have := List.any_eq_false.1 h _ hc
  revert this; decide
theorem go_len (l : List At) : ∀ (k : Nat) (t out : List UInt8) (asked : List (List UInt8)), t.length ≤ k → (goL l t out asked).2.length ≤ asked.length + t.length := by
  intro k
  induction k with
  | zero => intro t out asked h; have : t = [] := List.eq_nil_of_length_eq_zero (by omega); subst this; rw [go_nil]; simp
  | succ k ih =>
    intro t out asked h
    cases t with
    | nil => rw [go_nil]; simp
    | cons c t =>
      simp only [List.length_cons] at h ⊢
      cases e : askedL (c :: t) with
      | none => rw [go_plain e]; have := ih t (out ++ [c]) asked (by omega); omega
      | some nm =>
        rw [go_name e]
        have := ih (t.drop (nm.length + 1)) (out ++ valueL l nm) (if nm ∈ asked then asked else asked ++ [nm]) (by rw [List.length_drop]; omega)
        have h2 : (if nm ∈ asked then asked else asked ++ [nm]).length ≤ asked.length + 1 := by split <;> simp
        rw [List.length_drop] at this
        omega
theorem name_short {l : List UInt8} (h : nameB l = true) : l.length ≤ 60 := by
  unfold nameB at h
  simp only [Bool.and_eq_true, decide_eq_true_eq] at h
  exact h.1.1.2
theorem value_len (l : List At) (hl : Small l) (nm : List UInt8) (h : nm.length ≤ 60) : (valueL l nm).length ≤ 100000 := by
  unfold valueL
  cases hg : getL l (bT nm) with
  | none => simp; omega
  | some v =>
    unfold getL at hg
    cases hf : List.find? (fun a => a.1.toList == (bT nm).toList) l with
    | none => rw [hf] at hg; cases hg
    | some x =>
      rw [hf] at hg
      injection hg with hg
      have := sumL_mem l x (List.mem_of_find?_eq_some hf)
      have h2 := hl.2
      have h3 : v.data.toList.length = v.size := by simp
      show v.data.toList.length ≤ _
      rw [h3, ← hg]
      show x.2.size ≤ _
      omega
theorem asked_short {s nm : List UInt8} (h : askedL s = some nm) : nm.length ≤ 60 := by
  cases s with
  | nil => cases h
  | cons c t =>
    simp only [askedL] at h
    split at h
    · next hc => injection h with h; rw [← h]; exact name_short hc.2.2
    · cases h
theorem go_out (l : List At) (hl : Small l) : ∀ (k : Nat) (t out : List UInt8) (asked : List (List UInt8)), t.length ≤ k → (goL l t out asked).1.length ≤ out.length + t.length * 100000 := by
  intro k
  induction k with
  | zero => intro t out asked h; have : t = [] := List.eq_nil_of_length_eq_zero (by omega); subst this; rw [go_nil]; simp
  | succ k ih =>
    intro t out asked h
    cases t with
    | nil => rw [go_nil]; simp
    | cons c t =>
      simp only [List.length_cons] at h ⊢
      cases e : askedL (c :: t) with
      | none => rw [go_plain e]; have := ih t (out ++ [c]) asked (by omega); rw [List.length_append] at this; simp at this; omega
      | some nm =>
        rw [go_name e]
        have := ih (t.drop (nm.length + 1)) (out ++ valueL l nm) (if nm ∈ asked then asked else asked ++ [nm]) (by rw [List.length_drop]; omega)
        have h2 := value_len l hl nm (asked_short e)
        have h3 : (t.drop (nm.length + 1)).length ≤ t.length := by rw [List.length_drop]; omega
        rw [List.length_append] at this
        have h4 : (t.drop (nm.length + 1)).length * 100000 ≤ t.length * 100000 := Nat.mul_le_mul_right _ h3
        omega
theorem fill_size (l : List At) (s : List UInt8) (hl : Small l) : (fillL l s).1.length ≤ s.length * 100000 := by
  have := go_out l hl s.length s [] [] (Nat.le_refl _)
  simpa [fillL, goL] using this
theorem fill_len (l : List At) (s : List UInt8) : (fillL l s).2.length ≤ s.length := by
  have := go_len l s.length s [] [] (Nat.le_refl _)
  simpa [fillL, goL] using this

set_option maxHeartbeats 4000000 in
theorem walk (w : World) (v : Value) (l : List At) (hA0 : Attrs w v l) (s : ByteArray) (_hs : s.size ≤ maxLen) (hr : s.size ≤ 140737488351232) (t : ByteArray) (_ht : t.size ≤ maxLen) (hrt : t.size ≤ 140737488351232) :
    Calls Try.prog 6 #[v, .string s, .string t] w fun e w' => e = .returned (.bool true) ∧ Below w.heap.size w w' := by
  by_cases hz1 : s.size + t.size ≤ 3000
  · have HSZ := Lib.hid (show s.data.toList.length = s.size by simp)
    go_enter Try.func6, Try.ntmps6
    go_wp2_with fail
    refine (alive_any w _ (Below.refl _ _)).mono ?_
    rintro e w1 ⟨rfl, hb1, hk1⟩
    have hA := hA0.below hk1
    go_wp2_with fail
    refine (great_c v l s w w1 hb1 hA hr).mono ?_
    rintro e w2 ⟨g, rfl, hsm, hb2, hk2⟩
    have hA := hA.below hk2
    clear hA0 hb1 hk1 hk2
    cases g with
    | true =>
      go_wp2_with fail
      refine (alive_any w w2 hb2).mono ?_
      rintro e w3 ⟨rfl, hb3, hk3⟩
      go_wp2
      go_ret
      exact ⟨rfl, hb3⟩
    | false =>
      obtain ⟨hl1, hnz0⟩ := hsm rfl
      clear hsm
      go_wp2
      go_loopw [7, 8, 9] (fun o b i wr => ∃ k : Nat, k ≤ s.size ∧ i = .int .i64 k ∧ o = .bool (opn false (s.data.toList.take k)) ∧ b = .bool ((s.data.toList.take k).any is123) ∧ wr = w2) (fun _ _ i _ => s.size - (intOf i).toNat)
      case atStart => exact ⟨0, by omega, rfl, rfl, rfl, rfl⟩
      case round =>
        obtain ⟨k, hk, rfl, rfl, rfl, rfl⟩ := hrel
        obtain ⟨o, ho⟩ : ∃ o : Bool, opn false (s.data.toList.take k) = o := ⟨_, rfl⟩
        obtain ⟨b, hb⟩ : ∃ b : Bool, (s.data.toList.take k).any is123 = b := ⟨_, rfl⟩
        have HO := Lib.hid ho
        have HB := Lib.hid hb
        rw [ho, hb]
        clear ho hb
        by_cases hlt : k < s.size
        · have HT : Hid (opn false (s.data.toList.take (k + 1)) = (decide (s[k].toNat = 123) || (o && !decide (s[k].toNat = 125)))) := Lib.hid (by
            rw [List.take_succ_eq_append_getElem (by simpa using hlt), opn_snoc, HO.out]; rfl)
          have HU : Hid ((s.data.toList.take (k + 1)).any is123 = (b || decide (s[k].toNat = 123))) := Lib.hid (by
            rw [List.take_succ_eq_append_getElem (by simpa using hlt), List.any_append, HB.out]; simp [is123]; rfl)
          by_cases h1 : (s[k].toNat : Int) = 123
          · have e1 : ((s[k].toNat : Int) == 123) = true := by simp [h1]
            have H1 : Hid (decide (s[k].toNat = 123) = true) := Lib.hid (by simp; omega)
            clear h1
            cases b
            all_goals
              go_wp2
              refine ⟨⟨k + 1, by omega, by go_num, ?_, ?_, trivial⟩, by simp [intOf]; omega⟩
              · rw [HT.out, H1.out]; rfl
              · rw [HU.out, H1.out]; rfl
          · have e1 : ((s[k].toNat : Int) == 123) = false := by simpa using h1
            have H1 : Hid (decide (s[k].toNat = 123) = false) := Lib.hid (by simp; omega)
            by_cases h2 : (s[k].toNat : Int) = 125
            · have e2 : ((s[k].toNat : Int) != 125) = false := by simp [h2]
              have H2 : Hid (decide (s[k].toNat = 125) = true) := Lib.hid (by simp; omega)
              clear h1 h2
              cases o <;> cases b
              all_goals
                go_wp2
                refine ⟨⟨k + 1, by omega, by go_num, ?_, ?_, trivial⟩, by simp [intOf]; omega⟩
                · rw [HT.out, H1.out, H2.out]; rfl
                · rw [HU.out, H1.out]; rfl
            · have e2 : ((s[k].toNat : Int) != 125) = true := by simpa using h2
              have H2 : Hid (decide (s[k].toNat = 125) = false) := Lib.hid (by simp; omega)
              clear h1 h2
              cases o <;> cases b
              all_goals
                go_wp2
                refine ⟨⟨k + 1, by omega, by go_num, ?_, ?_, trivial⟩, by simp [intOf]; omega⟩
                · rw [HT.out, H1.out, H2.out]; rfl
                · rw [HU.out, H1.out]; rfl
        · have hall : s.data.toList.take k = s.data.toList := List.take_of_length_le (by rw [HSZ.out]; omega)
          rw [hall] at HO HB
          have hst : (s ++ t).size ≤ 100000 := by rw [cat_size]; omega
          have HST := Lib.hid hst
          have HCD := Lib.hid (cat_data s t)
          have hl2 := fill_len l s.data.toList
          have hl3 := fill_len l t.data.toList
          have hl4 := fill_len l (s ++ t).data.toList
          have hl5 : (s ++ t).data.toList.length ≤ 100000 := by have : (s ++ t).data.toList.length = (s ++ t).size := by simp
                                                                omega
          have hl6 : t.data.toList.length ≤ 3000 := by have : t.data.toList.length = t.size := by simp
                                                       omega
          have hl7 : s.data.toList.length ≤ 3000 := by have : s.data.toList.length = s.size := by simp
                                                       omega
          have hsz : s.size ≤ 100000 := by omega
          have htz : t.size ≤ 100000 := by omega
          obtain ⟨A, xs, hf1⟩ : ∃ A xs, fillL l s.data.toList = (A, xs) := ⟨_, _, rfl⟩
          obtain ⟨B, ys, hf2⟩ : ∃ B ys, fillL l t.data.toList = (B, ys) := ⟨_, _, rfl⟩
          obtain ⟨C, zs, hf3⟩ : ∃ C zs, fillL l (s ++ t).data.toList = (C, zs) := ⟨_, _, rfl⟩
          have hAz := fill_size l s.data.toList hl1
          have hBz := fill_size l t.data.toList hl1
          rw [hf1] at hl2 hAz
          rw [hf2] at hl3 hBz
          rw [hf3] at hl4
          simp only at hl2 hl3 hl4 hAz hBz
          have hAz2 : (bT A).size ≤ 10000000000 := Nat.le_trans hAz (by omega)
          have hBz2 : (bT B).size ≤ 10000000000 := Nat.le_trans hBz (by omega)
          clear hAz hBz
          have hfill : o = false → C = A ++ B ∧ xs <+: zs ∧ zs.length ≤ xs.length + ys.length := fun e => by
            have := fill_two l s.data.toList t.data.toList (opn_shut _ false (by rw [HO.out, e]))
            rw [← HCD.out, hf1, hf2, hf3] at this
            exact this
          have hplain : b = false → A = s.data.toList ∧ xs = [] := fun e => by
            have := fill_none l s.data.toList (no_brace (by rw [HB.out, e]))
            rw [hf1] at this
            exact ⟨congrArg (·.1) this, congrArg (·.2) this⟩
          clear HO HB HCD
          go_wp2_with fail
          refine (fill_c v l s w wr hb2 hA hl1 hsz).mono ?_
          rintro e w3 ⟨a3, rfl, T3, hb3, hk3⟩
          rw [hf1] at T3 ⊢
          simp only at T3 ⊢
          have hA := hA.below hk3
          obtain ⟨p3, c3, hv3⟩ : ∃ p c, a3 = .slice p xs.length c := by
            rcases own_form T3 with ⟨h, h0⟩ | ⟨g, c, h, _⟩
            · exact ⟨_, _, by rw [h0]; exact h⟩
            · exact ⟨_, _, h⟩
          subst hv3
          cases b with
          | true =>
            go_wp2_with fail
            refine (fill_c v l t w w3 hb3 hA hl1 htz).mono ?_
            rintro e w4 ⟨a4, rfl, T4, hb4, hk4⟩
            rw [hf2] at T4 ⊢
            simp only at T4 ⊢
            have hA := hA.below hk4
            have T3 := Texts.below T3 hk4
            obtain ⟨p4, c4, hv4⟩ : ∃ p c, a4 = .slice p ys.length c := by
              rcases own_form T4 with ⟨h, h0⟩ | ⟨g, c, h, _⟩
              · exact ⟨_, _, by rw [h0]; exact h⟩
              · exact ⟨_, _, h⟩
            subst hv4
            clear T4
            go_wp2_with fail
            refine (fill_c v l (s ++ t) w w4 hb4 hA hl1 HST.out).mono ?_
            rintro e w5 ⟨a5, rfl, T5, hb5, hk5⟩
            rw [hf3] at T5 ⊢
            simp only at T5 ⊢
            have T3 := Texts.below T3 hk5
            cases o with
            | true =>
              go_wp2
              go_ret
              exact ⟨rfl, hb5⟩
            | false =>
              obtain ⟨rfl, hpre, hlen⟩ := hfill rfl
              rw [bT_append]
              have hple := hpre.length_le
              have hT3 := texts_owned T3 rfl (by omega)
              clear T3 hf1 hf2 hf3 hfill hplain
              rcases own_form T5 with ⟨rfl, h0⟩ | ⟨g, c5, rfl, hc5⟩
              · obtain rfl : xs = [] := List.eq_nil_of_length_eq_zero (by omega)
                go_wp2_with fail
                refine (sameTexts_any _ _ [] [] _ ⟨none, 0, rfl, by simp, fun h => by simp at h⟩ hT3).mono ?_
                rintro e w6 ⟨rfl, q, hw6⟩
                rw [dec_self]
                have hb6 : Below w.heap.size w w6 := by rw [hw6]; exact below_drewN hb5 q
                clear hw6
                go_wp2
                go_ret
                first | exact ⟨rfl, hb6⟩ | exact ⟨ret_bool (decide_eq_true (by first | omega | (simp at hlen; omega))), hb6⟩
              · have hT5 := texts_prefix T5 hpre (by omega)
                clear T5
                go_wp2_with fail
                refine (sameTexts_any _ _ xs xs _ hT5 hT3).mono ?_
                rintro e w6 ⟨rfl, q, hw6⟩
                rw [dec_self]
                have hb6 : Below w.heap.size w w6 := by rw [hw6]; exact below_drewN hb5 q
                clear hw6
                go_wp2
                go_ret
                first | exact ⟨rfl, hb6⟩ | exact ⟨ret_bool (decide_eq_true (by first | omega | (simp at hlen; omega))), hb6⟩
          | false =>
            obtain ⟨rfl, rfl⟩ := hplain rfl
            rw [bT_data]
            have hss : (s.toList == s.toList) = true := by simp
            go_wp2_with fail
            refine (fill_c v l t w w3 hb3 hA hl1 htz).mono ?_
            rintro e w4 ⟨a4, rfl, T4, hb4, hk4⟩
            rw [hf2] at T4 ⊢
            simp only at T4 ⊢
            have hA := hA.below hk4
            have T3 := Texts.below T3 hk4
            obtain ⟨p4, c4, hv4⟩ : ∃ p c, a4 = .slice p ys.length c := by
              rcases own_form T4 with ⟨h, h0⟩ | ⟨g, c, h, _⟩
              · exact ⟨_, _, by rw [h0]; exact h⟩
              · exact ⟨_, _, h⟩
            subst hv4
            clear T4
            go_wp2_with fail
            refine (fill_c v l (s ++ t) w w4 hb4 hA hl1 HST.out).mono ?_
            rintro e w5 ⟨a5, rfl, T5, hb5, hk5⟩
            rw [hf3] at T5 ⊢
            simp only at T5 ⊢
            have T3 := Texts.below T3 hk5
            cases o with
            | true =>
              go_wp2
              go_ret
              exact ⟨rfl, hb5⟩
            | false =>
              obtain ⟨rfl, hpre, hlen⟩ := hfill rfl
              rw [bT_append, bT_data]
              have hple := hpre.length_le
              have hT3 := texts_owned T3 rfl (by omega)
              clear T3 hf1 hf2 hf3 hfill hplain
              rcases own_form T5 with ⟨rfl, h0⟩ | ⟨g, c5, rfl, hc5⟩
              · skip
                go_wp2_with fail
                refine (sameTexts_any _ _ [] [] _ ⟨none, 0, rfl, by simp, fun h => by simp at h⟩ hT3).mono ?_
                rintro e w6 ⟨rfl, q, hw6⟩
                rw [dec_self]
                have hb6 : Below w.heap.size w w6 := by rw [hw6]; exact below_drewN hb5 q
                clear hw6
                go_wp2
                go_ret
                first | exact ⟨rfl, hb6⟩ | exact ⟨ret_bool (decide_eq_true (by first | omega | (simp at hlen; omega))), hb6⟩
              · have hT5 := texts_prefix T5 hpre (by omega)
                clear T5
                go_wp2_with fail
                refine (sameTexts_any _ _ [] [] _ hT5 hT3).mono ?_
                rintro e w6 ⟨rfl, q, hw6⟩
                rw [dec_self]
                have hb6 : Below w.heap.size w w6 := by rw [hw6]; exact below_drewN hb5 q
                clear hw6
                go_wp2
                go_ret
                first | exact ⟨rfl, hb6⟩ | exact ⟨ret_bool (decide_eq_true (by first | omega | (simp at hlen; omega))), hb6⟩
  · have hz3 : decide ((3000 : Int) < ((s.size : Int) + (t.size : Int))) = true := by simp; omega
    go_enter Try.func6, Try.ntmps6
    go_wp2_with fail
    refine (alive_any w _ (Below.refl _ _)).mono ?_
    rintro e w1 ⟨rfl, hb1, hk1⟩
    have hA := hA0.below hk1
    go_wp2_with fail
    refine (great_c v l s w w1 hb1 hA hr).mono ?_
    rintro e w2 ⟨g, rfl, hsm, hb2, hk2⟩
    have hA := hA.below hk2
    clear hA0 hb1 hk1 hk2
    cases g with
    | true =>
      go_wp2_with fail
      refine (alive_any w w2 hb2).mono ?_
      rintro e w3 ⟨rfl, hb3, hk3⟩
      go_wp2
      go_ret
      exact ⟨rfl, hb3⟩
    | false =>
      obtain ⟨hl1, hnz0⟩ := hsm rfl
      clear hsm
      go_wp2_with fail
      refine (alive_any w w2 hb2).mono ?_
      rintro e w3 ⟨rfl, hb3, hk3⟩
      go_wp2
      go_ret
      exact ⟨rfl, hb3⟩

theorem readable : ∀ t ∈ #[22, 9, 9].toList, Try.prog.readableRec t = true ∧ t < Try.prog.types.size := by
  intro t ht
  have h : t ∈ ([22, 9, 9] : List TypeId) := ht
  simp only [List.mem_cons, List.not_mem_nil, or_false] at h
  rcases h with rfl | rfl | rfl
  · exact ⟨by kernel_rfl, of_decide_eq_true (by kernel_rfl)⟩
  · exact ⟨by kernel_rfl, of_decide_eq_true (by kernel_rfl)⟩
  · exact ⟨by kernel_rfl, of_decide_eq_true (by kernel_rfl)⟩

theorem lifted (os : Os) (started : os.Started) (H : Type) (enc : TypeId × Value → H) :
    ReturnsInHanded {} Try.checked os 6 .any (Rows.condsPlainSpec.pre6 enc Try.prog Try.f6 Rows.condsPlainRow.domain false) (Rows.condsPlainSpec.post enc Try.prog Try.f6 false true false false) := by
  refine returnsInHanded_of_change_sized (C := Try.checked) own started (by kernel_rfl) Try.func6
    (ChangeSpec.witness6 (enc := enc) (C := Try.checked) false ⟨#[], #[.slice none 0 0, .string ⟨#[]⟩, .string ⟨#[]⟩], []⟩ 8 (by kernel_rfl) (by kernel_rfl) (by kernel_rfl) (by kernel_rfl)) ?_
  intro W base args ds gs before hval hW _ hz _
  have hW' := hW
  obtain ⟨p, q, hA, hV, rfl, hfz, hnd⟩ := hW
  rw [Try.params6] at hA hval
  obtain ⟨v0, vs0, d0, ds0, p0, q0, hargs0, rfl, rfl, h0, r0⟩ := trodAll_cons hA
  obtain ⟨v1, vs1, d1, ds1, p1, q1, hargs1, rfl, rfl, h1, r1⟩ := trodAll_cons r0
  obtain ⟨v2, vs2, d2, ds2, p2, q2, hargs2, rfl, rfl, h2, r2⟩ := trodAll_cons r1
  obtain ⟨rfl, rfl, rfl⟩ := trodAll_nil r2
  subst hargs1
  subst hargs2
  obtain rfl : args = #[v0, v1, v2] := by cases args; simp_all
  obtain ⟨rfl, rfl⟩ := trodVars_none hV
  obtain ⟨l0, hA0⟩ := attrs_arg (hval 0 22 v0 rfl rfl) h0 (fun n hn => by have := List.all_eq_true.1 hz n (DataW.weights_mem_each (j := 0) rfl rfl n hn); simpa using this)
  obtain ⟨s1, rfl, rfl, rfl, hs1⟩ := string_arg (hval 1 9 v1 rfl rfl) h1
  have hr1 := string_reach hz (j := 1) (s := s1) rfl rfl
  obtain ⟨s2, rfl, rfl, rfl, hs2⟩ := string_arg (hval 2 9 v2 rfl rfl) h2
  have hr2 := string_reach hz (j := 2) (s := s2) rfl rfl
  refine (walk W v0 l0 hA0 s1 hs1 hr1 s2 hs2 hr2).mono fun e W' ⟨he, hb⟩ => ⟨_, he, law_post rfl rfl ?_ hW' rfl hb⟩
  rw [Try.params6]
  exact readable

theorem proved : Rows.CondsPlainSaid :=
  OpenClaim.holds_of_wide 6 Try.f6 rfl rfl rfl rfl rfl rfl rfl ⟨rfl, rfl, rfl, rfl, rfl⟩ rfl rfl rfl rfl rfl (by kernel_rfl) Try.func6 (by kernel_rfl)
    (of_decide_eq_true (by kernel_rfl)) (by unfold Func.isWrapper; first | (rw [if_pos (by decide +kernel)]; kernel_rfl) | (rw [if_neg (by decide +kernel)]; exact ⟨rfl, rfl⟩))
    (fun os started H enc _ => lifted os started H enc)
end Go.Proofs.Ytcdlleeonfnamaa.plainLaw
