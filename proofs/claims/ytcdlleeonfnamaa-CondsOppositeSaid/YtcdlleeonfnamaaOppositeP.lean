/-
  CondsOpposite: a condition and its opposite never hold both, and one of them does, and they ask for the same name; where the list is at most 1000 long and all texts have at most 100000 bytes, and true is answered beyond. No conditions: every list of attributes, every name and every text.
-/
import Derived.Test.YtcdlleeonfnamaaAlive
import Derived.Test.YtcdlleeonfnamaaFacts
import Derived.Test.YtcdlleeonfnamaaPair
namespace Go.Proofs.Ytcdlleeonfnamaa.oppositeLaw
open Go.ChangeShapes Go.WideShapes Go.ChangeAt Go.RowKit
set_option maxRecDepth 100000

theorem cat_data (a b : ByteArray) : (a ++ b).data.toList = a.data.toList ++ b.data.toList := by rw [ByteArray.data_append]; simp
theorem cat_size (a b : ByteArray) : (a ++ b).size = a.size + b.size := ByteArray.size_append
theorem askV_form (o : Option (List UInt8 × Bool)) : ∃ (s : ByteArray) (b : Bool) (e : Int), askV o = .tuple #[.string s, .bool b, .int .i64 e] := by
  rcases o with _ | ⟨n, b⟩
  · exact ⟨_, _, _, rfl⟩
  · exact ⟨_, _, _, rfl⟩
theorem nameB_parts {l : List UInt8} (h : nameB l = true) : ∃ x t, l = x :: t ∧ x ≠ 33 ∧ l.all nmB = true := by
  unfold nameB at h
  simp only [Bool.and_eq_true, decide_eq_true_eq] at h
  obtain ⟨⟨⟨h1, _⟩, h2⟩, h3⟩ := h
  cases l with
  | nil => simp at h1
  | cons x t =>
    refine ⟨x, t, rfl, ?_, h3⟩
    rintro rfl
    have h4 : isL ((33 : UInt8).toNat : Int) = true := h2
    revert h4; decide
theorem run_at (n t : List UInt8) (c : UInt8) (h : n.all nmB = true) (hc : nmB c = false) : runL (n ++ c :: t) = n.length := by
  refine run_stop _ n.length (by simp) (by rw [List.take_left']; exact h; rfl) ?_
  rw [List.getElem_append_right (Nat.le_refl _)]; simpa using hc
theorem ask_plain (l : List At) (n : ByteArray) (h : nameB n.data.toList = true) : askL l n.data.toList = some (n.data.toList, (getL l n).isSome) := by
  obtain ⟨x, t, e, hx, ha⟩ := nameB_parts h
  have hr := run_end _ ha
  have : askL l n.data.toList = askN l false n.data.toList := by rw [e]; show (if x = 33 then _ else _) = _; rw [if_neg hx]
  rw [this]
  unfold askN
  rw [hr, List.take_length, List.drop_length, if_neg (by rw [h]; decide), bT_data]
  simp [restA]
theorem ask_not (l : List At) (n : ByteArray) (h : nameB n.data.toList = true) : askL l (33 :: n.data.toList) = some (n.data.toList, !(getL l n).isSome) := by
  obtain ⟨x, t, e, hx, ha⟩ := nameB_parts h
  have hr := run_end _ ha
  have : askL l (33 :: n.data.toList) = askN l true n.data.toList := by show (if (33 : UInt8) = 33 then askN l true n.data.toList else askN l false (33 :: n.data.toList)) = _; rw [if_pos rfl]
  rw [this]
  unfold askN
  rw [hr, List.take_length, List.drop_length, if_neg (by rw [h]; decide), bT_data]
  generalize getL l n = o
  cases o <;> simp [restA]
theorem ask_is (l : List At) (n : ByteArray) (t : List UInt8) (h : nameB n.data.toList = true) : askL l (n.data.toList ++ 61 :: t) = some (n.data.toList, decide (getL l n = some (bT t))) := by
  obtain ⟨x, t0, e, hx, ha⟩ := nameB_parts h
  have hr := run_at n.data.toList t 61 ha (by decide)
  have : askL l (n.data.toList ++ 61 :: t) = askN l false (n.data.toList ++ 61 :: t) := by rw [e]; show (if x = 33 then _ else _) = _; rw [if_neg hx]
  rw [this]
  unfold askN
  rw [hr, List.take_left' rfl, List.drop_left' rfl, if_neg (by rw [h]; decide), bT_data, rest_is _ _ _ rfl]
theorem ask_isnt (l : List At) (n : ByteArray) (t : List UInt8) (h : nameB n.data.toList = true) : askL l (n.data.toList ++ 33 :: 61 :: t) = some (n.data.toList, !decide (getL l n = some (bT t))) := by
  obtain ⟨x, t0, e, hx, ha⟩ := nameB_parts h
  have hr := run_at n.data.toList (61 :: t) 33 ha (by decide)
  have : askL l (n.data.toList ++ 33 :: 61 :: t) = askN l false (n.data.toList ++ 33 :: 61 :: t) := by rw [e]; show (if x = 33 then _ else _) = _; rw [if_neg hx]
  rw [this]
  unfold askN
  rw [hr, List.take_left' rfl, List.drop_left' rfl, if_neg (by rw [h]; decide), bT_data, rest_isnt _ _ _ (by decide) ⟨rfl, rfl⟩]
theorem askV_some (n : ByteArray) (b : Bool) : askV (some (n.data.toList, b)) = .tuple #[.string n, .bool b, .int .i64 0] := by
  show Value.tuple #[.string (bT n.data.toList), .bool b, .int .i64 0] = _
  rw [bT_data]
theorem some_eq (g t : ByteArray) : decide (some g = some (bT t.data.toList)) = (g.toList == t.toList) := by
  rw [bT_data, Bool.eq_iff_iff, decide_eq_true_eq, beq_iff_eq, Lib.toList_data, Lib.toList_data]
  constructor
  · intro e; injection e with e; rw [e]
  · intro e; rw [ByteArray.ext (Array.toList_inj.1 e)]

set_option maxHeartbeats 4000000 in
theorem walk (w : World) (v : Value) (l : List At) (hA0 : Attrs w v l) (n : ByteArray) (_hs : n.size ≤ maxLen) (hr : n.size ≤ 140737488351232) (t : ByteArray) (_ht : t.size ≤ maxLen) (_hrt : t.size ≤ 140737488351232) :
    Calls Try.prog 5 #[v, .string n, .string t] w fun e w' => e = .returned (.bool true) ∧ Below w.heap.size w w' := by
  by_cases hz1 : t.size ≤ 100000
  · cases hnm : nameB n.data.toList with
    | false =>
      obtain ⟨s1, b1, x1, q1⟩ := askV_form (askL l n.data.toList)
      obtain ⟨s2, b2, x2, q2⟩ := askV_form (askL l (⟨#[33]⟩ ++ n : ByteArray).data.toList)
      obtain ⟨s3, b3, x3, q3⟩ := askV_form (askL l (n ++ ⟨#[61]⟩ ++ t : ByteArray).data.toList)
      obtain ⟨s4, b4, x4, q4⟩ := askV_form (askL l (n ++ ⟨#[33, 61]⟩ ++ t : ByteArray).data.toList)
      have Q1 := Lib.hid q1
      have Q2 := Lib.hid q2
      have Q3 := Lib.hid q3
      have Q4 := Lib.hid q4
      clear q1 q2 q3 q4
      go_enter Try.func5, Try.ntmps5
      go_wp2_with fail
      refine (alive_any w _ (Below.refl _ _)).mono ?_
      rintro e w1 ⟨rfl, hb1, hk1⟩
      have hA := hA0.below hk1
      go_wp2_with fail
      refine (great_c v l n w w1 hb1 hA hr).mono ?_
      rintro e w2 ⟨g, rfl, hsm, hb2, hk2⟩
      have hA := hA.below hk2
      clear hA0 hb1 hk1 hk2
      cases g with
      | true =>
        go_wp2_with fail
        refine (alive_any w w2 hb2).mono ?_
        rintro e w3 ⟨rfl, hb3, hk3⟩
        go_wp2
        go_ret
        exact ⟨rfl, hb3⟩
      | false =>
        obtain ⟨_, hnz⟩ := hsm rfl
        clear hsm
        go_wp2_with fail
        refine (ask_c v l n w w2 hb2 hA hr).mono ?_
        rintro e w3 ⟨rfl, hb3, hk3⟩
        have hA := hA.below hk3
        rw [Q1.out]
        go_wp2_with fail
        refine (ask_c v l _ w w3 hb3 hA (by rw [cat_size]; show 1 + n.size ≤ _; omega)).mono ?_
        rintro e w4 ⟨rfl, hb4, hk4⟩
        have hA := hA.below hk4
        rw [Q2.out]
        go_wp2_with fail
        refine (name_c n w w4 hb4 hr).mono ?_
        rintro e w' ⟨rfl, rfl⟩
        rw [hnm]
        go_wp2_with fail
        refine (ask_c v l _ w w4 hb4 hA (by rw [cat_size, cat_size]; show n.size + 1 + t.size ≤ _; omega)).mono ?_
        rintro e w5 ⟨rfl, hb5, hk5⟩
        have hA := hA.below hk5
        rw [Q3.out]
        go_wp2_with fail
        refine (ask_c v l _ w w5 hb5 hA (by rw [cat_size, cat_size]; show n.size + 2 + t.size ≤ _; omega)).mono ?_
        rintro e w6 ⟨rfl, hb6, hk6⟩
        have hA := hA.below hk6
        rw [Q4.out]
        go_wp2_with fail
        refine (name_c n w w6 hb6 hr).mono ?_
        rintro e w' ⟨rfl, rfl⟩
        rw [hnm]
        go_wp2
        go_ret
        exact ⟨rfl, hb6⟩
    | true =>
      have q1 := askV_some n (getL l n).isSome
      rw [← ask_plain l n hnm] at q1
      have q2 := askV_some n (!(getL l n).isSome)
      rw [← ask_not l n hnm, show (33 :: n.data.toList : List UInt8) = (⟨#[33]⟩ ++ n : ByteArray).data.toList by rw [cat_data]; rfl] at q2
      have q3 := askV_some n (decide (getL l n = some (bT t.data.toList)))
      rw [← ask_is l n t.data.toList hnm, show (n.data.toList ++ 61 :: t.data.toList : List UInt8) = (n ++ ⟨#[61]⟩ ++ t : ByteArray).data.toList by rw [cat_data, cat_data]; simp] at q3
      have q4 := askV_some n (!decide (getL l n = some (bT t.data.toList)))
      rw [← ask_isnt l n t.data.toList hnm, show (n.data.toList ++ 33 :: 61 :: t.data.toList : List UInt8) = (n ++ ⟨#[33, 61]⟩ ++ t : ByteArray).data.toList by rw [cat_data, cat_data]; simp] at q4
      have hnn : (n.toList == n.toList) = true := by simp
      cases hg : getL l n with
      | none =>
        rw [hg] at q1 q2 q3 q4
        rw [decide_eq_false (by simp)] at q3 q4
        have Q1 := Lib.hid q1
        have Q2 := Lib.hid q2
        have Q3 := Lib.hid q3
        have Q4 := Lib.hid q4
        clear q1 q2 q3 q4
        go_enter Try.func5, Try.ntmps5
        go_wp2_with fail
        refine (alive_any w _ (Below.refl _ _)).mono ?_
        rintro e w1 ⟨rfl, hb1, hk1⟩
        have hA := hA0.below hk1
        go_wp2_with fail
        refine (great_c v l n w w1 hb1 hA hr).mono ?_
        rintro e w2 ⟨g, rfl, hsm, hb2, hk2⟩
        have hA := hA.below hk2
        clear hA0 hb1 hk1 hk2
        cases g with
        | true =>
          go_wp2_with fail
          refine (alive_any w w2 hb2).mono ?_
          rintro e w3 ⟨rfl, hb3, hk3⟩
          go_wp2
          go_ret
          exact ⟨rfl, hb3⟩
        | false =>
          obtain ⟨_, hnz⟩ := hsm rfl
          clear hsm
          go_wp2_with fail
          refine (ask_c v l n w w2 hb2 hA hr).mono ?_
          rintro e w3 ⟨rfl, hb3, hk3⟩
          have hA := hA.below hk3
          rw [Q1.out]
          go_wp2_with fail
          refine (ask_c v l _ w w3 hb3 hA (by rw [cat_size]; show 1 + n.size ≤ _; omega)).mono ?_
          rintro e w4 ⟨rfl, hb4, hk4⟩
          have hA := hA.below hk4
          rw [Q2.out]
          go_wp2_with fail
          refine (name_c n w w4 hb4 hr).mono ?_
          rintro e w' ⟨rfl, rfl⟩
          rw [hnm]
          go_wp2_with fail
          refine (ask_c v l _ w w4 hb4 hA (by rw [cat_size, cat_size]; show n.size + 1 + t.size ≤ _; omega)).mono ?_
          rintro e w5 ⟨rfl, hb5, hk5⟩
          have hA := hA.below hk5
          rw [Q3.out]
          go_wp2_with fail
          refine (ask_c v l _ w w5 hb5 hA (by rw [cat_size, cat_size]; show n.size + 2 + t.size ≤ _; omega)).mono ?_
          rintro e w6 ⟨rfl, hb6, hk6⟩
          have hA := hA.below hk6
          rw [Q4.out]
          go_wp2_with fail
          refine (name_c n w w6 hb6 hr).mono ?_
          rintro e w' ⟨rfl, rfl⟩
          rw [hnm]
          go_wp2_with fail
          refine (get_c v l n w w6 hb6 hA hr).mono ?_
          rintro e w7 ⟨rfl, hb7, hk7⟩
          rw [hg]
          unfold getV
          go_wp2
          go_ret
          exact ⟨rfl, hb7⟩
      | some g =>
        rw [hg] at q1 q2 q3 q4
        rw [some_eq] at q3 q4
        obtain ⟨b, hb⟩ : ∃ b : Bool, (g.toList == t.toList) = b := ⟨_, rfl⟩
        rw [hb] at q3 q4
        have Q1 := Lib.hid q1
        have Q2 := Lib.hid q2
        have Q3 := Lib.hid q3
        have Q4 := Lib.hid q4
        clear q1 q2 q3 q4
        cases b
        all_goals
          go_enter Try.func5, Try.ntmps5
          go_wp2_with fail
          refine (alive_any w _ (Below.refl _ _)).mono ?_
          rintro e w1 ⟨rfl, hb1, hk1⟩
          have hA := hA0.below hk1
          go_wp2_with fail
          refine (great_c v l n w w1 hb1 hA hr).mono ?_
          rintro e w2 ⟨g, rfl, hsm, hb2, hk2⟩
          have hA := hA.below hk2
          clear hA0 hb1 hk1 hk2
          cases g with
          | true =>
            go_wp2_with fail
            refine (alive_any w w2 hb2).mono ?_
            rintro e w3 ⟨rfl, hb3, hk3⟩
            go_wp2
            go_ret
            exact ⟨rfl, hb3⟩
          | false =>
            obtain ⟨_, hnz⟩ := hsm rfl
            clear hsm
            go_wp2_with fail
            refine (ask_c v l n w w2 hb2 hA hr).mono ?_
            rintro e w3 ⟨rfl, hb3, hk3⟩
            have hA := hA.below hk3
            rw [Q1.out]
            go_wp2_with fail
            refine (ask_c v l _ w w3 hb3 hA (by rw [cat_size]; show 1 + n.size ≤ _; omega)).mono ?_
            rintro e w4 ⟨rfl, hb4, hk4⟩
            have hA := hA.below hk4
            rw [Q2.out]
            go_wp2_with fail
            refine (name_c n w w4 hb4 hr).mono ?_
            rintro e w' ⟨rfl, rfl⟩
            rw [hnm]
            go_wp2_with fail
            refine (ask_c v l _ w w4 hb4 hA (by rw [cat_size, cat_size]; show n.size + 1 + t.size ≤ _; omega)).mono ?_
            rintro e w5 ⟨rfl, hb5, hk5⟩
            have hA := hA.below hk5
            rw [Q3.out]
            go_wp2_with fail
            refine (ask_c v l _ w w5 hb5 hA (by rw [cat_size, cat_size]; show n.size + 2 + t.size ≤ _; omega)).mono ?_
            rintro e w6 ⟨rfl, hb6, hk6⟩
            have hA := hA.below hk6
            rw [Q4.out]
            go_wp2_with fail
            refine (name_c n w w6 hb6 hr).mono ?_
            rintro e w' ⟨rfl, rfl⟩
            rw [hnm]
            go_wp2_with fail
            refine (get_c v l n w w6 hb6 hA hr).mono ?_
            rintro e w7 ⟨rfl, hb7, hk7⟩
            rw [hg]
            unfold getV
            go_wp2
            go_ret
            exact ⟨rfl, hb7⟩
  · have hz3 : decide ((100000 : Int) < (t.size : Int)) = true := by simp; omega
    go_enter Try.func5, Try.ntmps5
    go_wp2_with fail
    refine (alive_any w _ (Below.refl _ _)).mono ?_
    rintro e w1 ⟨rfl, hb1, hk1⟩
    have hA := hA0.below hk1
    go_wp2_with fail
    refine (great_c v l n w w1 hb1 hA hr).mono ?_
    rintro e w2 ⟨g, rfl, hsm, hb2, hk2⟩
    have hA := hA.below hk2
    clear hA0 hb1 hk1 hk2
    cases g with
    | true =>
      go_wp2_with fail
      refine (alive_any w w2 hb2).mono ?_
      rintro e w3 ⟨rfl, hb3, hk3⟩
      go_wp2
      go_ret
      exact ⟨rfl, hb3⟩
    | false =>
      obtain ⟨_, hnz⟩ := hsm rfl
      clear hsm
      go_wp2_with fail
      refine (alive_any w w2 hb2).mono ?_
      rintro e w3 ⟨rfl, hb3, hk3⟩
      go_wp2
      go_ret
      exact ⟨rfl, hb3⟩

theorem readable : ∀ t ∈ #[22, 9, 9].toList, Try.prog.readableRec t = true ∧ t < Try.prog.types.size := by
  intro t ht
  have h : t ∈ ([22, 9, 9] : List TypeId) := ht
  simp only [List.mem_cons, List.not_mem_nil, or_false] at h
  rcases h with rfl | rfl | rfl
  · exact ⟨by kernel_rfl, of_decide_eq_true (by kernel_rfl)⟩
  · exact ⟨by kernel_rfl, of_decide_eq_true (by kernel_rfl)⟩
  · exact ⟨by kernel_rfl, of_decide_eq_true (by kernel_rfl)⟩

theorem lifted (os : Os) (started : os.Started) (H : Type) (enc : TypeId × Value → H) :
    ReturnsInHanded {} Try.checked os 5 .any (Rows.condsOppositeSpec.pre6 enc Try.prog Try.f5 Rows.condsOppositeRow.domain false) (Rows.condsOppositeSpec.post enc Try.prog Try.f5 false true false false) := by
  refine returnsInHanded_of_change_sized (C := Try.checked) own started (by kernel_rfl) Try.func5
    (ChangeSpec.witness6 (enc := enc) (C := Try.checked) false ⟨#[], #[.slice none 0 0, .string ⟨#[]⟩, .string ⟨#[]⟩], []⟩ 8 (by kernel_rfl) (by kernel_rfl) (by kernel_rfl) (by kernel_rfl)) ?_
  intro W base args ds gs before hval hW _ hz _
  have hW' := hW
  obtain ⟨p, q, hA, hV, rfl, hfz, hnd⟩ := hW
  rw [Try.params5] at hA hval
  obtain ⟨v0, vs0, d0, ds0, p0, q0, hargs0, rfl, rfl, h0, r0⟩ := trodAll_cons hA
  obtain ⟨v1, vs1, d1, ds1, p1, q1, hargs1, rfl, rfl, h1, r1⟩ := trodAll_cons r0
  obtain ⟨v2, vs2, d2, ds2, p2, q2, hargs2, rfl, rfl, h2, r2⟩ := trodAll_cons r1
  obtain ⟨rfl, rfl, rfl⟩ := trodAll_nil r2
  subst hargs1
  subst hargs2
  obtain rfl : args = #[v0, v1, v2] := by cases args; simp_all
  obtain ⟨rfl, rfl⟩ := trodVars_none hV
  obtain ⟨l0, hA0⟩ := attrs_arg (hval 0 22 v0 rfl rfl) h0 (fun n hn => by have := List.all_eq_true.1 hz n (DataW.weights_mem_each (j := 0) rfl rfl n hn); simpa using this)
  obtain ⟨s1, rfl, rfl, rfl, hs1⟩ := string_arg (hval 1 9 v1 rfl rfl) h1
  have hr1 := string_reach hz (j := 1) (s := s1) rfl rfl
  obtain ⟨s2, rfl, rfl, rfl, hs2⟩ := string_arg (hval 2 9 v2 rfl rfl) h2
  have hr2 := string_reach hz (j := 2) (s := s2) rfl rfl
  refine (walk W v0 l0 hA0 s1 hs1 hr1 s2 hs2 hr2).mono fun e W' ⟨he, hb⟩ => ⟨_, he, law_post rfl rfl ?_ hW' rfl hb⟩
  rw [Try.params5]
  exact readable

theorem proved : Rows.CondsOppositeSaid :=
  OpenClaim.holds_of_wide 5 Try.f5 rfl rfl rfl rfl rfl rfl rfl ⟨rfl, rfl, rfl, rfl, rfl⟩ rfl rfl rfl rfl rfl (by kernel_rfl) Try.func5 (by kernel_rfl)
    (of_decide_eq_true (by kernel_rfl)) (by unfold Func.isWrapper; first | (rw [if_pos (by decide +kernel)]; kernel_rfl) | (rw [if_neg (by decide +kernel)]; exact ⟨rfl, rfl⟩))
    (fun os started H enc _ => lifted os started H enc)
end Go.Proofs.Ytcdlleeonfnamaa.oppositeLaw
