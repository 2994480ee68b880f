/-
  CondsAgain: what is set twice has the second value; what is set and unset is as it was without it; where the list is at most 1000 long, the name has at most 100000 bytes and the values at most 10000, and true is answered beyond. No conditions: every list of attributes, every name and every two values.
-/
import Derived.Test.YtcdlleeonfnamaaAlive
import Derived.Test.YtcdlleeonfnamaaFacts
import Derived.Test.YtcdlleeonfnamaaPair
namespace Go.Proofs.Ytcdlleeonfnamaa.againLaw
open Go.ChangeShapes Go.WideShapes Go.ChangeAt Go.RowKit
set_option maxRecDepth 100000

/-- two texts in a box -/
def Box (w : World) (b : Nat) (s t : ByteArray) : Prop := b < w.heap.size ∧ w.cell? ⟨b, 0, none⟩ = some (.string s) ∧ w.cell? ⟨b, 1, none⟩ = some (.string t)
theorem Box.below {w w' : World} {b : Nat} {s t : ByteArray} (h : Box w b s t) (hb : Below w.heap.size w w') : Box w' b s t :=
  ⟨Nat.lt_of_lt_of_le h.1 hb.size, (hb.cell (p := ⟨b, 0, none⟩) h.1).trans h.2.1, (hb.cell (p := ⟨b, 1, none⟩) h.1).trans h.2.2⟩
theorem box_new (w : World) (s t : ByteArray) : Box (w.alloc (.cells #[.string s, .string t] 23)) w.heap.size s t := ⟨by simp, by simp, by simp⟩

theorem put_len (l : List At) (n v u : ByteArray) : (putL l n v).length = (putL l n u).length := by unfold putL; simp

set_option maxHeartbeats 4000000 in
theorem walk (w : World) (v : Value) (l : List At) (hA0 : Attrs w v l) (n : ByteArray) (_hs : n.size ≤ maxLen) (hr : n.size ≤ 140737488351232) (u0 u1 : ByteArray) (hu0 : u0.size ≤ 140737488351232) (hu1 : u1.size ≤ 140737488351232) :
    Calls Try.prog 4 #[v, .string n, .agg #[.string u0, .string u1]] w fun e w' => e = .returned (.bool true) ∧ Below w.heap.size w w' := by
  by_cases hz1 : u0.size ≤ 10000
  · by_cases hz2 : u1.size ≤ 10000
    · cases hC : (checkL l && nameB n.data.toList && mayL u0.data.toList) with
      | false =>
        obtain ⟨e1, e2⟩ := setE_no hC
        clear hC
        go_enter Try.func4, Try.ntmps4
        go_wp2_with fail
        refine (alive_any w _ (laidNew _ _)).mono ?_
        rintro e w1 ⟨rfl, hb1, hk1⟩
        have X := (box_new w u0 u1).below hk1
        have hA := (hA0.below (laidNew _ _)).below hk1
        have hx0 := X.2.1
        have hx1 := X.2.2
        go_wp2_with fail
        refine (great_c v l n w w1 hb1 hA hr).mono ?_
        rintro e w2 ⟨g, rfl, hsm, hb2, hk2⟩
        have X := X.below hk2
        have hA := hA.below hk2
        have hx0 := X.2.1
        have hx1 := X.2.2
        clear hA0 hb1 hk1 hk2
        cases g with
        | true =>
          go_wp2_with fail
          refine (alive_any w w2 hb2).mono ?_
          rintro e w3 ⟨rfl, hb3, hk3⟩
          go_wp2
          go_ret
          exact ⟨rfl, hb3⟩
        | false =>
          obtain ⟨⟨hl1, _⟩, _⟩ := hsm rfl
          clear hsm
          go_wp2_with fail
          refine (set_c v l n u0 w w2 hb2 hA hr hu0).mono ?_
          rintro e w3 ⟨a3, rfl, O3, hb3, hk3⟩
          rw [e1]
          go_wp2
          go_ret
          exact ⟨rfl, hb3⟩
      | true =>
        obtain ⟨hcl, hnm, hmy⟩ := three hC
        by_cases hput : (putL l n u0).length ≤ 64
        · obtain ⟨e1, e2⟩ := setE_ok hC hput
          have hka := check_put hcl n u0 hnm hmy hput
          obtain ⟨f1, f2⟩ := cutE_ok (l := putL l n u0) (n := n) (by rw [hka, hnm]; rfl)
          obtain ⟨h1, h2⟩ := cutE_ok (l := l) (n := n) (by rw [hcl, hnm]; rfl)
          rw [cut_put (check_parts hcl).2.2] at f2
          have hpl : (putL l n u1).length ≤ 64 := by rw [put_len l n u1 u0]; exact hput
          have hpp : (putL (putL l n u0) n u1).length ≤ 64 := by rw [put_put]; exact hpl
          have hle : (cutL l n).length ≤ 64 := by have h1 := List.length_filter_le (neP n) l; have h2 := (check_parts hcl).1; unfold cutL; omega
          cases hmy1 : mayL u1.data.toList with
          | false =>
            obtain ⟨g1, g2⟩ := setE_no (l := putL l n u0) (n := n) (u := u1) (by rw [hmy1]; simp)
            obtain ⟨k1, k2⟩ := setE_no (l := l) (n := n) (u := u1) (by rw [hmy1]; simp)
            clear hC hcl hnm hmy hka hmy1 hpl hpp
            go_enter Try.func4, Try.ntmps4
            go_wp2_with fail
            refine (alive_any w _ (laidNew _ _)).mono ?_
            rintro e w1 ⟨rfl, hb1, hk1⟩
            have X := (box_new w u0 u1).below hk1
            have hA := (hA0.below (laidNew _ _)).below hk1
            have hx0 := X.2.1
            have hx1 := X.2.2
            go_wp2_with fail
            refine (great_c v l n w w1 hb1 hA hr).mono ?_
            rintro e w2 ⟨g, rfl, hsm, hb2, hk2⟩
            have X := X.below hk2
            have hA := hA.below hk2
            have hx0 := X.2.1
            have hx1 := X.2.2
            clear hA0 hb1 hk1 hk2
            cases g with
            | true =>
              go_wp2_with fail
              refine (alive_any w w2 hb2).mono ?_
              rintro e w3 ⟨rfl, hb3, hk3⟩
              go_wp2
              go_ret
              exact ⟨rfl, hb3⟩
            | false =>
              obtain ⟨⟨hl1, _⟩, _⟩ := hsm rfl
              clear hsm
              go_wp2_with fail
              refine (set_c v l n u0 w w2 hb2 hA hr hu0).mono ?_
              rintro e w3 ⟨a3, rfl, O3, hb3, hk3⟩
              have X := X.below hk3
              have hA := hA.below hk3
              have hx0 := X.2.1
              have hx1 := X.2.2
              rw [e1]
              rw [e2] at O3
              go_wp2_with fail
              refine (set_c a3 _ n u1 w w3 hb3 (O3.attrs (by omega)) hr hu1).mono ?_
              rintro e w4 ⟨a4, rfl, O4, hb4, hk4⟩
              have X := X.below hk4
              have hA := hA.below hk4
              have O3 := O3.below hk4
              have hx0 := X.2.1
              have hx1 := X.2.2
              rw [g1]
              rw [g2] at O4
              go_wp2_with fail
              refine (set_c v l n u1 w w4 hb4 hA hr hu1).mono ?_
              rintro e w5 ⟨a5, rfl, O5, hb5, hk5⟩
              have X := X.below hk5
              have hA := hA.below hk5
              have O3 := O3.below hk5
              have O4 := O4.below hk5
              have hx0 := X.2.1
              have hx1 := X.2.2
              rw [k1]
              rw [k2] at O5
              go_wp2_with fail
              refine (unset_c a3 _ n w w5 hb5 (O3.attrs (by omega)) hr).mono ?_
              rintro e w6 ⟨a6, rfl, O6, hb6, hk6⟩
              have X := X.below hk6
              have hA := hA.below hk6
              have O4 := O4.below hk6
              have O5 := O5.below hk6
              have hx0 := X.2.1
              have hx1 := X.2.2
              rw [f1]
              rw [f2] at O6
              go_wp2_with fail
              refine (unset_c v l n w w6 hb6 hA hr).mono ?_
              rintro e w7 ⟨a7, rfl, O7, hb7, hk7⟩
              have O4 := O4.below hk7
              have O5 := O5.below hk7
              have O6 := O6.below hk7
              rw [h1]
              rw [h2] at O7
              go_wp2_with fail
              refine (sameAttrs_c a4 a5 _ _ w w7 hb7 (O4.attrs (by simp)) (O5.attrs (by simp))).mono ?_
              rintro e w8 ⟨rfl, hb8, hk8⟩
              have O6 := O6.below hk8
              have O7 := O7.below hk8
              rw [dec_self]
              go_wp2_with fail
              refine (sameAttrs_c a6 a7 _ _ w w8 hb8 (O6.attrs (by omega)) (O7.attrs (by omega))).mono ?_
              rintro e w9 ⟨rfl, hb9, hk9⟩
              rw [dec_self]
              go_wp2
              go_ret
              exact ⟨rfl, hb9⟩
          | true =>
            obtain ⟨g1, g2⟩ := setE_ok (l := putL l n u0) (n := n) (u := u1) (by rw [hka, hnm, hmy1]; rfl) hpp
            obtain ⟨k1, k2⟩ := setE_ok (l := l) (n := n) (u := u1) (by rw [hcl, hnm, hmy1]; rfl) hpl
            rw [put_put] at g2
            clear hC hcl hnm hmy hka hmy1 hpp
            go_enter Try.func4, Try.ntmps4
            go_wp2_with fail
            refine (alive_any w _ (laidNew _ _)).mono ?_
            rintro e w1 ⟨rfl, hb1, hk1⟩
            have X := (box_new w u0 u1).below hk1
            have hA := (hA0.below (laidNew _ _)).below hk1
            have hx0 := X.2.1
            have hx1 := X.2.2
            go_wp2_with fail
            refine (great_c v l n w w1 hb1 hA hr).mono ?_
            rintro e w2 ⟨g, rfl, hsm, hb2, hk2⟩
            have X := X.below hk2
            have hA := hA.below hk2
            have hx0 := X.2.1
            have hx1 := X.2.2
            clear hA0 hb1 hk1 hk2
            cases g with
            | true =>
              go_wp2_with fail
              refine (alive_any w w2 hb2).mono ?_
              rintro e w3 ⟨rfl, hb3, hk3⟩
              go_wp2
              go_ret
              exact ⟨rfl, hb3⟩
            | false =>
              obtain ⟨⟨hl1, _⟩, _⟩ := hsm rfl
              clear hsm
              go_wp2_with fail
              refine (set_c v l n u0 w w2 hb2 hA hr hu0).mono ?_
              rintro e w3 ⟨a3, rfl, O3, hb3, hk3⟩
              have X := X.below hk3
              have hA := hA.below hk3
              have hx0 := X.2.1
              have hx1 := X.2.2
              rw [e1]
              rw [e2] at O3
              go_wp2_with fail
              refine (set_c a3 _ n u1 w w3 hb3 (O3.attrs (by omega)) hr hu1).mono ?_
              rintro e w4 ⟨a4, rfl, O4, hb4, hk4⟩
              have X := X.below hk4
              have hA := hA.below hk4
              have O3 := O3.below hk4
              have hx0 := X.2.1
              have hx1 := X.2.2
              rw [g1]
              rw [g2] at O4
              go_wp2_with fail
              refine (set_c v l n u1 w w4 hb4 hA hr hu1).mono ?_
              rintro e w5 ⟨a5, rfl, O5, hb5, hk5⟩
              have X := X.below hk5
              have hA := hA.below hk5
              have O3 := O3.below hk5
              have O4 := O4.below hk5
              have hx0 := X.2.1
              have hx1 := X.2.2
              rw [k1]
              rw [k2] at O5
              go_wp2_with fail
              refine (unset_c a3 _ n w w5 hb5 (O3.attrs (by omega)) hr).mono ?_
              rintro e w6 ⟨a6, rfl, O6, hb6, hk6⟩
              have X := X.below hk6
              have hA := hA.below hk6
              have O4 := O4.below hk6
              have O5 := O5.below hk6
              have hx0 := X.2.1
              have hx1 := X.2.2
              rw [f1]
              rw [f2] at O6
              go_wp2_with fail
              refine (unset_c v l n w w6 hb6 hA hr).mono ?_
              rintro e w7 ⟨a7, rfl, O7, hb7, hk7⟩
              have O4 := O4.below hk7
              have O5 := O5.below hk7
              have O6 := O6.below hk7
              rw [h1]
              rw [h2] at O7
              go_wp2_with fail
              refine (sameAttrs_c a4 a5 _ _ w w7 hb7 (O4.attrs (by omega)) (O5.attrs (by omega))).mono ?_
              rintro e w8 ⟨rfl, hb8, hk8⟩
              have O6 := O6.below hk8
              have O7 := O7.below hk8
              rw [dec_self]
              go_wp2_with fail
              refine (sameAttrs_c a6 a7 _ _ w w8 hb8 (O6.attrs (by omega)) (O7.attrs (by omega))).mono ?_
              rintro e w9 ⟨rfl, hb9, hk9⟩
              rw [dec_self]
              go_wp2
              go_ret
              exact ⟨rfl, hb9⟩
        · obtain ⟨e1, e2⟩ := setE_full hC hput
          clear hC hcl hnm hmy hput
          go_enter Try.func4, Try.ntmps4
          go_wp2_with fail
          refine (alive_any w _ (laidNew _ _)).mono ?_
          rintro e w1 ⟨rfl, hb1, hk1⟩
          have X := (box_new w u0 u1).below hk1
          have hA := (hA0.below (laidNew _ _)).below hk1
          have hx0 := X.2.1
          have hx1 := X.2.2
          go_wp2_with fail
          refine (great_c v l n w w1 hb1 hA hr).mono ?_
          rintro e w2 ⟨g, rfl, hsm, hb2, hk2⟩
          have X := X.below hk2
          have hA := hA.below hk2
          have hx0 := X.2.1
          have hx1 := X.2.2
          clear hA0 hb1 hk1 hk2
          cases g with
          | true =>
            go_wp2_with fail
            refine (alive_any w w2 hb2).mono ?_
            rintro e w3 ⟨rfl, hb3, hk3⟩
            go_wp2
            go_ret
            exact ⟨rfl, hb3⟩
          | false =>
            obtain ⟨⟨hl1, _⟩, _⟩ := hsm rfl
            clear hsm
            go_wp2_with fail
            refine (set_c v l n u0 w w2 hb2 hA hr hu0).mono ?_
            rintro e w3 ⟨a3, rfl, O3, hb3, hk3⟩
            rw [e1]
            go_wp2
            go_ret
            exact ⟨rfl, hb3⟩
    · have hz3 : decide ((10000 : Int) < (u1.size : Int)) = true := by simp; omega
      go_enter Try.func4, Try.ntmps4
      go_wp2_with fail
      refine (alive_any w _ (laidNew _ _)).mono ?_
      rintro e w1 ⟨rfl, hb1, hk1⟩
      have X := (box_new w u0 u1).below hk1
      have hA := (hA0.below (laidNew _ _)).below hk1
      have hx0 := X.2.1
      have hx1 := X.2.2
      go_wp2_with fail
      refine (great_c v l n w w1 hb1 hA hr).mono ?_
      rintro e w2 ⟨g, rfl, hsm, hb2, hk2⟩
      have X := X.below hk2
      have hA := hA.below hk2
      have hx0 := X.2.1
      have hx1 := X.2.2
      clear hA0 hb1 hk1 hk2
      cases g with
      | true =>
        go_wp2_with fail
        refine (alive_any w w2 hb2).mono ?_
        rintro e w3 ⟨rfl, hb3, hk3⟩
        go_wp2
        go_ret
        exact ⟨rfl, hb3⟩
      | false =>
        obtain ⟨⟨hl1, _⟩, _⟩ := hsm rfl
        clear hsm
        go_wp2_with fail
        refine (alive_any w w2 hb2).mono ?_
        rintro e w3 ⟨rfl, hb3, hk3⟩
        go_wp2
        go_ret
        exact ⟨rfl, hb3⟩
  · have hz3 : decide ((10000 : Int) < (u0.size : Int)) = true := by simp; omega
    go_enter Try.func4, Try.ntmps4
    go_wp2_with fail
    refine (alive_any w _ (laidNew _ _)).mono ?_
    rintro e w1 ⟨rfl, hb1, hk1⟩
    have X := (box_new w u0 u1).below hk1
    have hA := (hA0.below (laidNew _ _)).below hk1
    have hx0 := X.2.1
    have hx1 := X.2.2
    go_wp2_with fail
    refine (great_c v l n w w1 hb1 hA hr).mono ?_
    rintro e w2 ⟨g, rfl, hsm, hb2, hk2⟩
    have X := X.below hk2
    have hA := hA.below hk2
    have hx0 := X.2.1
    have hx1 := X.2.2
    clear hA0 hb1 hk1 hk2
    cases g with
    | true =>
      go_wp2_with fail
      refine (alive_any w w2 hb2).mono ?_
      rintro e w3 ⟨rfl, hb3, hk3⟩
      go_wp2
      go_ret
      exact ⟨rfl, hb3⟩
    | false =>
      obtain ⟨⟨hl1, _⟩, _⟩ := hsm rfl
      clear hsm
      go_wp2_with fail
      refine (alive_any w w2 hb2).mono ?_
      rintro e w3 ⟨rfl, hb3, hk3⟩
      go_wp2
      go_ret
      exact ⟨rfl, hb3⟩

theorem readable : ∀ t ∈ #[22, 9, 23].toList, Try.prog.readableRec t = true ∧ t < Try.prog.types.size := by
  intro t ht
  have h : t ∈ ([22, 9, 23] : List TypeId) := ht
  simp only [List.mem_cons, List.not_mem_nil, or_false] at h
  rcases h with rfl | rfl | rfl
  · exact ⟨by kernel_rfl, of_decide_eq_true (by kernel_rfl)⟩
  · exact ⟨by kernel_rfl, of_decide_eq_true (by kernel_rfl)⟩
  · exact ⟨by kernel_rfl, of_decide_eq_true (by kernel_rfl)⟩

theorem lifted (os : Os) (started : os.Started) (H : Type) (enc : TypeId × Value → H) :
    ReturnsInHanded {} Try.checked os 4 .any (Rows.condsAgainSpec.pre6 enc Try.prog Try.f4 Rows.condsAgainRow.domain false) (Rows.condsAgainSpec.post enc Try.prog Try.f4 false true false false) := by
  refine returnsInHanded_of_change_sized (C := Try.checked) own started (by kernel_rfl) Try.func4
    (ChangeSpec.witness6 (enc := enc) (C := Try.checked) false ⟨#[], #[.slice none 0 0, .string ⟨#[]⟩, .agg #[.string ⟨#[]⟩, .string ⟨#[]⟩]], []⟩ 8 (by kernel_rfl) (by kernel_rfl) (by kernel_rfl) (by kernel_rfl)) ?_
  intro W base args ds gs before hval hW _ hz _
  have hW' := hW
  obtain ⟨p, q, hA, hV, rfl, hfz, hnd⟩ := hW
  rw [Try.params4] at hA hval
  obtain ⟨v0, vs0, d0, ds0, p0, q0, hargs0, rfl, rfl, h0, r0⟩ := trodAll_cons hA
  obtain ⟨v1, vs1, d1, ds1, p1, q1, hargs1, rfl, rfl, h1, r1⟩ := trodAll_cons r0
  obtain ⟨v2, vs2, d2, ds2, p2, q2, hargs2, rfl, rfl, h2, r2⟩ := trodAll_cons r1
  obtain ⟨rfl, rfl, rfl⟩ := trodAll_nil r2
  subst hargs1
  subst hargs2
  obtain rfl : args = #[v0, v1, v2] := by cases args; simp_all
  obtain ⟨rfl, rfl⟩ := trodVars_none hV
  obtain ⟨l0, hA0⟩ := attrs_arg (hval 0 22 v0 rfl rfl) h0 (fun n hn => by have := List.all_eq_true.1 hz n (DataW.weights_mem_each (j := 0) rfl rfl n hn); simpa using this)
  obtain ⟨s1, rfl, rfl, rfl, hs1⟩ := string_arg (hval 1 9 v1 rfl rfl) h1
  have hr1 := string_reach hz (j := 1) (s := s1) rfl rfl
  obtain ⟨s2, t2, rfl, hs2, ht2⟩ := pair_str (hval 2 23 v2 rfl rfl) h2 (fun n hn => by have := List.all_eq_true.1 hz n (DataW.weights_mem_each (j := 2) rfl rfl n hn); simpa using this)
  refine (walk W v0 l0 hA0 s1 hs1 hr1 s2 t2 hs2 ht2).mono fun e W' ⟨he, hb⟩ => ⟨_, he, law_post rfl rfl ?_ hW' rfl hb⟩
  rw [Try.params4]
  exact readable

theorem proved : Rows.CondsAgainSaid :=
  OpenClaim.holds_of_wide 4 Try.f4 rfl rfl rfl rfl rfl rfl rfl ⟨rfl, rfl, rfl, rfl, rfl⟩ rfl rfl rfl rfl rfl (by kernel_rfl) Try.func4 (by kernel_rfl)
    (of_decide_eq_true (by kernel_rfl)) (by unfold Func.isWrapper; first | (rw [if_pos (by decide +kernel)]; kernel_rfl) | (rw [if_neg (by decide +kernel)]; exact ⟨rfl, rfl⟩))
    (fun os started H enc _ => lifted os started H enc)
end Go.Proofs.Ytcdlleeonfnamaa.againLaw
