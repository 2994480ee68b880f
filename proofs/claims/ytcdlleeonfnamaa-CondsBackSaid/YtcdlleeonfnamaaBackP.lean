/-
  CondsBack: what is set is got; what is unset is not; all others are as they were; attributes that may be may be then; where the list is at most 1000 long and all texts have at most 100000 bytes, and true is answered beyond. No conditions: every list of attributes, every two names and every value.
-/
import Derived.Test.YtcdlleeonfnamaaAlive
import Derived.Test.YtcdlleeonfnamaaFacts
import Derived.Test.YtcdlleeonfnamaaPair
namespace Go.Proofs.Ytcdlleeonfnamaa.backLaw
open Go.ChangeShapes Go.WideShapes Go.ChangeAt Go.RowKit
set_option maxRecDepth 100000

/-- two texts in a box -/
def Box (w : World) (b : Nat) (s t : ByteArray) : Prop := b < w.heap.size ∧ w.cell? ⟨b, 0, none⟩ = some (.string s) ∧ w.cell? ⟨b, 1, none⟩ = some (.string t)
theorem Box.below {w w' : World} {b : Nat} {s t : ByteArray} (h : Box w b s t) (hb : Below w.heap.size w w') : Box w' b s t :=
  ⟨Nat.lt_of_lt_of_le h.1 hb.size, (hb.cell (p := ⟨b, 0, none⟩) h.1).trans h.2.1, (hb.cell (p := ⟨b, 1, none⟩) h.1).trans h.2.2⟩
theorem box_new (w : World) (s t : ByteArray) : Box (w.alloc (.cells #[.string s, .string t] 23)) w.heap.size s t := ⟨by simp, by simp, by simp⟩

theorem tl {x y : ByteArray} (h : ¬ x = y) : ¬ x.toList = y.toList := by
  intro e; rw [Lib.toList_data, Lib.toList_data] at e; exact h (ByteArray.ext (Array.toList_inj.1 e))
theorem tl_ne {x y : ByteArray} (h : ¬ x = y) : (x.toList == y.toList) = false := by rw [beq_eq_false_iff_ne]; exact tl h

set_option maxHeartbeats 4000000 in
theorem walk (w : World) (v : Value) (l : List At) (hA0 : Attrs w v l) (n0 n1 : ByteArray) (hn0 : n0.size ≤ 140737488351232) (hn1 : n1.size ≤ 140737488351232) (u : ByteArray) (_hs : u.size ≤ maxLen) (hu : u.size ≤ 140737488351232) :
    Calls Try.prog 3 #[v, .agg #[.string n0, .string n1], .string u] w fun e w' => e = .returned (.bool true) ∧ Below w.heap.size w w' := by
  by_cases hz1 : n1.size ≤ 100000
  · by_cases hz2 : u.size ≤ 100000
    · cases hC : (checkL l && nameB n0.data.toList && mayL u.data.toList) with
      | false =>
        obtain ⟨e1, e2⟩ := setE_no hC
        cases hcl : checkL l with
        | false =>
          obtain ⟨f1, f2⟩ := cutE_no (l := l) (n := n0) (by rw [hcl]; rfl)
          clear hC
          go_enter Try.func3, Try.ntmps3
          go_wp2_with fail
          refine (alive_any w _ (laidNew _ _)).mono ?_
          rintro e w1 ⟨rfl, hb1, hk1⟩
          have X := (box_new w n0 n1).below hk1
          have hA := (hA0.below (laidNew _ _)).below hk1
          have hx0 := X.2.1
          have hx1 := X.2.2
          go_wp2_with fail
          refine (great_c v l n0 w w1 hb1 hA hn0).mono ?_
          rintro e w2 ⟨g, rfl, hsm, hb2, hk2⟩
          have X := X.below hk2
          have hA := hA.below hk2
          have hx0 := X.2.1
          have hx1 := X.2.2
          clear hA0 hb1 hk1 hk2
          cases g with
          | true =>
            go_wp2_with fail
            refine (alive_any w w2 hb2).mono ?_
            rintro e w3 ⟨rfl, hb3, hk3⟩
            go_wp2
            go_ret
            exact ⟨rfl, hb3⟩
          | false =>
            obtain ⟨⟨hl1, _⟩, _⟩ := hsm rfl
            clear hsm
            go_wp2_with fail
            refine (set_c v l n0 u w w2 hb2 hA hn0 hu).mono ?_
            rintro e w3 ⟨a3, rfl, O3, hb3, hk3⟩
            have X := X.below hk3
            have hA := hA.below hk3
            have hx0 := X.2.1
            have hx1 := X.2.2
            rw [e1]
            obtain ⟨p, c, rfl⟩ := O3.form
            rw [e2]
            go_wp2_with fail
            refine (unset_c v l n0 w w3 hb3 hA hn0).mono ?_
            rintro e w4 ⟨a4, rfl, O4, hb4, hk4⟩
            have X := X.below hk4
            have hA := hA.below hk4
            have hx0 := X.2.1
            have hx1 := X.2.2
            rw [f1]
            go_wp2_with fail
            refine (check_c v l w w4 hb4 hA).mono ?_
            rintro e w5 ⟨rfl, hb5, hk5⟩
            rw [hcl]
            go_wp2
            go_ret
            exact ⟨rfl, hb5⟩
        | true =>
          cases hnm : nameB n0.data.toList with
          | false =>
            obtain ⟨f1, f2⟩ := cutE_no (l := l) (n := n0) (by rw [hnm]; simp)
            clear hC
            go_enter Try.func3, Try.ntmps3
            go_wp2_with fail
            refine (alive_any w _ (laidNew _ _)).mono ?_
            rintro e w1 ⟨rfl, hb1, hk1⟩
            have X := (box_new w n0 n1).below hk1
            have hA := (hA0.below (laidNew _ _)).below hk1
            have hx0 := X.2.1
            have hx1 := X.2.2
            go_wp2_with fail
            refine (great_c v l n0 w w1 hb1 hA hn0).mono ?_
            rintro e w2 ⟨g, rfl, hsm, hb2, hk2⟩
            have X := X.below hk2
            have hA := hA.below hk2
            have hx0 := X.2.1
            have hx1 := X.2.2
            clear hA0 hb1 hk1 hk2
            cases g with
            | true =>
              go_wp2_with fail
              refine (alive_any w w2 hb2).mono ?_
              rintro e w3 ⟨rfl, hb3, hk3⟩
              go_wp2
              go_ret
              exact ⟨rfl, hb3⟩
            | false =>
              obtain ⟨⟨hl1, _⟩, _⟩ := hsm rfl
              clear hsm
              go_wp2_with fail
              refine (set_c v l n0 u w w2 hb2 hA hn0 hu).mono ?_
              rintro e w3 ⟨a3, rfl, O3, hb3, hk3⟩
              have X := X.below hk3
              have hA := hA.below hk3
              have hx0 := X.2.1
              have hx1 := X.2.2
              rw [e1]
              obtain ⟨p, c, rfl⟩ := O3.form
              rw [e2]
              go_wp2_with fail
              refine (unset_c v l n0 w w3 hb3 hA hn0).mono ?_
              rintro e w4 ⟨a4, rfl, O4, hb4, hk4⟩
              have X := X.below hk4
              have hA := hA.below hk4
              have hx0 := X.2.1
              have hx1 := X.2.2
              rw [f1]
              go_wp2_with fail
              refine (check_c v l w w4 hb4 hA).mono ?_
              rintro e w5 ⟨rfl, hb5, hk5⟩
              rw [hcl]
              have X := X.below hk5
              have hx0 := X.2.1
              have hx1 := X.2.2
              go_wp2_with fail
              refine (name_c n0 w w5 hb5 hn0).mono ?_
              rintro e w' ⟨rfl, rfl⟩
              rw [hnm]
              go_wp2
              go_ret
              exact ⟨rfl, hb5⟩
          | true =>
            obtain ⟨f1, f2⟩ := cutE_ok (l := l) (n := n0) (by rw [hcl, hnm]; rfl)
            clear hC
            go_enter Try.func3, Try.ntmps3
            go_wp2_with fail
            refine (alive_any w _ (laidNew _ _)).mono ?_
            rintro e w1 ⟨rfl, hb1, hk1⟩
            have X := (box_new w n0 n1).below hk1
            have hA := (hA0.below (laidNew _ _)).below hk1
            have hx0 := X.2.1
            have hx1 := X.2.2
            go_wp2_with fail
            refine (great_c v l n0 w w1 hb1 hA hn0).mono ?_
            rintro e w2 ⟨g, rfl, hsm, hb2, hk2⟩
            have X := X.below hk2
            have hA := hA.below hk2
            have hx0 := X.2.1
            have hx1 := X.2.2
            clear hA0 hb1 hk1 hk2
            cases g with
            | true =>
              go_wp2_with fail
              refine (alive_any w w2 hb2).mono ?_
              rintro e w3 ⟨rfl, hb3, hk3⟩
              go_wp2
              go_ret
              exact ⟨rfl, hb3⟩
            | false =>
              obtain ⟨⟨hl1, _⟩, _⟩ := hsm rfl
              clear hsm
              go_wp2_with fail
              refine (set_c v l n0 u w w2 hb2 hA hn0 hu).mono ?_
              rintro e w3 ⟨a3, rfl, O3, hb3, hk3⟩
              have X := X.below hk3
              have hA := hA.below hk3
              have hx0 := X.2.1
              have hx1 := X.2.2
              rw [e1]
              obtain ⟨p, c, rfl⟩ := O3.form
              rw [e2]
              go_wp2_with fail
              refine (unset_c v l n0 w w3 hb3 hA hn0).mono ?_
              rintro e w4 ⟨a4, rfl, O4, hb4, hk4⟩
              have X := X.below hk4
              have hA := hA.below hk4
              have hx0 := X.2.1
              have hx1 := X.2.2
              rw [f1]
              go_wp2_with fail
              refine (check_c v l w w4 hb4 hA).mono ?_
              rintro e w5 ⟨rfl, hb5, hk5⟩
              rw [hcl]
              have X := X.below hk5
              have hx0 := X.2.1
              have hx1 := X.2.2
              go_wp2_with fail
              refine (name_c n0 w w5 hb5 hn0).mono ?_
              rintro e w' ⟨rfl, rfl⟩
              rw [hnm]
              go_wp2
              go_ret
              exact ⟨rfl, hb5⟩
      | true =>
        obtain ⟨hcl, hnm, hmy⟩ := three hC
        obtain ⟨f1, f2⟩ := cutE_ok (l := l) (n := n0) (by rw [hcl, hnm]; rfl)
        have hk0 := check_cut hcl n0
        have g0 := get_cut_same l n0
        obtain ⟨pv, cv, hv⟩ : ∃ p c, v = .slice p l.length c := by obtain ⟨p, c, h, _⟩ := hA0; exact ⟨p, c, h⟩
        subst hv
        by_cases hput : (putL l n0 u).length ≤ 64
        · obtain ⟨e1, e2⟩ := setE_ok hC hput
          have hk1 := check_put hcl n0 u hnm hmy hput
          have p0 := get_put_same l n0 u
          have huu : (u.toList == u.toList) = true := by simp
          by_cases hnn : n1 = n0
          · subst hnn
            cases ho : getL l n1
            all_goals
              clear hC hcl hnm hmy
              go_enter Try.func3, Try.ntmps3
              go_wp2_with fail
              refine (alive_any w _ (laidNew _ _)).mono ?_
              rintro e w1 ⟨rfl, hb1, hk1⟩
              have X := (box_new w n1 n1).below hk1
              have hA := (hA0.below (laidNew _ _)).below hk1
              have hx0 := X.2.1
              have hx1 := X.2.2
              go_wp2_with fail
              refine (great_c (.slice pv l.length cv) l n1 w w1 hb1 hA hn1).mono ?_
              rintro e w2 ⟨g, rfl, hsm, hb2, hk2⟩
              have X := X.below hk2
              have hA := hA.below hk2
              have hx0 := X.2.1
              have hx1 := X.2.2
              clear hA0 hb1 hk1 hk2
              cases g with
              | true =>
                go_wp2_with fail
                refine (alive_any w w2 hb2).mono ?_
                rintro e w3 ⟨rfl, hb3, hk3⟩
                go_wp2
                go_ret
                exact ⟨rfl, hb3⟩
              | false =>
                obtain ⟨⟨hl1, _⟩, _⟩ := hsm rfl
                clear hsm
                go_wp2_with fail
                refine (set_c (.slice pv l.length cv) l n1 u w w2 hb2 hA hn1 hu).mono ?_
                rintro e w3 ⟨a3, rfl, O3, hb3, hk3⟩
                have X := X.below hk3
                have hA := hA.below hk3
                have hx0 := X.2.1
                have hx1 := X.2.2
                rw [e1]
                rw [e2] at O3
                go_wp2_with fail
                refine (unset_c (.slice pv l.length cv) l n1 w w3 hb3 hA hn1).mono ?_
                rintro e w4 ⟨a4, rfl, O4, hb4, hk4⟩
                have X := X.below hk4
                have hA := hA.below hk4
                have O3 := O3.below hk4
                have hx0 := X.2.1
                have hx1 := X.2.2
                rw [f1]
                rw [f2] at O4
                go_wp2_with fail
                refine (get_c a4 _ n1 w w4 hb4 (O4.attrs (by have := List.length_filter_le (neP n1) l; unfold cutL; omega)) hn1).mono ?_
                rintro e w5 ⟨rfl, hb5, hk5⟩
                have X := X.below hk5
                have hA := hA.below hk5
                have O4 := O4.below hk5
                have O3 := O3.below hk5
                have hx0 := X.2.1
                have hx1 := X.2.2
                rw [g0]
                unfold getV
                go_wp2_with fail
                refine (get_c (.slice pv l.length cv) l n1 w w5 hb5 hA hn1).mono ?_
                rintro e w6 ⟨rfl, hb6, hk6⟩
                have X := X.below hk6
                have hA := hA.below hk6
                have O4 := O4.below hk6
                have O3 := O3.below hk6
                have hx0 := X.2.1
                have hx1 := X.2.2
                rw [ho]
                unfold getV
                go_wp2_with fail
                refine (get_c a4 _ n1 w w6 hb6 (O4.attrs (by have := List.length_filter_le (neP n1) l; unfold cutL; omega)) hn1).mono ?_
                rintro e w7 ⟨rfl, hb7, hk7⟩
                have X := X.below hk7
                have hA := hA.below hk7
                have O4 := O4.below hk7
                have O3 := O3.below hk7
                have hx0 := X.2.1
                have hx1 := X.2.2
                rw [g0]
                unfold getV
                go_wp2_with fail
                refine (check_c a4 _ w w7 hb7 (O4.attrs (by have := List.length_filter_le (neP n1) l; unfold cutL; omega))).mono ?_
                rintro e w8 ⟨rfl, hb8, hk8⟩
                have X := X.below hk8
                have hA := hA.below hk8
                have O4 := O4.below hk8
                have O3 := O3.below hk8
                have hx0 := X.2.1
                have hx1 := X.2.2
                rw [hk0]
                go_wp2_with fail
                refine (get_c a3 _ n1 w w8 hb8 (O3.attrs (by omega)) hn1).mono ?_
                rintro e w9 ⟨rfl, hb9, hk9⟩
                have X := X.below hk9
                have hA := hA.below hk9
                have O4 := O4.below hk9
                have O3 := O3.below hk9
                have hx0 := X.2.1
                have hx1 := X.2.2
                rw [p0]
                unfold getV
                go_wp2_with fail
                refine (get_c a3 _ n1 w w9 hb9 (O3.attrs (by omega)) hn1).mono ?_
                rintro e w10 ⟨rfl, hb10, hk10⟩
                have X := X.below hk10
                have hA := hA.below hk10
                have O4 := O4.below hk10
                have O3 := O3.below hk10
                have hx0 := X.2.1
                have hx1 := X.2.2
                rw [p0]
                unfold getV
                go_wp2_with fail
                refine (check_c a3 _ w w10 hb10 (O3.attrs (by omega))).mono ?_
                rintro e w11 ⟨rfl, hb11, hk11⟩
                rw [hk1]
                go_wp2
                go_ret
                exact ⟨rfl, hb11⟩
          · have hne := tl_ne hnn
            have g1 := get_cut_other l n0 n1 (tl hnn)
            have p1 := get_put_other l n0 u n1 (tl hnn)
            clear hnn
            cases ho : getL l n1
            all_goals
              clear hC hcl hnm hmy
              go_enter Try.func3, Try.ntmps3
              go_wp2_with fail
              refine (alive_any w _ (laidNew _ _)).mono ?_
              rintro e w1 ⟨rfl, hb1, hk1⟩
              have X := (box_new w n0 n1).below hk1
              have hA := (hA0.below (laidNew _ _)).below hk1
              have hx0 := X.2.1
              have hx1 := X.2.2
              go_wp2_with fail
              refine (great_c (.slice pv l.length cv) l n0 w w1 hb1 hA hn0).mono ?_
              rintro e w2 ⟨g, rfl, hsm, hb2, hk2⟩
              have X := X.below hk2
              have hA := hA.below hk2
              have hx0 := X.2.1
              have hx1 := X.2.2
              clear hA0 hb1 hk1 hk2
              cases g with
              | true =>
                go_wp2_with fail
                refine (alive_any w w2 hb2).mono ?_
                rintro e w3 ⟨rfl, hb3, hk3⟩
                go_wp2
                go_ret
                exact ⟨rfl, hb3⟩
              | false =>
                obtain ⟨⟨hl1, _⟩, _⟩ := hsm rfl
                clear hsm
                go_wp2_with fail
                refine (set_c (.slice pv l.length cv) l n0 u w w2 hb2 hA hn0 hu).mono ?_
                rintro e w3 ⟨a3, rfl, O3, hb3, hk3⟩
                have X := X.below hk3
                have hA := hA.below hk3
                have hx0 := X.2.1
                have hx1 := X.2.2
                rw [e1]
                rw [e2] at O3
                go_wp2_with fail
                refine (unset_c (.slice pv l.length cv) l n0 w w3 hb3 hA hn0).mono ?_
                rintro e w4 ⟨a4, rfl, O4, hb4, hk4⟩
                have X := X.below hk4
                have hA := hA.below hk4
                have O3 := O3.below hk4
                have hx0 := X.2.1
                have hx1 := X.2.2
                rw [f1]
                rw [f2] at O4
                go_wp2_with fail
                refine (get_c a4 _ n0 w w4 hb4 (O4.attrs (by have := List.length_filter_le (neP n0) l; unfold cutL; omega)) hn0).mono ?_
                rintro e w5 ⟨rfl, hb5, hk5⟩
                have X := X.below hk5
                have hA := hA.below hk5
                have O4 := O4.below hk5
                have O3 := O3.below hk5
                have hx0 := X.2.1
                have hx1 := X.2.2
                rw [g0]
                unfold getV
                go_wp2_with fail
                refine (get_c (.slice pv l.length cv) l n1 w w5 hb5 hA hn1).mono ?_
                rintro e w6 ⟨rfl, hb6, hk6⟩
                have X := X.below hk6
                have hA := hA.below hk6
                have O4 := O4.below hk6
                have O3 := O3.below hk6
                have hx0 := X.2.1
                have hx1 := X.2.2
                rw [ho]
                unfold getV
                go_wp2_with fail
                refine (get_c a4 _ n1 w w6 hb6 (O4.attrs (by have := List.length_filter_le (neP n0) l; unfold cutL; omega)) hn1).mono ?_
                rintro e w7 ⟨rfl, hb7, hk7⟩
                have X := X.below hk7
                have hA := hA.below hk7
                have O4 := O4.below hk7
                have O3 := O3.below hk7
                have hx0 := X.2.1
                have hx1 := X.2.2
                rw [g1, ho]
                unfold getV
                go_wp2_with fail
                refine (check_c a4 _ w w7 hb7 (O4.attrs (by have := List.length_filter_le (neP n0) l; unfold cutL; omega))).mono ?_
                rintro e w8 ⟨rfl, hb8, hk8⟩
                have X := X.below hk8
                have hA := hA.below hk8
                have O4 := O4.below hk8
                have O3 := O3.below hk8
                have hx0 := X.2.1
                have hx1 := X.2.2
                rw [hk0]
                go_wp2_with fail
                refine (get_c a3 _ n0 w w8 hb8 (O3.attrs (by omega)) hn0).mono ?_
                rintro e w9 ⟨rfl, hb9, hk9⟩
                have X := X.below hk9
                have hA := hA.below hk9
                have O4 := O4.below hk9
                have O3 := O3.below hk9
                have hx0 := X.2.1
                have hx1 := X.2.2
                rw [p0]
                unfold getV
                go_wp2_with fail
                refine (get_c a3 _ n1 w w9 hb9 (O3.attrs (by omega)) hn1).mono ?_
                rintro e w10 ⟨rfl, hb10, hk10⟩
                have X := X.below hk10
                have hA := hA.below hk10
                have O4 := O4.below hk10
                have O3 := O3.below hk10
                have hx0 := X.2.1
                have hx1 := X.2.2
                rw [p1, ho]
                unfold getV
                go_wp2_with fail
                refine (check_c a3 _ w w10 hb10 (O3.attrs (by omega))).mono ?_
                rintro e w11 ⟨rfl, hb11, hk11⟩
                rw [hk1]
                go_wp2
                go_ret
                exact ⟨rfl, hb11⟩
        · obtain ⟨e1, e2⟩ := setE_full hC hput
          have h64 : ((l.length : Int) == 64) = true := by rw [full_length hcl hput]; rfl
          by_cases hnn : n1 = n0
          · subst hnn
            cases ho : getL l n1
            all_goals
              clear hC hput hcl hnm hmy
              go_enter Try.func3, Try.ntmps3
              go_wp2_with fail
              refine (alive_any w _ (laidNew _ _)).mono ?_
              rintro e w1 ⟨rfl, hb1, hk1⟩
              have X := (box_new w n1 n1).below hk1
              have hA := (hA0.below (laidNew _ _)).below hk1
              have hx0 := X.2.1
              have hx1 := X.2.2
              go_wp2_with fail
              refine (great_c (.slice pv l.length cv) l n1 w w1 hb1 hA hn1).mono ?_
              rintro e w2 ⟨g, rfl, hsm, hb2, hk2⟩
              have X := X.below hk2
              have hA := hA.below hk2
              have hx0 := X.2.1
              have hx1 := X.2.2
              clear hA0 hb1 hk1 hk2
              cases g with
              | true =>
                go_wp2_with fail
                refine (alive_any w w2 hb2).mono ?_
                rintro e w3 ⟨rfl, hb3, hk3⟩
                go_wp2
                go_ret
                exact ⟨rfl, hb3⟩
              | false =>
                obtain ⟨⟨hl1, _⟩, _⟩ := hsm rfl
                clear hsm
                go_wp2_with fail
                refine (set_c (.slice pv l.length cv) l n1 u w w2 hb2 hA hn1 hu).mono ?_
                rintro e w3 ⟨a3, rfl, O3, hb3, hk3⟩
                have X := X.below hk3
                have hA := hA.below hk3
                have hx0 := X.2.1
                have hx1 := X.2.2
                rw [e1]
                rw [e2] at O3
                obtain ⟨p, c, rfl⟩ := O3.form
                go_wp2_with fail
                refine (unset_c (.slice pv l.length cv) l n1 w w3 hb3 hA hn1).mono ?_
                rintro e w4 ⟨a4, rfl, O4, hb4, hk4⟩
                have X := X.below hk4
                have hA := hA.below hk4
                have hx0 := X.2.1
                have hx1 := X.2.2
                rw [f1]
                rw [f2] at O4
                go_wp2_with fail
                refine (get_c a4 _ n1 w w4 hb4 (O4.attrs (by have := List.length_filter_le (neP n1) l; unfold cutL; omega)) hn1).mono ?_
                rintro e w5 ⟨rfl, hb5, hk5⟩
                have X := X.below hk5
                have hA := hA.below hk5
                have O4 := O4.below hk5
                have hx0 := X.2.1
                have hx1 := X.2.2
                rw [g0]
                unfold getV
                go_wp2_with fail
                refine (get_c (.slice pv l.length cv) l n1 w w5 hb5 hA hn1).mono ?_
                rintro e w6 ⟨rfl, hb6, hk6⟩
                have X := X.below hk6
                have hA := hA.below hk6
                have O4 := O4.below hk6
                have hx0 := X.2.1
                have hx1 := X.2.2
                rw [ho]
                unfold getV
                go_wp2_with fail
                refine (get_c a4 _ n1 w w6 hb6 (O4.attrs (by have := List.length_filter_le (neP n1) l; unfold cutL; omega)) hn1).mono ?_
                rintro e w7 ⟨rfl, hb7, hk7⟩
                have X := X.below hk7
                have hA := hA.below hk7
                have O4 := O4.below hk7
                have hx0 := X.2.1
                have hx1 := X.2.2
                rw [g0]
                unfold getV
                go_wp2_with fail
                refine (check_c a4 _ w w7 hb7 (O4.attrs (by have := List.length_filter_le (neP n1) l; unfold cutL; omega))).mono ?_
                rintro e w8 ⟨rfl, hb8, hk8⟩
                have X := X.below hk8
                have hA := hA.below hk8
                have O4 := O4.below hk8
                have hx0 := X.2.1
                have hx1 := X.2.2
                rw [hk0]
                go_wp2
                go_ret
                exact ⟨rfl, hb8⟩
          · have hne := tl_ne hnn
            have g1 := get_cut_other l n0 n1 (tl hnn)
            clear hnn
            cases ho : getL l n1
            all_goals
              clear hC hput hcl hnm hmy
              go_enter Try.func3, Try.ntmps3
              go_wp2_with fail
              refine (alive_any w _ (laidNew _ _)).mono ?_
              rintro e w1 ⟨rfl, hb1, hk1⟩
              have X := (box_new w n0 n1).below hk1
              have hA := (hA0.below (laidNew _ _)).below hk1
              have hx0 := X.2.1
              have hx1 := X.2.2
              go_wp2_with fail
              refine (great_c (.slice pv l.length cv) l n0 w w1 hb1 hA hn0).mono ?_
              rintro e w2 ⟨g, rfl, hsm, hb2, hk2⟩
              have X := X.below hk2
              have hA := hA.below hk2
              have hx0 := X.2.1
              have hx1 := X.2.2
              clear hA0 hb1 hk1 hk2
              cases g with
              | true =>
                go_wp2_with fail
                refine (alive_any w w2 hb2).mono ?_
                rintro e w3 ⟨rfl, hb3, hk3⟩
                go_wp2
                go_ret
                exact ⟨rfl, hb3⟩
              | false =>
                obtain ⟨⟨hl1, _⟩, _⟩ := hsm rfl
                clear hsm
                go_wp2_with fail
                refine (set_c (.slice pv l.length cv) l n0 u w w2 hb2 hA hn0 hu).mono ?_
                rintro e w3 ⟨a3, rfl, O3, hb3, hk3⟩
                have X := X.below hk3
                have hA := hA.below hk3
                have hx0 := X.2.1
                have hx1 := X.2.2
                rw [e1]
                rw [e2] at O3
                obtain ⟨p, c, rfl⟩ := O3.form
                go_wp2_with fail
                refine (unset_c (.slice pv l.length cv) l n0 w w3 hb3 hA hn0).mono ?_
                rintro e w4 ⟨a4, rfl, O4, hb4, hk4⟩
                have X := X.below hk4
                have hA := hA.below hk4
                have hx0 := X.2.1
                have hx1 := X.2.2
                rw [f1]
                rw [f2] at O4
                go_wp2_with fail
                refine (get_c a4 _ n0 w w4 hb4 (O4.attrs (by have := List.length_filter_le (neP n0) l; unfold cutL; omega)) hn0).mono ?_
                rintro e w5 ⟨rfl, hb5, hk5⟩
                have X := X.below hk5
                have hA := hA.below hk5
                have O4 := O4.below hk5
                have hx0 := X.2.1
                have hx1 := X.2.2
                rw [g0]
                unfold getV
                go_wp2_with fail
                refine (get_c (.slice pv l.length cv) l n1 w w5 hb5 hA hn1).mono ?_
                rintro e w6 ⟨rfl, hb6, hk6⟩
                have X := X.below hk6
                have hA := hA.below hk6
                have O4 := O4.below hk6
                have hx0 := X.2.1
                have hx1 := X.2.2
                rw [ho]
                unfold getV
                go_wp2_with fail
                refine (get_c a4 _ n1 w w6 hb6 (O4.attrs (by have := List.length_filter_le (neP n0) l; unfold cutL; omega)) hn1).mono ?_
                rintro e w7 ⟨rfl, hb7, hk7⟩
                have X := X.below hk7
                have hA := hA.below hk7
                have O4 := O4.below hk7
                have hx0 := X.2.1
                have hx1 := X.2.2
                rw [g1, ho]
                unfold getV
                go_wp2_with fail
                refine (check_c a4 _ w w7 hb7 (O4.attrs (by have := List.length_filter_le (neP n0) l; unfold cutL; omega))).mono ?_
                rintro e w8 ⟨rfl, hb8, hk8⟩
                have X := X.below hk8
                have hA := hA.below hk8
                have O4 := O4.below hk8
                have hx0 := X.2.1
                have hx1 := X.2.2
                rw [hk0]
                go_wp2
                go_ret
                exact ⟨rfl, hb8⟩
    · have hz3 : decide ((100000 : Int) < (u.size : Int)) = true := by simp; omega
      go_enter Try.func3, Try.ntmps3
      go_wp2_with fail
      refine (alive_any w _ (laidNew _ _)).mono ?_
      rintro e w1 ⟨rfl, hb1, hk1⟩
      have X := (box_new w n0 n1).below hk1
      have hA := (hA0.below (laidNew _ _)).below hk1
      have hx0 := X.2.1
      have hx1 := X.2.2
      go_wp2_with fail
      refine (great_c v l n0 w w1 hb1 hA hn0).mono ?_
      rintro e w2 ⟨g, rfl, hsm, hb2, hk2⟩
      have X := X.below hk2
      have hA := hA.below hk2
      have hx0 := X.2.1
      have hx1 := X.2.2
      clear hA0 hb1 hk1 hk2
      cases g with
      | true =>
        go_wp2_with fail
        refine (alive_any w w2 hb2).mono ?_
        rintro e w3 ⟨rfl, hb3, hk3⟩
        go_wp2
        go_ret
        exact ⟨rfl, hb3⟩
      | false =>
        obtain ⟨⟨hl1, _⟩, _⟩ := hsm rfl
        clear hsm
        go_wp2_with fail
        refine (alive_any w w2 hb2).mono ?_
        rintro e w3 ⟨rfl, hb3, hk3⟩
        go_wp2
        go_ret
        exact ⟨rfl, hb3⟩
  · have hz3 : decide ((100000 : Int) < (n1.size : Int)) = true := by simp; omega
    go_enter Try.func3, Try.ntmps3
    go_wp2_with fail
    refine (alive_any w _ (laidNew _ _)).mono ?_
    rintro e w1 ⟨rfl, hb1, hk1⟩
    have X := (box_new w n0 n1).below hk1
    have hA := (hA0.below (laidNew _ _)).below hk1
    have hx0 := X.2.1
    have hx1 := X.2.2
    go_wp2_with fail
    refine (great_c v l n0 w w1 hb1 hA hn0).mono ?_
    rintro e w2 ⟨g, rfl, hsm, hb2, hk2⟩
    have X := X.below hk2
    have hA := hA.below hk2
    have hx0 := X.2.1
    have hx1 := X.2.2
    clear hA0 hb1 hk1 hk2
    cases g with
    | true =>
      go_wp2_with fail
      refine (alive_any w w2 hb2).mono ?_
      rintro e w3 ⟨rfl, hb3, hk3⟩
      go_wp2
      go_ret
      exact ⟨rfl, hb3⟩
    | false =>
      obtain ⟨⟨hl1, _⟩, _⟩ := hsm rfl
      clear hsm
      go_wp2_with fail
      refine (alive_any w w2 hb2).mono ?_
      rintro e w3 ⟨rfl, hb3, hk3⟩
      go_wp2
      go_ret
      exact ⟨rfl, hb3⟩

theorem readable : ∀ t ∈ #[22, 23, 9].toList, Try.prog.readableRec t = true ∧ t < Try.prog.types.size := by
  intro t ht
  have h : t ∈ ([22, 23, 9] : List TypeId) := ht
  simp only [List.mem_cons, List.not_mem_nil, or_false] at h
  rcases h with rfl | rfl | rfl
  · exact ⟨by kernel_rfl, of_decide_eq_true (by kernel_rfl)⟩
  · exact ⟨by kernel_rfl, of_decide_eq_true (by kernel_rfl)⟩
  · exact ⟨by kernel_rfl, of_decide_eq_true (by kernel_rfl)⟩

theorem lifted (os : Os) (started : os.Started) (H : Type) (enc : TypeId × Value → H) :
    ReturnsInHanded {} Try.checked os 3 .any (Rows.condsBackSpec.pre6 enc Try.prog Try.f3 Rows.condsBackRow.domain false) (Rows.condsBackSpec.post enc Try.prog Try.f3 false true false false) := by
  refine returnsInHanded_of_change_sized (C := Try.checked) own started (by kernel_rfl) Try.func3
    (ChangeSpec.witness6 (enc := enc) (C := Try.checked) false ⟨#[], #[.slice none 0 0, .agg #[.string ⟨#[]⟩, .string ⟨#[]⟩], .string ⟨#[]⟩], []⟩ 8 (by kernel_rfl) (by kernel_rfl) (by kernel_rfl) (by kernel_rfl)) ?_
  intro W base args ds gs before hval hW _ hz _
  have hW' := hW
  obtain ⟨p, q, hA, hV, rfl, hfz, hnd⟩ := hW
  rw [Try.params3] at hA hval
  obtain ⟨v0, vs0, d0, ds0, p0, q0, hargs0, rfl, rfl, h0, r0⟩ := trodAll_cons hA
  obtain ⟨v1, vs1, d1, ds1, p1, q1, hargs1, rfl, rfl, h1, r1⟩ := trodAll_cons r0
  obtain ⟨v2, vs2, d2, ds2, p2, q2, hargs2, rfl, rfl, h2, r2⟩ := trodAll_cons r1
  obtain ⟨rfl, rfl, rfl⟩ := trodAll_nil r2
  subst hargs1
  subst hargs2
  obtain rfl : args = #[v0, v1, v2] := by cases args; simp_all
  obtain ⟨rfl, rfl⟩ := trodVars_none hV
  obtain ⟨l0, hA0⟩ := attrs_arg (hval 0 22 v0 rfl rfl) h0 (fun n hn => by have := List.all_eq_true.1 hz n (DataW.weights_mem_each (j := 0) rfl rfl n hn); simpa using this)
  obtain ⟨s1, t1, rfl, hs1, ht1⟩ := pair_str (hval 1 23 v1 rfl rfl) h1 (fun n hn => by have := List.all_eq_true.1 hz n (DataW.weights_mem_each (j := 1) rfl rfl n hn); simpa using this)
  obtain ⟨s2, rfl, rfl, rfl, hs2⟩ := string_arg (hval 2 9 v2 rfl rfl) h2
  have hr2 := string_reach hz (j := 2) (s := s2) rfl rfl
  refine (walk W v0 l0 hA0 s1 t1 hs1 ht1 s2 hs2 hr2).mono fun e W' ⟨he, hb⟩ => ⟨_, he, law_post rfl rfl ?_ hW' rfl hb⟩
  rw [Try.params3]
  exact readable

theorem proved : Rows.CondsBackSaid :=
  OpenClaim.holds_of_wide 3 Try.f3 rfl rfl rfl rfl rfl rfl rfl ⟨rfl, rfl, rfl, rfl, rfl⟩ rfl rfl rfl rfl rfl (by kernel_rfl) Try.func3 (by kernel_rfl)
    (of_decide_eq_true (by kernel_rfl)) (by unfold Func.isWrapper; first | (rw [if_pos (by decide +kernel)]; kernel_rfl) | (rw [if_neg (by decide +kernel)]; exact ⟨rfl, rfl⟩))
    (fun os started H enc _ => lifted os started H enc)
end Go.Proofs.Ytcdlleeonfnamaa.backLaw
