/-
  CondsName: a name in braces is its value, if it is set, else as it stands, and it is asked for either way; where the list is at most 1000 long, all its texts have at most 100000 bytes, and the text around has at most 1000 bytes and no braces; true is answered beyond. No conditions: every list of attributes, every name and every text.
-/
import Derived.Test.YtcdlleeonfnamaaAlive
import Derived.Test.YtcdlleeonfnamaaFacts
import Derived.Test.YtcdlleeonfnamaaPair
import Derived.Test.YtcdlleeonfnamaaFills
namespace Go.Proofs.Ytcdlleeonfnamaa.nameLaw
open Go.ChangeShapes Go.WideShapes Go.ChangeAt Go.RowKit
set_option maxRecDepth 100000

theorem get_size {w : World} {v : Value} {l : List At} {n g : ByteArray} (h : Attrs w v l) (hg : getL l n = some g) : g.size ≤ 140737488351232 := by
  obtain ⟨_, _, _, _, ⟨hs, _⟩, _⟩ := h
  unfold getL at hg
  cases hf : List.find? (fun a => a.1.toList == n.toList) l with
  | none => rw [hf] at hg; cases hg
  | some x =>
    rw [hf] at hg
    injection hg with hg
    rw [← hg]
    exact (hs x (List.mem_of_find?_eq_some hf)).2
theorem cat_size (a b : ByteArray) : (a ++ b).size = a.size + b.size := ByteArray.size_append
theorem name_short {l : List UInt8} (h : nameB l = true) : l.length ≤ 60 := by
  unfold nameB at h
  simp only [Bool.and_eq_true, decide_eq_true_eq] at h
  exact h.1.1.2
def noB (c : UInt8) : Bool := !(decide (c.toNat = 123)) && !(decide (c.toNat = 125))
theorem noB_123 {a : List UInt8} (h : a.all noB = true) : ∀ c ∈ a, ¬ c = 123 := by
  rintro c hc rfl
  have := List.all_eq_true.1 h _ hc
  revert this; decide
/-- one text is held -/
theorem one_text {w : World} {base : Nat} {a : Value} {x : ByteArray} (h : w.ownsRow base 9 1 a 1 [strV x.data.toList]) : ∃ g c, a = .slice (some ⟨g, 0, none⟩) 1 c ∧ w.cell? ⟨g, 0, none⟩ = some (.string x) := by
  rcases h.2 with ⟨_, h0⟩ | ⟨g, cap, cur, rfl, r⟩
  · cases h0
  · refine ⟨g, cap, rfl, ?_⟩
    rw [h.cellAt 0 (by omega)]
    show some (Value.string (bT x.data.toList)) = _
    rw [bT_data]

set_option maxHeartbeats 4000000 in
theorem walk (w : World) (v : Value) (l : List At) (hA0 : Attrs w v l) (n : ByteArray) (_hs : n.size ≤ maxLen) (hr : n.size ≤ 140737488351232) (a : ByteArray) (_ht : a.size ≤ maxLen) (hra : a.size ≤ 140737488351232) :
    Calls Try.prog 7 #[v, .string n, .string a] w fun e w' => e = .returned (.bool true) ∧ Below w.heap.size w w' := by
  cases hnm : nameB n.data.toList with
  | false =>
    go_enter Try.func7, Try.ntmps7
    go_wp2_with fail
    refine (alive_any w _ (Below.refl _ _)).mono ?_
    rintro e w1 ⟨rfl, hb1, hk1⟩
    have hA := hA0.below hk1
    go_wp2_with fail
    refine (great_c v l n w w1 hb1 hA hr).mono ?_
    rintro e w2 ⟨g, rfl, hsm, hb2, hk2⟩
    have hA := hA.below hk2
    clear hA0 hb1 hk1 hk2
    cases g with
    | true =>
      go_wp2_with fail
      refine (alive_any w w2 hb2).mono ?_
      rintro e w3 ⟨rfl, hb3, hk3⟩
      go_wp2
      go_ret
      exact ⟨rfl, hb3⟩
    | false =>
      obtain ⟨hl1, hnz0⟩ := hsm rfl
      clear hsm
      go_wp2_with fail
      refine (name_c n w w2 hb2 hr).mono ?_
      rintro e w' ⟨rfl, rfl⟩
      rw [hnm]
      go_wp2_with fail
      refine (alive_any w w2 hb2).mono ?_
      rintro e w3 ⟨rfl, hb3, hk3⟩
      go_wp2
      go_ret
      exact ⟨rfl, hb3⟩
  | true =>
    by_cases hz1 : a.size ≤ 1000
    · have hnz : n.size ≤ 60 := by have := name_short hnm; simpa using this
      have hF := fun (ha : a.data.toList.all noB = true) => fill_twice l a.data.toList n.data.toList (noB_123 ha) hnm
      have hnn : (n.toList == n.toList) = true := by simp
      obtain ⟨S, hS⟩ : ∃ S : ByteArray, a ++ ⟨#[123]⟩ ++ n ++ ⟨#[125]⟩ ++ a ++ ⟨#[123]⟩ ++ n ++ ⟨#[125]⟩ = S := ⟨_, rfl⟩
      have hSd : S.data.toList = a.data.toList ++ 123 :: (n.data.toList ++ 125 :: (a.data.toList ++ 123 :: (n.data.toList ++ 125 :: []))) := by
        rw [← hS]; simp only [cat_data]; simp
      have hSz : S.size ≤ 100000 := by
        rw [← hS]; simp only [cat_size]
        show a.size + 1 + n.size + 1 + a.size + 1 + n.size + 1 ≤ _
        omega
      have HF := Lib.hid hF
      have HSD := Lib.hid hSd
      have HSZ := Lib.hid hSz
      clear hF hSd hSz
      cases hg : getL l n with
      | none =>
        have HR : Hid (bT (a.data.toList ++ valueL l n.data.toList ++ a.data.toList ++ valueL l n.data.toList) = a ++ (⟨#[123]⟩ ++ n ++ ⟨#[125]⟩) ++ a ++ (⟨#[123]⟩ ++ n ++ ⟨#[125]⟩)) := Lib.hid (by
          have hv : valueL l n.data.toList = 123 :: n.data.toList ++ [125] := by unfold valueL; rw [bT_data, hg]
          rw [hv, ← bT_data (a ++ (⟨#[123]⟩ ++ n ++ ⟨#[125]⟩) ++ a ++ (⟨#[123]⟩ ++ n ++ ⟨#[125]⟩))]
          congr 1)
        go_enter Try.func7, Try.ntmps7
        go_wp2_with fail
        refine (alive_any w _ (Below.refl _ _)).mono ?_
        rintro e w1 ⟨rfl, hb1, hk1⟩
        have hA := hA0.below hk1
        go_wp2_with fail
        refine (great_c v l n w w1 hb1 hA hr).mono ?_
        rintro e w2 ⟨g, rfl, hsm, hb2, hk2⟩
        have hA := hA.below hk2
        clear hA0 hb1 hk1 hk2
        cases g with
        | true =>
          go_wp2_with fail
          refine (alive_any w w2 hb2).mono ?_
          rintro e w3 ⟨rfl, hb3, hk3⟩
          go_wp2
          go_ret
          exact ⟨rfl, hb3⟩
        | false =>
          obtain ⟨hl1, hnz0⟩ := hsm rfl
          clear hsm
          go_wp2_with fail
          refine (name_c n w w2 hb2 hr).mono ?_
          rintro e w' ⟨rfl, rfl⟩
          rw [hnm]
          go_wp2
          go_loopw [7] (fun i wr => ∃ k : Nat, k ≤ a.size ∧ i = .int .i64 k ∧ (a.data.toList.take k).all noB = true ∧ wr = w2) (fun i _ => a.size - (intOf i).toNat)
          case atStart => exact ⟨0, by omega, rfl, by simp, rfl⟩
          case round =>
            obtain ⟨k, hk, rfl, ha, rfl⟩ := hrel
            have HA := Lib.hid ha
            clear ha
            by_cases hlt : k < a.size
            · have HY := Lib.hid (fun (h2 : noB a[k] = true) => all_take_succ a.data.toList noB k (by simpa using hlt) HA.out h2)
              by_cases h1 : (a[k].toNat : Int) = 123
              · have e1 : ((a[k].toNat : Int) == 123) = true := by simp [h1]
                clear h1
                go_wp2
                go_ret
                exact ⟨rfl, hb2⟩
              · have e1 : ((a[k].toNat : Int) == 123) = false := by simpa using h1
                by_cases h2 : (a[k].toNat : Int) = 125
                · have e2 : ((a[k].toNat : Int) == 125) = true := by simp [h2]
                  clear h1 h2
                  go_wp2
                  go_ret
                  exact ⟨rfl, hb2⟩
                · have e2 : ((a[k].toNat : Int) == 125) = false := by simpa using h2
                  have HO : Hid (noB a[k] = true) := Lib.hid (by simp [noB]; omega)
                  clear h1 h2
                  go_wp2
                  refine ⟨⟨k + 1, by omega, by go_num, HY.out HO.out, trivial⟩, by simp [intOf]; omega⟩
            · have hall : a.data.toList.all noB = true := by have := HA.out; rwa [List.take_of_length_le (by simp; omega)] at this
              have hfill := HF.out hall
              rw [← HSD.out] at hfill
              have HFI := Lib.hid hfill
              clear hfill hall
              go_wp2_with fail
              refine (get_c v l n w wr hb2 hA hr).mono ?_
              rintro e w3 ⟨rfl, hb3, hk3⟩
              rw [hg]
              unfold getV
              have hA := hA.below hk3
              go_wp2_with fail
              refine (fill_c v l S w w3 hb3 hA hl1 HSZ.out).mono ?_
              rintro e w4 ⟨at4, rfl, hT, hb4, hk4⟩
              rw [HFI.out] at hT ⊢
              rw [HR.out]
              obtain ⟨gg, cc, rfl, hcell⟩ := one_text hT
              clear hT
              go_wp2
              go_ret
              exact ⟨rfl, hb4⟩
      | some g =>
        have hgz := get_size hA0 hg
        have HR : Hid (bT (a.data.toList ++ valueL l n.data.toList ++ a.data.toList ++ valueL l n.data.toList) = a ++ g ++ a ++ g) := Lib.hid (by
          have hv : valueL l n.data.toList = g.data.toList := by unfold valueL; rw [bT_data, hg]
          rw [hv, ← bT_data (a ++ g ++ a ++ g)]
          congr 1)
        go_enter Try.func7, Try.ntmps7
        go_wp2_with fail
        refine (alive_any w _ (Below.refl _ _)).mono ?_
        rintro e w1 ⟨rfl, hb1, hk1⟩
        have hA := hA0.below hk1
        go_wp2_with fail
        refine (great_c v l n w w1 hb1 hA hr).mono ?_
        rintro e w2 ⟨g, rfl, hsm, hb2, hk2⟩
        have hA := hA.below hk2
        clear hA0 hb1 hk1 hk2
        cases g with
        | true =>
          go_wp2_with fail
          refine (alive_any w w2 hb2).mono ?_
          rintro e w3 ⟨rfl, hb3, hk3⟩
          go_wp2
          go_ret
          exact ⟨rfl, hb3⟩
        | false =>
          obtain ⟨hl1, hnz0⟩ := hsm rfl
          clear hsm
          go_wp2_with fail
          refine (name_c n w w2 hb2 hr).mono ?_
          rintro e w' ⟨rfl, rfl⟩
          rw [hnm]
          go_wp2
          go_loopw [7] (fun i wr => ∃ k : Nat, k ≤ a.size ∧ i = .int .i64 k ∧ (a.data.toList.take k).all noB = true ∧ wr = w2) (fun i _ => a.size - (intOf i).toNat)
          case atStart => exact ⟨0, by omega, rfl, by simp, rfl⟩
          case round =>
            obtain ⟨k, hk, rfl, ha, rfl⟩ := hrel
            have HA := Lib.hid ha
            clear ha
            by_cases hlt : k < a.size
            · have HY := Lib.hid (fun (h2 : noB a[k] = true) => all_take_succ a.data.toList noB k (by simpa using hlt) HA.out h2)
              by_cases h1 : (a[k].toNat : Int) = 123
              · have e1 : ((a[k].toNat : Int) == 123) = true := by simp [h1]
                clear h1
                go_wp2
                go_ret
                exact ⟨rfl, hb2⟩
              · have e1 : ((a[k].toNat : Int) == 123) = false := by simpa using h1
                by_cases h2 : (a[k].toNat : Int) = 125
                · have e2 : ((a[k].toNat : Int) == 125) = true := by simp [h2]
                  clear h1 h2
                  go_wp2
                  go_ret
                  exact ⟨rfl, hb2⟩
                · have e2 : ((a[k].toNat : Int) == 125) = false := by simpa using h2
                  have HO : Hid (noB a[k] = true) := Lib.hid (by simp [noB]; omega)
                  clear h1 h2
                  go_wp2
                  refine ⟨⟨k + 1, by omega, by go_num, HY.out HO.out, trivial⟩, by simp [intOf]; omega⟩
            · have hall : a.data.toList.all noB = true := by have := HA.out; rwa [List.take_of_length_le (by simp; omega)] at this
              have hfill := HF.out hall
              rw [← HSD.out] at hfill
              have HFI := Lib.hid hfill
              clear hfill hall
              go_wp2_with fail
              refine (get_c v l n w wr hb2 hA hr).mono ?_
              rintro e w3 ⟨rfl, hb3, hk3⟩
              rw [hg]
              unfold getV
              have hA := hA.below hk3
              go_wp2_with fail
              refine (fill_c v l S w w3 hb3 hA hl1 HSZ.out).mono ?_
              rintro e w4 ⟨at4, rfl, hT, hb4, hk4⟩
              rw [HFI.out] at hT ⊢
              rw [HR.out]
              obtain ⟨gg, cc, rfl, hcell⟩ := one_text hT
              clear hT
              go_wp2
              go_ret
              exact ⟨rfl, hb4⟩
    · have hz3 : decide ((1000 : Int) < (a.size : Int)) = true := by simp; omega
      go_enter Try.func7, Try.ntmps7
      go_wp2_with fail
      refine (alive_any w _ (Below.refl _ _)).mono ?_
      rintro e w1 ⟨rfl, hb1, hk1⟩
      have hA := hA0.below hk1
      go_wp2_with fail
      refine (great_c v l n w w1 hb1 hA hr).mono ?_
      rintro e w2 ⟨g, rfl, hsm, hb2, hk2⟩
      have hA := hA.below hk2
      clear hA0 hb1 hk1 hk2
      cases g with
      | true =>
        go_wp2_with fail
        refine (alive_any w w2 hb2).mono ?_
        rintro e w3 ⟨rfl, hb3, hk3⟩
        go_wp2
        go_ret
        exact ⟨rfl, hb3⟩
      | false =>
        obtain ⟨hl1, hnz0⟩ := hsm rfl
        clear hsm
        go_wp2_with fail
        refine (name_c n w w2 hb2 hr).mono ?_
        rintro e w' ⟨rfl, rfl⟩
        rw [hnm]
        go_wp2_with fail
        refine (alive_any w w2 hb2).mono ?_
        rintro e w3 ⟨rfl, hb3, hk3⟩
        go_wp2
        go_ret
        exact ⟨rfl, hb3⟩

theorem readable : ∀ t ∈ #[22, 9, 9].toList, Try.prog.readableRec t = true ∧ t < Try.prog.types.size := by
  intro t ht
  have h : t ∈ ([22, 9, 9] : List TypeId) := ht
  simp only [List.mem_cons, List.not_mem_nil, or_false] at h
  rcases h with rfl | rfl | rfl
  · exact ⟨by kernel_rfl, of_decide_eq_true (by kernel_rfl)⟩
  · exact ⟨by kernel_rfl, of_decide_eq_true (by kernel_rfl)⟩
  · exact ⟨by kernel_rfl, of_decide_eq_true (by kernel_rfl)⟩

theorem lifted (os : Os) (started : os.Started) (H : Type) (enc : TypeId × Value → H) :
    ReturnsInHanded {} Try.checked os 7 .any (Rows.condsNameSpec.pre6 enc Try.prog Try.f7 Rows.condsNameRow.domain false) (Rows.condsNameSpec.post enc Try.prog Try.f7 false true false false) := by
  refine returnsInHanded_of_change_sized (C := Try.checked) own started (by kernel_rfl) Try.func7
    (ChangeSpec.witness6 (enc := enc) (C := Try.checked) false ⟨#[], #[.slice none 0 0, .string ⟨#[]⟩, .string ⟨#[]⟩], []⟩ 8 (by kernel_rfl) (by kernel_rfl) (by kernel_rfl) (by kernel_rfl)) ?_
  intro W base args ds gs before hval hW _ hz _
  have hW' := hW
  obtain ⟨p, q, hA, hV, rfl, hfz, hnd⟩ := hW
  rw [Try.params7] at hA hval
  obtain ⟨v0, vs0, d0, ds0, p0, q0, hargs0, rfl, rfl, h0, r0⟩ := trodAll_cons hA
  obtain ⟨v1, vs1, d1, ds1, p1, q1, hargs1, rfl, rfl, h1, r1⟩ := trodAll_cons r0
  obtain ⟨v2, vs2, d2, ds2, p2, q2, hargs2, rfl, rfl, h2, r2⟩ := trodAll_cons r1
  obtain ⟨rfl, rfl, rfl⟩ := trodAll_nil r2
  subst hargs1
  subst hargs2
  obtain rfl : args = #[v0, v1, v2] := by cases args; simp_all
  obtain ⟨rfl, rfl⟩ := trodVars_none hV
  obtain ⟨l0, hA0⟩ := attrs_arg (hval 0 22 v0 rfl rfl) h0 (fun n hn => by have := List.all_eq_true.1 hz n (DataW.weights_mem_each (j := 0) rfl rfl n hn); simpa using this)
  obtain ⟨s1, rfl, rfl, rfl, hs1⟩ := string_arg (hval 1 9 v1 rfl rfl) h1
  have hr1 := string_reach hz (j := 1) (s := s1) rfl rfl
  obtain ⟨s2, rfl, rfl, rfl, hs2⟩ := string_arg (hval 2 9 v2 rfl rfl) h2
  have hr2 := string_reach hz (j := 2) (s := s2) rfl rfl
  refine (walk W v0 l0 hA0 s1 hs1 hr1 s2 hs2 hr2).mono fun e W' ⟨he, hb⟩ => ⟨_, he, law_post rfl rfl ?_ hW' rfl hb⟩
  rw [Try.params7]
  exact readable

theorem proved : Rows.CondsNameSaid :=
  OpenClaim.holds_of_wide 7 Try.f7 rfl rfl rfl rfl rfl rfl rfl ⟨rfl, rfl, rfl, rfl, rfl⟩ rfl rfl rfl rfl rfl (by kernel_rfl) Try.func7 (by kernel_rfl)
    (of_decide_eq_true (by kernel_rfl)) (by unfold Func.isWrapper; first | (rw [if_pos (by decide +kernel)]; kernel_rfl) | (rw [if_neg (by decide +kernel)]; exact ⟨rfl, rfl⟩))
    (fun os started H enc _ => lifted os started H enc)
end Go.Proofs.Ytcdlleeonfnamaa.nameLaw
