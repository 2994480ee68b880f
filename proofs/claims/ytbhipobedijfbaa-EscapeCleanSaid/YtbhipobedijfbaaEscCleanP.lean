/-
  EscapeClean: a text for a page has no sign that cuts one; what is no such sign stays, in order; for any text of at most 1048576 bytes; true is answered beyond. No conditions: every text.
-/
import Derived.Test.YtbhipobedijfbaaEscV
import Derived.Test.YtbhipobedijfbaaEscF
namespace Go.Proofs.Ytbhipobedijfbaa.cleanLaw
open Go.ChangeShapes Go.WideShapes Go.ChangeAt Go.RowKit
set_option maxRecDepth 100000

/-- how many bytes more stand for a byte -/
def exC (c : UInt8) : Nat := if c = 38 then 4 else if c = 60 then 3 else if c = 62 then 3 else if c = 34 then 5 else if c = 39 then 4 else 0
def exL (l : List UInt8) : Nat := (l.map exC).sum
theorem ex_snoc (l : List UInt8) (c : UInt8) : exL (l ++ [c]) = exL l + exC c := by simp [exL]
theorem one_len (c : UInt8) : (oneL c).length = 1 + exC c := by
  unfold oneL markL exC
  repeat' split
  all_goals simp
theorem text_ex : ∀ l : List UInt8, (textL l).length = l.length + exL l
  | [] => rfl
  | c :: t => by
    have h1 := text_ex t
    have h2 := one_len c
    have h3 : exL (c :: t) = exC c + exL t := by simp [exL]
    show (oneL c ++ textL t).length = _
    rw [List.length_append, List.length_cons, h3]; omega
theorem ex_le (c : UInt8) : exC c ≤ 5 := by unfold exC; repeat' split
                                            all_goals omega
theorem exL_le : ∀ l : List UInt8, exL l ≤ 5 * l.length
  | [] => by simp [exL]
  | c :: t => by
    have h1 := exL_le t
    have h2 := ex_le c
    have h3 : exL (c :: t) = exC c + exL t := by simp [exL]
    rw [h3, List.length_cons]; omega
theorem ex_zero : ∀ l : List UInt8, exL l = 0 → textL l = l
  | [], _ => rfl
  | c :: t, h => by
    have h3 : exL (c :: t) = exC c + exL t := by simp [exL]
    have h1 : exC c = 0 := by omega
    have hm : markL c = none := by
      unfold exC at h1
      unfold markL
      repeat' split at h1
      all_goals first
        | (exact absurd h1 (by decide))
        | (simp_all)
    show oneL c ++ textL t = _
    rw [ex_zero t (by omega)]
    unfold oneL; rw [hm]; rfl
/-- none of the signs that cut a page -/
def okC (c : UInt8) : Prop := ¬ c = 60 ∧ ¬ c = 62 ∧ ¬ c = 34 ∧ ¬ c = 39
theorem one_ok (c : UInt8) : ∀ x ∈ oneL c, okC x := by
  by_cases h1 : c = 38
  · subst h1; exact (by decide : ∀ x ∈ oneL 38, ¬ x = 60 ∧ ¬ x = 62 ∧ ¬ x = 34 ∧ ¬ x = 39)
  by_cases h2 : c = 60
  · subst h2; exact (by decide : ∀ x ∈ oneL 60, ¬ x = 60 ∧ ¬ x = 62 ∧ ¬ x = 34 ∧ ¬ x = 39)
  by_cases h3 : c = 62
  · subst h3; exact (by decide : ∀ x ∈ oneL 62, ¬ x = 60 ∧ ¬ x = 62 ∧ ¬ x = 34 ∧ ¬ x = 39)
  by_cases h4 : c = 34
  · subst h4; exact (by decide : ∀ x ∈ oneL 34, ¬ x = 60 ∧ ¬ x = 62 ∧ ¬ x = 34 ∧ ¬ x = 39)
  by_cases h5 : c = 39
  · subst h5; exact (by decide : ∀ x ∈ oneL 39, ¬ x = 60 ∧ ¬ x = 62 ∧ ¬ x = 34 ∧ ¬ x = 39)
  intro x hx
  have hm : markL c = none := by unfold markL; rw [if_neg h1, if_neg h2, if_neg h3, if_neg h4, if_neg h5]
  unfold oneL at hx
  rw [hm] at hx
  simp only [Option.getD_none, List.mem_singleton] at hx
  subst hx
  exact ⟨h2, h3, h4, h5⟩
theorem text_ok (l : List UInt8) : ∀ x ∈ textL l, okC x := by
  intro x hx
  obtain ⟨c, -, h⟩ := List.mem_flatMap.1 hx
  exact one_ok c x h

set_option maxHeartbeats 8000000 in
theorem walk (s : ByteArray) (_hs : s.size ≤ maxLen) (hr : s.size ≤ 140737488351232) (w : World) :
    Calls Try.prog 6 #[.string s] w fun e w' => e = .returned (.bool true) ∧ Below w.heap.size w w' := by
  go_enter Try.func6, Try.ntmps6
  go_wp2_with fail
  refine (alive_e w).mono ?_
  rintro e w1 ⟨rfl, hb1⟩
  go_wp2_with fail
  refine (beyond1 _ (s.size : Int) _ (by simp) (by omega)).mono ?_
  rintro e w' ⟨rfl, rfl⟩
  obtain ⟨w2, hw2⟩ : ∃ w2, w1.alloc (.cells #[.int .i64 (s.size : Int)] 3) = w2 := ⟨_, rfl⟩
  have hb2 : Below w.heap.size w w2 := by rw [← hw2]; exact behind hb1 (laidNew _ _)
  rw [hw2]
  clear hw2
  by_cases h3 : s.size ≤ 1048576
  · obtain ⟨tb, htb⟩ : ∃ tb, bT (textL s.data.toList) = tb := ⟨_, rfl⟩
    have htl : tb.data.toList = textL s.data.toList := by rw [← htb, bT_list]
    have HTL := Lib.hid htl
    have hex : tb.size = s.size + exL s.data.toList := by rw [size_len, htl, text_ex, ← size_len]
    have hexl := exL_le s.data.toList
    rw [← size_len] at hexl
    have H1 := fun w => text_c s w (by omega)
    rw [htb] at H1
    have HE := Lib.hid hex
    have HEL := Lib.hid hexl
    clear htl htb hex hexl
    go_wp2_with fail
    refine (H1 _).mono ?_
    rintro e w3 ⟨rfl, hb3⟩
    have hb3 := behind hb2 hb3
    clear H1
    go_wp2
    go_loop [4, 5] (fun nv iv => ∃ k : Nat, k ≤ s.size ∧ iv = .int .i64 (k : Int) ∧ nv = .int .i64 ((exL (s.data.toList.take k) : Nat) : Int)) (fun _ iv => s.size - (intOf iv).toNat)
    case atStart => exact ⟨0, by omega, rfl, rfl⟩
    case round =>
      obtain ⟨k, hk, rfl, rfl⟩ := hrel
      have hle := exL_le (s.data.toList.take k)
      rw [List.length_take] at hle
      obtain ⟨x, hx⟩ : ∃ x, exL (s.data.toList.take k) = x := ⟨_, rfl⟩
      rw [hx] at hle ⊢
      have HX := Lib.hid hx
      clear hx
      by_cases hlt : k < s.size
      · have hl : k < s.data.toList.length := by simpa using hlt
        have hnx : exL (s.data.toList.take (k + 1)) = x + exC s[k] := by
          rw [List.take_succ_eq_append_getElem hl, ex_snoc, HX.out]; rfl
        have HN := Lib.hid hnx
        obtain ⟨c, hc⟩ : ∃ c, s[k] = c := ⟨_, rfl⟩
        rw [hc] at HN
        clear hnx
        have h1 := byte_eq c 38 (by omega)
        have h2 := byte_eq c 60 (by omega)
        have h3 := byte_eq c 62 (by omega)
        have h4 := byte_eq c 34 (by omega)
        have h5 := byte_eq c 39 (by omega)
        have hx2 : x ≤ 10000000 := by omega
        clear hle
        by_cases e1 : c = 38
        · have g1 : ((c.toNat : Int) == 38) = true := h1.trans (decide_eq_true e1)
          have HC : Hid (exC c = 4) := Lib.hid (by rw [e1]; rfl)
          clear h1 h2 h3 h4 h5 e1
          go_wp2
          refine ⟨⟨k + 1, by omega, by go_num, ?_⟩, by simp [intOf]; omega⟩
          rw [HN.out, HC.out]; go_num
        by_cases e2 : c = 60
        · have g2 : ((c.toNat : Int) == 60) = true := h2.trans (decide_eq_true e2)
          have f1 : ((c.toNat : Int) == 38) = false := h1.trans (decide_eq_false e1)
          have HC : Hid (exC c = 3) := Lib.hid (by rw [e2]; rfl)
          clear h1 h2 h3 h4 h5 e1 e2
          go_wp2
          refine ⟨⟨k + 1, by omega, by go_num, ?_⟩, by simp [intOf]; omega⟩
          rw [HN.out, HC.out]; go_num
        by_cases e3 : c = 62
        · have g3 : ((c.toNat : Int) == 62) = true := h3.trans (decide_eq_true e3)
          have f1 : ((c.toNat : Int) == 38) = false := h1.trans (decide_eq_false e1)
          have f2 : ((c.toNat : Int) == 60) = false := h2.trans (decide_eq_false e2)
          have HC : Hid (exC c = 3) := Lib.hid (by rw [e3]; rfl)
          clear h1 h2 h3 h4 h5 e1 e2 e3
          go_wp2
          refine ⟨⟨k + 1, by omega, by go_num, ?_⟩, by simp [intOf]; omega⟩
          rw [HN.out, HC.out]; go_num
        by_cases e4 : c = 34
        · have g4 : ((c.toNat : Int) == 34) = true := h4.trans (decide_eq_true e4)
          have f1 : ((c.toNat : Int) == 38) = false := h1.trans (decide_eq_false e1)
          have f2 : ((c.toNat : Int) == 60) = false := h2.trans (decide_eq_false e2)
          have f3 : ((c.toNat : Int) == 62) = false := h3.trans (decide_eq_false e3)
          have HC : Hid (exC c = 5) := Lib.hid (by rw [e4]; rfl)
          clear h1 h2 h3 h4 h5 e1 e2 e3 e4
          go_wp2
          refine ⟨⟨k + 1, by omega, by go_num, ?_⟩, by simp [intOf]; omega⟩
          rw [HN.out, HC.out]; go_num
        by_cases e5 : c = 39
        · have g5 : ((c.toNat : Int) == 39) = true := h5.trans (decide_eq_true e5)
          have f1 : ((c.toNat : Int) == 38) = false := h1.trans (decide_eq_false e1)
          have f2 : ((c.toNat : Int) == 60) = false := h2.trans (decide_eq_false e2)
          have f3 : ((c.toNat : Int) == 62) = false := h3.trans (decide_eq_false e3)
          have f4 : ((c.toNat : Int) == 34) = false := h4.trans (decide_eq_false e4)
          have HC : Hid (exC c = 4) := Lib.hid (by rw [e5]; rfl)
          clear h1 h2 h3 h4 h5 e1 e2 e3 e4 e5
          go_wp2
          refine ⟨⟨k + 1, by omega, by go_num, ?_⟩, by simp [intOf]; omega⟩
          rw [HN.out, HC.out]; go_num
        have f1 : ((c.toNat : Int) == 38) = false := h1.trans (decide_eq_false e1)
        have f2 : ((c.toNat : Int) == 60) = false := h2.trans (decide_eq_false e2)
        have f3 : ((c.toNat : Int) == 62) = false := h3.trans (decide_eq_false e3)
        have f4 : ((c.toNat : Int) == 34) = false := h4.trans (decide_eq_false e4)
        have f5 : ((c.toNat : Int) == 39) = false := h5.trans (decide_eq_false e5)
        have HC : Hid (exC c = 0) := Lib.hid (by unfold exC; rw [if_neg e1, if_neg e2, if_neg e3, if_neg e4, if_neg e5])
        clear h1 h2 h3 h4 h5 e1 e2 e3 e4 e5
        go_wp2
        refine ⟨⟨k + 1, by omega, by go_num, ?_⟩, by simp [intOf]; omega⟩
        rw [HN.out, HC.out]; rfl
      · have hall : x = exL s.data.toList := by rw [← HX.out, List.take_of_length_le (by simp; omega)]
        have HA := Lib.hid hall
        have htz : tb.size = s.size + x := by rw [HE.out, hall]
        have HTZ := Lib.hid htz
        have htl2 : tb.size ≤ 10000000 := by have := HEL.out; omega
        clear hall htz hle
        go_wp2
        go_loop [6] (fun iv => ∃ j : Nat, j ≤ tb.size ∧ iv = .int .i64 (j : Int)) (fun iv => tb.size - (intOf iv).toNat)
        case atStart => exact ⟨0, by omega, rfl⟩
        case round =>
          obtain ⟨j, hj, rfl⟩ := hrel
          by_cases hjt : j < tb.size
          · have hok : okC tb[j] := text_ok s.data.toList _ (by rw [← HTL.out]; exact List.getElem_mem (by simpa using hjt))
            obtain ⟨c, hc⟩ : ∃ c, tb[j] = c := ⟨_, rfl⟩
            rw [hc] at hok
            obtain ⟨o1, o2, o3, o4⟩ := hok
            have f1 : ((c.toNat : Int) == 60) = false := (byte_eq c 60 (by omega)).trans (decide_eq_false o1)
            have f2 : ((c.toNat : Int) == 62) = false := (byte_eq c 62 (by omega)).trans (decide_eq_false o2)
            have f3 : ((c.toNat : Int) == 34) = false := (byte_eq c 34 (by omega)).trans (decide_eq_false o3)
            have f4 : ((c.toNat : Int) == 39) = false := (byte_eq c 39 (by omega)).trans (decide_eq_false o4)
            clear o1 o2 o3 o4
            go_wp2
            exact ⟨⟨j + 1, by omega, by go_num⟩, by simp [intOf]; omega⟩
          · have hw1 : IntKind.i64.wrap ((s.size : Int) + (x : Int)) = (tb.size : Int) := by have := HTZ.out; rw [IntKind.wrap_i64]; omega
            by_cases hx0 : x = 0
            · have hts : tb = s := by
                have := ex_zero s.data.toList (by rw [← HA.out]; exact hx0)
                rw [← bT_data tb, HTL.out, this, bT_data]
              subst hts
              subst hx0
              go_wp2
              go_ret
              exact ⟨rfl, hb3⟩
            · have hx1 : (0 : Int) < (x : Int) := by omega
              go_wp2
              go_ret
              exact ⟨rfl, hb3⟩
  · go_wp2_with fail
    refine (alive_e w2).mono ?_
    rintro e w3 ⟨rfl, hb3⟩
    go_wp2
    go_ret
    exact ⟨rfl, behind hb2 hb3⟩

theorem readable : ∀ t ∈ #[9].toList, Try.prog.readableRec t = true ∧ t < Try.prog.types.size := by
  intro t ht
  have h : t ∈ ([9] : List TypeId) := ht
  simp only [List.mem_cons, List.not_mem_nil, or_false] at h
  rcases h with rfl
  · exact ⟨by kernel_rfl, of_decide_eq_true (by kernel_rfl)⟩

theorem lifted (os : Os) (started : os.Started) (H : Type) (enc : TypeId × Value → H) :
    ReturnsInHanded {} Try.checked os 6 .any (Rows.escapeCleanSpec.pre6 enc Try.prog Try.f6 Rows.escapeCleanRow.domain false) (Rows.escapeCleanSpec.post enc Try.prog Try.f6 false true false false) := by
  refine returnsInHanded_of_change_sized (C := Try.checked) own started (by kernel_rfl) Try.func6
    (ChangeSpec.witness6 (enc := enc) (C := Try.checked) false ⟨#[], #[.string ⟨#[]⟩], []⟩ 8 (by kernel_rfl) (by kernel_rfl) (by kernel_rfl) (by kernel_rfl)) ?_
  intro W base args ds gs before hval hW _ hz _
  have hW' := hW
  obtain ⟨p, q, hA, hV, rfl, hfz, hnd⟩ := hW
  rw [Try.params6] at hA hval
  obtain ⟨v0, vs0, d0, ds0, p0, q0, hargs0, rfl, rfl, h0, r0⟩ := trodAll_cons hA
  obtain ⟨rfl, rfl, rfl⟩ := trodAll_nil r0
  obtain rfl : args = #[v0] := by cases args; simp_all
  obtain ⟨rfl, rfl⟩ := trodVars_none hV
  obtain ⟨s0, rfl, rfl, rfl, hs0⟩ := string_arg (hval 0 9 v0 rfl rfl) h0
  have hr0 := string_reach hz (j := 0) (s := s0) rfl rfl
  refine (walk s0 hs0 hr0 W).mono fun e W' ⟨he, hb⟩ => ⟨_, he, law_post rfl rfl ?_ hW' rfl hb⟩
  rw [Try.params6]
  exact readable

theorem proved : Rows.EscapeCleanSaid :=
  OpenClaim.holds_of_wide 6 Try.f6 rfl rfl rfl rfl rfl rfl rfl ⟨rfl, rfl, rfl, rfl, rfl⟩ rfl rfl rfl rfl rfl (by kernel_rfl) Try.func6 (by kernel_rfl)
    (of_decide_eq_true (by kernel_rfl)) (by unfold Func.isWrapper; first | (rw [if_pos (by decide +kernel)]; kernel_rfl) | (rw [if_neg (by decide +kernel)]; exact ⟨rfl, rfl⟩))
    (fun os started H enc _ => lifted os started H enc)
end Go.Proofs.Ytbhipobedijfbaa.cleanLaw
