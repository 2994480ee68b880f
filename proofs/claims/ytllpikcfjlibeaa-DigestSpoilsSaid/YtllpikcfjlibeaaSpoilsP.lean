/-
  DigestSpoils: one byte that is changed changes what stands for the text, wherever it stands; for any text of 1 to 1048576 bytes, any byte but 0 that it is changed by and any place, and true is answered else. No conditions: every string, every byte and every number of 16 bits.
-/
import Derived.Test.YtllpikcfjlibeaaLaw
import Derived.Test.YtllpikcfjlibeaaBeyond
import Derived.Test.YtllpikcfjlibeaaAlive
import Derived.Test.YtllpikcfjlibeaaRow
namespace Go.Proofs.Ytllpikcfjlibeaa.spoilsLaw
open Go.ChangeShapes Go.WideShapes Go.ChangeAt Go.RowKit

theorem byte_of {n : Int} (wf : (Lit.int .u8 n).wf = true) : ∃ c : UInt8, n = (c.toNat : Int) := by
  have hn : 0 ≤ n ∧ n ≤ 255 := by simpa [Lit.wf, IntKind.min, IntKind.max, IntKind.signed, IntKind.bits] using wf
  exact ⟨UInt8.ofNat n.toNat, by simp; omega⟩
theorem u16_of {n : Int} (wf : (Lit.int .u16 n).wf = true) : ∃ m : Nat, n = (m : Int) ∧ m < 65536 := by
  have hn : 0 ≤ n ∧ n ≤ 65535 := by simpa [Lit.wf, IntKind.min, IntKind.max, IntKind.signed, IntKind.bits] using wf
  exact ⟨n.toNat, by omega, by omega⟩
theorem data_inj {a b : ByteArray} (h : a.data.toList = b.data.toList) : a = b := by
  apply ByteArray.ext; exact Array.toList_inj.1 h
theorem xor_ne (x c : UInt8) (h : c ≠ 0) : x ^^^ c ≠ x := by
  intro e
  have e2 := congrArg (x ^^^ ·) e
  simp [← UInt8.xor_assoc] at e2
  exact h e2

set_option maxHeartbeats 1000000 in
theorem walk (s : ByteArray) (hs : s.size ≤ maxLen) (hr : s.size ≤ 140737488351232) (n : Int) (wf : (Lit.int .u8 n).wf = true) (a : Int) (wa : (Lit.int .u16 a).wf = true) (w : World) :
    Calls Try.prog 6 #[.string s, .int .u8 n, .int .u16 a] w fun e w' => e = .returned (.bool true) ∧ Below w.heap.size w w' := by
  obtain ⟨c, rfl⟩ := byte_of wf
  obtain ⟨m, rfl, hm⟩ := u16_of wa
  clear wf wa
  have hc := c.toNat_lt
  have hl : s.data.toList.length = s.size := by simp
  by_cases h0 : s.size = 0
  · have hse : s.toList.isEmpty = true := by rw [Lib.toList_data, List.isEmpty_iff]; exact List.eq_nil_of_length_eq_zero (by omega)
    clear h0 hl
    go_enter Try.func6, Try.ntmps6
    go_wp2_with fail
    refine (alive_any w w (Below.refl _ _)).mono ?_
    rintro e w1 ⟨rfl, hb1⟩
    go_wp2_with fail
    refine (beyond1 _ (s.size : Int) _ (by simp) (by omega)).mono ?_
    rintro e w2 ⟨rfl, hw2⟩
    have hb2 : Below w.heap.size w w2 := by rw [← hw2]; exact behind hb1 (laidNew _ _)
    clear hw2
    go_wp2_with fail
    all_goals refine (alive_any w w2 hb2).mono ?_
    all_goals rintro e w3 ⟨rfl, hb3⟩
    all_goals go_wp2
    all_goals go_ret
    all_goals exact ⟨rfl, hb3⟩
  · have hse : s.toList.isEmpty = false := by
      rw [Lib.toList_data]
      cases he : s.data.toList with
      | nil => rw [he] at hl; simp at hl; omega
      | cons x l => rfl
    by_cases hcz : c = 0
    · have hz : ((c.toNat : Int) == 0) = true := by rw [hcz]; rfl
      clear hcz
      go_enter Try.func6, Try.ntmps6
      go_wp2_with fail
      refine (alive_any w w (Below.refl _ _)).mono ?_
      rintro e w1 ⟨rfl, hb1⟩
      go_wp2_with fail
      refine (beyond1 _ (s.size : Int) _ (by simp) (by omega)).mono ?_
      rintro e w2 ⟨rfl, hw2⟩
      have hb2 : Below w.heap.size w w2 := by rw [← hw2]; exact behind hb1 (laidNew _ _)
      clear hw2
      go_wp2_with fail
      all_goals refine (alive_any w w2 hb2).mono ?_
      all_goals rintro e w3 ⟨rfl, hb3⟩
      all_goals go_wp2
      all_goals go_ret
      all_goals exact ⟨rfl, hb3⟩
    · have hz : ((c.toNat : Int) == 0) = false := by
        rw [beq_eq_false_iff_ne]
        intro e
        exact hcz (UInt8.toNat_inj.1 (by show c.toNat = 0; omega))
      have hk : m % s.size < s.size := Nat.mod_lt _ (by omega)
      have hkl : m % s.size < s.data.toList.length := by rw [hl]; exact hk
      obtain ⟨x, hx⟩ : ∃ x : UInt8, s.data.toList[m % s.size] = x := ⟨_, rfl⟩
      have hxl := x.toNat_lt
      obtain ⟨y, hy⟩ : ∃ y : UInt8, x ^^^ c = y := ⟨_, rfl⟩
      have hxor : bits .xor .u8 (x.toNat : Int) (c.toNat : Int) = (y.toNat : Int) := by
        rw [← hy, UInt8.toNat_xor]; exact u8_xor_nat x.toNat c.toNat (by omega) (by omega)
      have hyx : y ≠ s.data.toList[m % s.size] := by rw [hx, ← hy]; exact xor_ne x c hcz
      have hne := moreD_set 14695981039346656037 (by decide +kernel) s.data.toList (m % s.size) hkl y hyx
      obtain ⟨t, ht⟩ : ∃ t : ByteArray, t = ⟨(s.data.toList.set (m % s.size) y).toArray⟩ := ⟨_, rfl⟩
      have htz : t.size ≤ maxLen := by
        rw [ht]; show (s.data.toList.set (m % s.size) y).toArray.size ≤ maxLen
        rw [List.size_toArray, List.length_set, hl]; exact hs
      have H1 := fun w => of_any t htz w
      have H2 := fun w => of_any s hs w
      have hd1 : t.data.toList = s.data.toList.set (m % s.size) y := by rw [ht]
      have hv : ofD t.data.toList ≠ ofD s.data.toList := by rw [hd1]; unfold ofD; exact hne
      obtain ⟨u, hu⟩ : ∃ u, ofD t.data.toList = u := ⟨_, rfl⟩
      obtain ⟨v, hv2⟩ : ∃ v, ofD s.data.toList = v := ⟨_, rfl⟩
      rw [hu, hv2] at hv
      rw [hu] at H1
      rw [hv2] at H2
      have huv : ((u : Int) != (v : Int)) = true := by rw [bne_iff_ne]; omega
      have HT := Lib.hid ht
      have HX := Lib.hid hx
      clear hv hu hv2 hd1 hne hyx hy ht htz hcz hx
      go_enter Try.func6, Try.ntmps6
      go_wp2_with fail
      refine (alive_any w w (Below.refl _ _)).mono ?_
      rintro e w1 ⟨rfl, hb1⟩
      go_wp2_with fail
      refine (beyond1 _ (s.size : Int) _ (by simp) (by omega)).mono ?_
      rintro e w2 ⟨rfl, hw2⟩
      have hb2 : Below w.heap.size w w2 := by rw [← hw2]; exact behind hb1 (laidNew _ _)
      clear hw2
      obtain ⟨cap, w3, hconv, hbel, hby, hsz⟩ := conv_bytes w2 s
      obtain ⟨hc0, hf0⟩ := hby (m % s.size) hkl
      have hg0 : (s.data.toList.getD (m % s.size) 0) = x := by rw [← HX.out, List.getD_eq_getElem?_getD, List.getElem?_eq_getElem hkl]; rfl
      rw [hg0] at hc0
      have hby2 := hby.set (m % s.size) hkl y
      have hback := conv_back _ _ cap _ hby2
      rw [List.length_set, hl, ← HT.out] at hback
      have HB := Lib.hid (show Below w.heap.size w (w3.setCell ⟨w2.heap.size, m % s.size, none⟩ (.int .u8 (y.toNat : Int))) from (behind hb2 hbel).setCell hb2.size _)
      clear hby hby2 hg0 hsz
      go_wp2_with fail
      · refine (H1 _).mono ?_
        rintro e w' ⟨rfl, rfl⟩
        go_wp2_with fail
        refine (H2 _).mono ?_
        rintro e w' ⟨rfl, rfl⟩
        go_wp2
        go_ret
        exact ⟨rfl, HB.out⟩
      · refine (alive_any w w2 hb2).mono ?_
        rintro e w4 ⟨rfl, hb4⟩
        go_wp2
        go_ret
        exact ⟨rfl, hb4⟩

theorem readable : ∀ t ∈ #[9, 5, 34].toList, Try.prog.readableRec t = true ∧ t < Try.prog.types.size := by
  intro t ht
  have h : t ∈ ([9, 5, 34] : List TypeId) := ht
  simp only [List.mem_cons, List.not_mem_nil, or_false] at h
  rcases h with rfl | rfl | rfl
  · exact ⟨by kernel_rfl, of_decide_eq_true (by kernel_rfl)⟩
  · exact ⟨by kernel_rfl, of_decide_eq_true (by kernel_rfl)⟩
  · exact ⟨by kernel_rfl, of_decide_eq_true (by kernel_rfl)⟩

theorem lifted (os : Os) (started : os.Started) (H : Type) (enc : TypeId × Value → H) :
    ReturnsInHanded {} Try.checked os 6 .any (Rows.digestSpoilsSpec.pre6 enc Try.prog Try.f6 Rows.digestSpoilsRow.domain false) (Rows.digestSpoilsSpec.post enc Try.prog Try.f6 false true false false) := by
  refine returnsInHanded_of_change_sized (C := Try.checked) own started (by kernel_rfl) Try.func6
    (ChangeSpec.witness6 (enc := enc) (C := Try.checked) false ⟨#[], #[.string ⟨#[]⟩, .int .u8 0, .int .u16 0], []⟩ 8 (by kernel_rfl) (by kernel_rfl) (by kernel_rfl) (by kernel_rfl)) ?_
  intro W base args ds gs before hval hW _ hz _
  have hW' := hW
  obtain ⟨p, q, hA, hV, rfl, hfz, hnd⟩ := hW
  rw [Try.params6] at hA hval
  obtain ⟨v0, vs0, d0, ds0, p0, q0, hargs0, rfl, rfl, h0, r0⟩ := trodAll_cons hA
  obtain ⟨v1, vs1, d1, ds1, p1, q1, hargs1, rfl, rfl, h1, r1⟩ := trodAll_cons r0
  obtain ⟨v2, vs2, d2, ds2, p2, q2, hargs2, rfl, rfl, h2, r2⟩ := trodAll_cons r1
  obtain ⟨rfl, rfl, rfl⟩ := trodAll_nil r2
  subst hargs1
  subst hargs2
  obtain rfl : args = #[v0, v1, v2] := by cases args; simp_all
  obtain ⟨rfl, rfl⟩ := trodVars_none hV
  obtain ⟨s0, rfl, rfl, rfl, hs0⟩ := string_arg (hval 0 9 v0 rfl rfl) h0
  have hr0 := string_reach hz (j := 0) (s := s0) rfl rfl
  obtain ⟨n1, rfl, rfl, rfl, wf1⟩ := open_int Try.underlying5 (hval 1 5 v1 rfl rfl) h1
  obtain ⟨n2, rfl, rfl, rfl, wf2⟩ := open_int Try.underlying34 (hval 2 34 v2 rfl rfl) h2
  refine (walk s0 hs0 hr0 n1 wf1 n2 wf2 W).mono fun e W' ⟨he, hb⟩ => ⟨_, he, law_post rfl rfl ?_ hW' rfl hb⟩
  rw [Try.params6]
  exact readable

theorem proved : Rows.DigestSpoilsSaid :=
  OpenClaim.holds_of_wide 6 Try.f6 rfl rfl rfl rfl rfl rfl rfl ⟨rfl, rfl, rfl, rfl, rfl⟩ rfl rfl rfl rfl rfl (by kernel_rfl) Try.func6 (by kernel_rfl)
    (of_decide_eq_true (by kernel_rfl)) (by unfold Func.isWrapper; first | (rw [if_pos (by decide +kernel)]; kernel_rfl) | (rw [if_neg (by decide +kernel)]; exact ⟨rfl, rfl⟩))
    (fun os started H enc _ => lifted os started H enc)
end Go.Proofs.Ytllpikcfjlibeaa.spoilsLaw
