/-
  LettersJoins: the words of two texts with a blank between are those of both; words with blanks between are the words again; for any two texts of at most 1048576 bytes together and any of four blanks, and true is answered beyond. No conditions: every two strings and every byte.
-/
import Derived.Test.YtljkcdmcjbhgaaaJoins
import Derived.OwnWalk
import Derived.Maps.AppendAt
namespace Go.Proofs.Ytljkcdmcjbhgaaa.joinsLaw
open Go.ChangeShapes Go.WideShapes Go.ChangeAt Go.RowKit

theorem info9 : (Try.prog.info? 9).map (fun i => (i.zero, i.size, i.bytes)) = some (some (.string ⟨#[]⟩), 1, 16) := by kernel_rfl

/-- the four blanks -/
def blank : Nat → ByteArray
  | 0 => ⟨#[32]⟩
  | 1 => ⟨#[9]⟩
  | 2 => ⟨#[10]⟩
  | _ => ⟨#[32, 10, 32]⟩
theorem blank_row (r : Nat) (hr : r < 4) (X : Array Value) (h : X = #[.string ⟨#[32]⟩, .string ⟨#[9]⟩, .string ⟨#[10]⟩, .string ⟨#[32, 10, 32]⟩]) : X[r]? = some (.string (blank r)) := by
  subst h
  rcases (by omega : r = 0 ∨ r = 1 ∨ r = 2 ∨ r = 3) with rfl | rfl | rfl | rfl <;> rfl
theorem blank_gap (r : Nat) : (blank r).data.toList ≠ [] ∧ (∀ c ∈ (blank r).data.toList, gapB c = true) ∧ (blank r).data.toList.length ≤ 3 := by
  rcases (by omega : r = 0 ∨ r = 1 ∨ r = 2 ∨ 3 ≤ r) with rfl | rfl | rfl | h
  · decide
  · decide
  · decide
  · obtain ⟨q, rfl⟩ := Nat.exists_eq_add_of_le h
    rw [show blank (3 + q) = ⟨#[32, 10, 32]⟩ from by rw [Nat.add_comm]; rfl]
    decide

theorem news_ok {W : World} {A : Nat} {l : List (List UInt8)} (h : CellsT W A l) : ∀ j u, (l.map strV)[j]? = some u → W.cell? ((⟨A, 0, none⟩ : Addr).add j) = some u := by
  intro j u hj
  obtain ⟨hlt, rfl⟩ := List.getElem?_eq_some_iff.1 hj
  have ea : (⟨A, 0, none⟩ : Addr).add j = ⟨A, j, none⟩ := by by_cases hj0 : j = 0 <;> simp [Addr.add, hj0]
  rw [ea, List.getElem_map]
  exact h j (by simpa using hlt)
theorem mem_le_sum : ∀ (xs : List (List UInt8)) (x : List UInt8), x ∈ xs → x.length + 1 ≤ (xs.map fun x => x.length + 1).sum
  | [], _, h => by cases h
  | y :: xs, x, h => by
    rw [List.map_cons, List.sum_cons]
    rcases List.mem_cons.1 h with rfl | h
    · omega
    · have := mem_le_sum xs x h; omega
theorem one_ok (l : List (List UInt8)) : ∀ u ∈ l.map strV, u.oneCell' = true := by
  intro u hu
  obtain ⟨x, _, rfl⟩ := List.mem_map.1 hu
  rfl

set_option maxRecDepth 100000 in
set_option maxHeartbeats 2000000 in
theorem walk (a : ByteArray) (_hs : a.size ≤ maxLen) (ha : a.size ≤ 140737488351232) (b : ByteArray) (_ht : b.size ≤ maxLen) (hb : b.size ≤ 140737488351232) (n : Int) (wn : (Lit.int .u8 n).wf = true) (w : World) :
    Calls Try.prog 10 #[.string a, .string b, .int .u8 n] w fun e w' => e = .returned (.bool true) ∧ Below w.heap.size w w' := by
  have hn : 0 ≤ n ∧ n ≤ 255 := by simpa [Lit.wf, IntKind.min, IntKind.max, IntKind.signed, IntKind.bits] using wn
  obtain ⟨r, hr⟩ : ∃ r : Nat, n % 4 = (r : Int) := ⟨(n % 4).toNat, by omega⟩
  have hr4 : r < 4 := by omega
  have hq : (#[.string ⟨#[32]⟩, .string ⟨#[9]⟩, .string ⟨#[10]⟩, .string ⟨#[32, 10, 32]⟩] : Array Value)[(n % 4).toNat]? = some (.string (blank r)) := by
    rw [hr, Int.toNat_natCast]; exact blank_row r hr4 _ rfl
  have hq1 : 0 ≤ n % 4 := by omega
  have hq2 : n % 4 < 4 := by omega
  clear wn hr
  have hq3 : ∀ h, (#[.string ⟨#[32]⟩, .string ⟨#[9]⟩, .string ⟨#[10]⟩, .string ⟨#[32, 10, 32]⟩] : Array Value)[(n % 4).toNat]'h = .string (blank r) := fun h => (Array.getElem?_eq_some_iff.1 hq).2
  obtain ⟨hg1, hg2, hg3⟩ := blank_gap r
  generalize blank r = g at *
  have HG := Lib.hid (And.intro hg1 hg2)
  clear hg1 hg2
  go_enter Try.func10, Try.ntmps10
  go_wp2_with fail
  refine (alive_any _).mono ?_
  rintro e w1 ⟨rfl, hb1⟩
  go_wp2_with fail
  refine (beyond2 _ (a.size : Int) (b.size : Int) _ (by simp) (by simp) (by omega) (by omega)).mono ?_
  rintro e w2 ⟨rfl, hw2⟩
  have hbw2 : Below w.heap.size w w2 := by rw [← hw2]; exact behind hb1 (laidNew _ _)
  clear hw2 hb1
  go_wp2_with fail
  · refine (alive_any _).mono ?_
    rintro e w3 ⟨rfl, hb3⟩
    go_wp2
    go_ret
    exact ⟨rfl, behind hbw2 hb3⟩
  · have hbig : (a.size : Int) + (b.size : Int) ≤ 1048576 := by assumption
    refine (words_t a _ (by omega)).mono ?_
    rintro e w3 ⟨A, rfl, hA, hb3⟩
    have hbw3 : Below w.heap.size w w3 := behind hbw2 hb3
    clear hb3 hbw2
    go_wp2_with fail
    refine (words_t b _ (by omega)).mono ?_
    rintro e w4 ⟨B, rfl, hB, hb4⟩
    have hA4 := hA.kept hb4
    have hbw4 : Below w.heap.size w w4 := behind hbw3 hb4
    clear hb4 hbw3 hA
    have hxl := words_length a.data.toList
    have hyl := words_length b.data.toList
    have hal : a.data.toList.length = a.size := by simp
    have hbl : b.data.toList.length = b.size := by simp
    rw [hal] at hxl
    rw [hbl] at hyl
    have HAL := Lib.hid hal
    clear hal hbl
    obtain ⟨i0, hi, hz0, hz1, hz2⟩ := info_parts info9
    go_wp2_with (first | (at_builtin; refine wpList_append_own _ rfl (.const (.slice none 0 0)) (.tmp 33) 34 rfl w4.heap.size 9 i0 (.string ⟨#[]⟩) 1 16 Try.underlying34 hi hz0 hz1 hz2 rfl (by decide) (.slice none 0 0) 0 [] rfl (World.ownsRow_nil _ _ _ _) ⟨A, 0, none⟩ _ _ ((wordsL a.data.toList).map strV) rfl (by simp) (by exact news_ok (hA4.kept (laidNew _ _))) (one_ok _) (by unfold maxLen; omega) (by omega) (by simp) ?_; intro v5 w5 hown5 hgrow5 hn5; clear hn5; have hb5 := (laidNew w4 (.cells #[.string ⟨#[32]⟩, .string ⟨#[9]⟩, .string ⟨#[10]⟩, .string ⟨#[32, 10, 32]⟩] 9)).grown hgrow5 (by simp) (fun j e => by simp [Value.ownBlock] at e); have hB5 := hB.kept hb5; clear hgrow5) | (at_builtin; refine wpList_append_own _ rfl (.tmp 34) (.tmp 35) 34 rfl w4.heap.size 9 i0 (.string ⟨#[]⟩) 1 16 Try.underlying34 hi hz0 hz1 hz2 rfl (by decide) v5 _ _ rfl hown5 ⟨B, 0, none⟩ _ _ ((wordsL b.data.toList).map strV) rfl (by simp) (by exact news_ok hB5) (one_ok _) (by unfold maxLen; omega) (by omega) (by exact hb5.size) ?_; intro v6 w6 hown6 hgrow6 hn6; clear hn6))
    have hb6 := hb5.grown hgrow6 hb5.size (fun j e => (hown5.lt j e).1)
    have hA6 := hA4.kept hb6
    have hbw6 := behind hbw4 hb6
    have HT6 := Lib.hid (texts_owned (l := wordsL a.data.toList ++ wordsL b.data.toList) (by simpa using hown6) (by simp) (by rw [List.length_append]; omega))
    clear hgrow6 hown6 hown5 hb5 hB5 hA4 hB hq hq3 hbw4 hb6
    have hgs : g.size ≤ 3 := by simpa using hg3
    go_loop [11, 12] (fun s i => ∃ (k : Nat) (t : ByteArray), k ≤ (wordsL a.data.toList).length ∧ i = .int .i64 k ∧ s = .string t ∧ t.data.toList = joinL g.data.toList ((wordsL a.data.toList).take k)) (fun _ i => (wordsL a.data.toList).length - (intOf i).toNat)
    case atStart => exact ⟨0, ⟨#[]⟩, by omega, rfl, rfl, by simp [joinL]⟩
    case round =>
      obtain ⟨k, t, hk, rfl, rfl, ht⟩ := hrel
      have HJ := Lib.hid ht
      have htz : t.size ≤ 3 * a.size + 3 := by
        have h1 := join_words g.data.toList a.data.toList hg3 k
        rw [← ht, HAL.out] at h1
        simpa using h1
      clear ht
      by_cases hlt : k < (wordsL a.data.toList).length
      · have hc := hA6 k hlt
        unfold strV at hc
        have hw := words_word a.data.toList (wordsL a.data.toList)[k] (List.getElem_mem hlt)
        obtain ⟨x, hx, hxd, hxz⟩ := named (wordsL a.data.toList)[k]
        rw [hx] at hc
        have hx1 : ¬ x.toList = [] := by rw [Lib.toList_data, hxd]; exact hw.1
        have hx2 : x.toList.isEmpty = false := by rw [List.isEmpty_eq_false_iff]; exact hx1
        have HXD := Lib.hid hxd
        have hxz' : x.size ≤ a.size + 1 := by
          have h1 := go_sizes a.data.toList []
          have h2 : (wordsL a.data.toList)[k].length + 1 ≤ ((wordsL a.data.toList).map fun x => x.length + 1).sum := mem_le_sum _ _ (List.getElem_mem hlt)
          unfold wordsL at h2 hxz
          rw [HAL.out] at h1
          simp at h1
          omega
        clear hx hxd hxz hw
        go_wp2
        go_round
        case rel => exact ⟨k + 1, _, by omega, by go_num, rfl, by rw [cat_data, cat_data, HJ.out, HXD.out, List.take_succ_eq_append_getElem hlt, join_snoc]⟩
        case measure => simp [intOf]; omega
      · have HE := Lib.hid (show (wordsL a.data.toList).take k = wordsL a.data.toList from List.take_of_length_le (by omega))
        have HW1 : Hid (wordsL (a ++ g ++ b).data.toList = wordsL a.data.toList ++ wordsL b.data.toList) := by
          exact Lib.hid (by rw [cat_data, cat_data]; exact words_between _ _ _ HG.out.1 HG.out.2)
        have HW2 : Hid (wordsL (t ++ g).data.toList = wordsL a.data.toList) := by
          exact Lib.hid (by rw [cat_data, HJ.out, HE.out]; exact words_join _ HG.out.1 HG.out.2 _ (words_word _))
        have hz1 : (a ++ g ++ b).size ≤ 4294967296 := by rw [cat_size, cat_size]; omega
        have hz2 : (t ++ g).size ≤ 4294967296 := by rw [cat_size]; omega
        go_wp2_with fail
        refine (words_t _ _ hz1).mono ?_
        rintro e w7 ⟨C, rfl, hC, hb7⟩
        rw [HW1.out] at hC ⊢
        go_wp2_with fail
        have HT7 : Texts w7 (.slice (some ⟨C, 0, none⟩) ((wordsL a.data.toList).length + (wordsL b.data.toList).length) ((wordsL a.data.toList).length + (wordsL b.data.toList).length)) (wordsL a.data.toList ++ wordsL b.data.toList) := by
          have h := hC.texts (cap := (wordsL a.data.toList).length + (wordsL b.data.toList).length) (by rw [List.length_append]; omega)
          rwa [List.length_append] at h
        refine (sameTexts_any _ _ (wordsL a.data.toList ++ wordsL b.data.toList) (wordsL a.data.toList ++ wordsL b.data.toList) _ HT7 (HT6.out.kept hb7)).mono ?_
        rintro e w8 ⟨rfl, q, hw8⟩
        have hbw8 : Below w.heap.size w w8 := by rw [hw8]; exact below_drewN (behind hbw6 hb7) q
        have hA8 : CellsT w8 A (wordsL a.data.toList) := by rw [hw8]; exact fun j hj => (hA6.kept hb7) j hj
        clear hw8 hb7 hC hA6 hbw6
        go_wp2_with fail
        refine (words_t _ _ hz2).mono ?_
        rintro e w9 ⟨D, rfl, hD, hb9⟩
        rw [HW2.out] at hD ⊢
        go_wp2_with fail
        refine (sameTexts_any _ _ (wordsL a.data.toList) (wordsL a.data.toList) _ (hD.texts (by omega)) ((hA8.kept hb9).texts (by omega))).mono ?_
        rintro e w10 ⟨rfl, q, rfl⟩
        go_wp2
        go_ret
        exact ⟨rfl, below_drewN (behind hbw8 hb9) q⟩

theorem readable : ∀ t ∈ #[9, 9, 5].toList, Try.prog.readableRec t = true ∧ t < Try.prog.types.size := by
  intro t ht
  have h : t ∈ ([9, 9, 5] : List TypeId) := ht
  simp only [List.mem_cons, List.not_mem_nil, or_false] at h
  rcases h with rfl | rfl | rfl
  · exact ⟨by kernel_rfl, of_decide_eq_true (by kernel_rfl)⟩
  · exact ⟨by kernel_rfl, of_decide_eq_true (by kernel_rfl)⟩
  · exact ⟨by kernel_rfl, of_decide_eq_true (by kernel_rfl)⟩

theorem lifted (os : Os) (started : os.Started) (H : Type) (enc : TypeId × Value → H) :
    ReturnsInHanded {} Try.checked os 10 .any (Rows.lettersJoinsSpec.pre6 enc Try.prog Try.f10 Rows.lettersJoinsRow.domain false) (Rows.lettersJoinsSpec.post enc Try.prog Try.f10 false true false false) := by
  refine returnsInHanded_of_change_sized (C := Try.checked) own started (by kernel_rfl) Try.func10
    (ChangeSpec.witness6 (enc := enc) (C := Try.checked) false ⟨#[], #[.string ⟨#[]⟩, .string ⟨#[]⟩, .int .u8 0], []⟩ 8 (by kernel_rfl) (by kernel_rfl) (by kernel_rfl) (by kernel_rfl)) ?_
  intro W base args ds gs before hval hW _ hz _
  have hW' := hW
  obtain ⟨p, q, hA, hV, rfl, hfz, hnd⟩ := hW
  rw [Try.params10] at hA hval
  obtain ⟨v0, vs0, d0, ds0, p0, q0, hargs0, rfl, rfl, h0, r0⟩ := trodAll_cons hA
  obtain ⟨v1, vs1, d1, ds1, p1, q1, hargs1, rfl, rfl, h1, r1⟩ := trodAll_cons r0
  obtain ⟨v2, vs2, d2, ds2, p2, q2, hargs2, rfl, rfl, h2, r2⟩ := trodAll_cons r1
  obtain ⟨rfl, rfl, rfl⟩ := trodAll_nil r2
  subst hargs1
  subst hargs2
  obtain rfl : args = #[v0, v1, v2] := by cases args; simp_all
  obtain ⟨rfl, rfl⟩ := trodVars_none hV
  obtain ⟨s0, rfl, rfl, rfl, hs0⟩ := string_arg (hval 0 9 v0 rfl rfl) h0
  have hr0 := string_reach hz (j := 0) (s := s0) rfl rfl
  obtain ⟨s1, rfl, rfl, rfl, hs1⟩ := string_arg (hval 1 9 v1 rfl rfl) h1
  have hr1 := string_reach hz (j := 1) (s := s1) rfl rfl
  obtain ⟨n2, rfl, rfl, rfl, wf2⟩ := open_int Try.underlying5 (hval 2 5 v2 rfl rfl) h2
  refine (walk s0 hs0 hr0 s1 hs1 hr1 n2 wf2 W).mono fun e W' ⟨he, hb⟩ => ⟨_, he, law_post rfl rfl ?_ hW' rfl hb⟩
  rw [Try.params10]
  exact readable

theorem proved : Rows.LettersJoinsSaid :=
  OpenClaim.holds_of_wide 10 Try.f10 rfl rfl rfl rfl rfl rfl rfl ⟨rfl, rfl, rfl, rfl, rfl⟩ rfl rfl rfl rfl rfl (by kernel_rfl) Try.func10 (by kernel_rfl)
    (of_decide_eq_true (by kernel_rfl)) (by unfold Func.isWrapper; first | (rw [if_pos (by decide +kernel)]; kernel_rfl) | (rw [if_neg (by decide +kernel)]; exact ⟨rfl, rfl⟩))
    (fun os started H enc _ => lifted os started H enc)
end Go.Proofs.Ytljkcdmcjbhgaaa.joinsLaw
