/-
  TermsBack: a term's text tells it again, with blanks around its parts, too; for any three texts of together at most 1048576 bytes, and true is answered beyond. The row lists three tables (two of the library, the forms of terms), tied to the program's text; no condition: every three strings that can be read.
-/
import Derived.Test.YtdbhlnokhfflmaaDoorCards
import Derived.Test.YtdbhlnokhfflmaaDoorTie
import Derived.Test.YtdbhlnokhfflmaaDoorLaidF
import Derived.Test.YtdbhlnokhfflmaaDoorWitness
import Derived.Test.YtdbhlnokhfflmaaDoorAlive7
import Derived.Test.YtdbhlnokhfflmaaDoorTermP
namespace Go.Proofs.YtdbhlnokhfflmaaDoor.backLaw
open Go.ChangeShapes Go.WideShapes Go.ChangeAt Go.RowKit
open Go.ChangeMaps (open_string)
set_option maxRecDepth 100000

theorem parse_any (p : Option Parts) : ∃ (x y z : ByteArray) (e : Int), parseV p = .tuple #[.string x, .string y, .string z, .int .i64 e] := by
  cases p with
  | none => exact ⟨_, _, _, _, rfl⟩
  | some p => exact ⟨_, _, _, _, rfl⟩
theorem text_some {p : Parts} {t : List UInt8} (h : textL p = some t) : t = writeL p ∧ parseL t = some p := by
  unfold textL at h
  by_cases e : parseL (writeL p) = some p
  · rw [if_pos e] at h
    have := Option.some.inj h
    subst this
    exact ⟨rfl, e⟩
  · rw [if_neg e] at h; cases h
/-- what the loop has made, k bytes through -/
def wid (s : ByteArray) (k : Nat) : ByteArray := bT (wideL (s.data.toList.take k))
theorem wid_size (s : ByteArray) (k : Nat) (_h : k ≤ s.size) : (wid s k).size ≤ 4 * k := by
  unfold wid
  rw [bT_size]
  have : ∀ l : List UInt8, (wideL l).length ≤ 4 * l.length := by
    intro l
    induction l with
    | nil => simp [wideL]
    | cons c t ih =>
      have e : wideL (c :: t) = (if splitB c then [32, 9, c, 32] else [c]) ++ wideL t := rfl
      have e2 : (if splitB c then [32, 9, c, 32] else [c]).length ≤ 4 := by split <;> simp
      rw [e, List.length_append, List.length_cons]
      omega
  have h2 := this (s.data.toList.take k)
  have h3 : (s.data.toList.take k).length ≤ k := by rw [List.length_take]; omega
  omega
theorem one_cut (s : ByteArray) (k : Nat) (h : k < s.size) : s.extract k (k + 1) = ⟨#[s[k]]⟩ := by
  rw [show (⟨#[s[k]]⟩ : ByteArray) = bT [s[k]] from rfl]
  apply bT_eq
  rw [ByteArray.data_extract, Array.toList_extract]
  have hl : k < s.data.toList.length := by simpa using h
  unfold List.extract
  rw [show k + 1 - k = 1 by omega, List.drop_eq_getElem_cons hl]
  rfl
theorem wid_sign (s : ByteArray) (k : Nat) (h : k < s.size) (hs : splitB s[k] = true) : ((wid s k ++ ⟨#[32, 9]⟩) ++ ⟨#[s[k]]⟩) ++ ⟨#[32]⟩ = wid s (k + 1) := by
  have hl : k < s.data.toList.length := by simpa using h
  unfold wid
  rw [wide_take _ _ hl, show s.data.toList[k] = s[k] from rfl, hs]
  apply bT_eq
  simp [ByteArray.data_append, bT]
theorem wid_plain (s : ByteArray) (k : Nat) (h : k < s.size) (hs : splitB s[k] = false) : wid s k ++ ⟨#[s[k]]⟩ = wid s (k + 1) := by
  have hl : k < s.data.toList.length := by simpa using h
  unfold wid
  rw [wide_take _ _ hl, show s.data.toList[k] = s[k] from rfl, hs]
  apply bT_eq
  simp [ByteArray.data_append, bT]
theorem split_int (c : UInt8) : (splitB c = true ∧ (((c.toNat : Int) == 59) = true ∨ (((c.toNat : Int) == 59) = false ∧ ((c.toNat : Int) == 62) = true))) ∨ (splitB c = false ∧ ((c.toNat : Int) == 59) = false ∧ ((c.toNat : Int) == 62) = false) := by
  have h1 : c = 59 ↔ (c.toNat : Int) = 59 := ⟨fun e => by rw [e]; rfl, fun e => UInt8.toNat_inj.1 (by show c.toNat = 59; omega)⟩
  have h2 : c = 62 ↔ (c.toNat : Int) = 62 := ⟨fun e => by rw [e]; rfl, fun e => UInt8.toNat_inj.1 (by show c.toNat = 62; omega)⟩
  unfold splitB
  by_cases e1 : c = 59
  · exact .inl ⟨by simp [e1], .inl (by rw [beq_iff_eq]; exact h1.1 e1)⟩
  · by_cases e2 : c = 62
    · exact .inl ⟨by simp [e2], .inr ⟨by rw [beq_eq_false_iff_ne]; exact fun e => e1 (h1.2 e), by rw [beq_iff_eq]; exact h2.1 e2⟩⟩
    · exact .inr ⟨by simp [e1, e2], by rw [beq_eq_false_iff_ne]; exact fun e => e1 (h1.2 e), by rw [beq_eq_false_iff_ne]; exact fun e => e2 (h2.2 e)⟩
set_option maxHeartbeats 4000000 in
theorem walk (a : ByteArray) (_ha : a.size ≤ maxLen) (hra : a.size ≤ 140737488351232) (b : ByteArray) (_hb : b.size ≤ maxLen) (hrb : b.size ≤ 140737488351232) (c : ByteArray) (_hc : c.size ≤ maxLen) (hrc : c.size ≤ 140737488351232) (W : World) (hF : FormsIs W) :
    Calls Tryd.prog 4 #[.string a, .string b, .string c] W fun e w' => e = .returned (.bool true) ∧ Below W.heap.size W w' := by
  have HF := Lib.hid hF
  clear hF
  by_cases hbig : 1048576 < a.size + b.size + c.size
  · have hd : decide (1048576 < (a.size : Int) + (b.size : Int) + (c.size : Int)) = true := decide_eq_true (by omega)
    go_enter Tryd.func4, Tryd.ntmps4
    go_wp2_with fail
    refine (alive_c _ HF.out).mono ?_
    rintro e w1 ⟨rfl, hb1⟩
    go_wp2_with fail
    refine (beyond3 _ (a.size : Int) (b.size : Int) (c.size : Int) _ (by simp) (by simp) (by simp) (by omega) (by omega) (by omega)).mono ?_
    rintro e w2 ⟨rfl, hw2⟩
    have hb2 : Below W.heap.size W w2 := by rw [← hw2]; exact behind hb1 (laidNew _ _)
    clear hw2 hb1
    go_wp2_with fail
    refine (alive_c _ (HF.out.below hb2)).mono ?_
    rintro e w3 ⟨rfl, hb3⟩
    go_wp2
    go_ret
    exact ⟨rfl, behind hb2 hb3⟩
  · have hd : decide (1048576 < (a.size : Int) + (b.size : Int) + (c.size : Int)) = false := decide_eq_false (by omega)
    have HT := Lib.hid (fun w h => text_c a b c w h (by omega))
    cases ht : textL (a.data.toList, b.data.toList, c.data.toList) with
    | none =>
      rw [ht] at HT
      dsimp only [textV] at HT
      clear ht
      go_enter Tryd.func4, Tryd.ntmps4
      go_wp2_with fail
      refine (alive_c _ HF.out).mono ?_
      rintro e w1 ⟨rfl, hb1⟩
      go_wp2_with fail
      refine (beyond3 _ (a.size : Int) (b.size : Int) (c.size : Int) _ (by simp) (by simp) (by simp) (by omega) (by omega) (by omega)).mono ?_
      rintro e w2 ⟨rfl, hw2⟩
      have hb2 : Below W.heap.size W w2 := by rw [← hw2]; exact behind hb1 (laidNew _ _)
      clear hw2 hb1
      go_wp2_with fail
      refine (HT.out _ (HF.out.below hb2)).mono ?_
      rintro e w3 ⟨rfl, hb3⟩
      go_wp2
      go_ret
      exact ⟨rfl, behind hb2 hb3⟩
    | some tl =>
      obtain ⟨htw, htp⟩ := text_some ht
      have hl240 := (parse_some htp).1
      rw [ht] at HT
      dsimp only [textV] at HT
      obtain ⟨t, hbt⟩ : ∃ t, bT tl = t := ⟨_, rfl⟩
      have htd : t.data.toList = tl := by rw [← hbt]; rfl
      have htz : t.size ≤ 240 := by rw [← hbt, bT_size]; exact hl240
      rw [hbt] at HT
      have HP := Lib.hid (fun w h => parse_c t w h (by omega))
      rw [htd, htp] at HP
      dsimp only [parseV] at HP
      rw [bT_data, bT_data, bT_data] at HP
      have HWP := Lib.hid (fun (h : (wideL tl).length ≤ 238) => wide_parse htp h)
      have hwall : wid t t.size = bT (wideL tl) := by unfold wid; rw [List.take_of_length_le (by simp), htd]
      have hwz := wid_size t t.size (Nat.le_refl _)
      have HWA := Lib.hid hwall
      have HWZ := Lib.hid (fun k h => wid_size t k h)
      clear ht htw htp hbt htd hwall
      go_enter Tryd.func4, Tryd.ntmps4
      go_wp2_with fail
      refine (alive_c _ HF.out).mono ?_
      rintro e w1 ⟨rfl, hb1⟩
      go_wp2_with fail
      refine (beyond3 _ (a.size : Int) (b.size : Int) (c.size : Int) _ (by simp) (by simp) (by simp) (by omega) (by omega) (by omega)).mono ?_
      rintro e w2 ⟨rfl, hw2⟩
      have hb2 : Below W.heap.size W w2 := by rw [← hw2]; exact behind hb1 (laidNew _ _)
      clear hw2 hb1
      go_wp2_with fail
      refine (HT.out _ (HF.out.below hb2)).mono ?_
      rintro e w3 ⟨rfl, hb3⟩
      have hb3 := behind hb2 hb3
      go_wp2
      go_loop [9, 10] (fun v iv => ∃ k : Nat, k ≤ t.size ∧ iv = .int .i64 (k : Int) ∧ v = .string (wid t k)) (fun _ iv => t.size - (intOf iv).toNat)
      case atStart => exact ⟨0, by omega, rfl, rfl⟩
      case round =>
        obtain ⟨k, hk, rfl, rfl⟩ := hrel
        have hkz := HWZ.out k hk
        by_cases hlt : k < t.size
        · have h1 := one_cut t k hlt
          have ws := wid_sign t k hlt
          have wp := wid_plain t k hlt
          have hsp := split_int t[k]
          rw [← h1] at ws wp
          obtain ⟨q, hq⟩ : ∃ q, t.extract k (k + 1) = q := ⟨_, rfl⟩
          have hqz : q.size = 1 := by rw [← hq, h1]; rfl
          rw [hq] at ws wp
          have c1 : ((k : Int) + 1).toNat = k + 1 := by omega
          have c2 : (k : Int) + 1 ≤ (t.size : Int) := by omega
          obtain ⟨wk, hwk⟩ : ∃ x, wid t k = x := ⟨_, rfl⟩
          rw [hwk] at ws wp hkz ⊢
          obtain ⟨wn, hwn⟩ : ∃ x, wid t (k + 1) = x := ⟨_, rfl⟩
          rw [hwn] at ws wp
          clear h1
          rcases hsp with ⟨g0, g1⟩ | ⟨g0, g1, g2⟩
          · have ws := ws g0
            have s1 : ¬ 9223372036854775807 < wk.size + (⟨#[32, 9]⟩ : ByteArray).size := by show ¬ _ < wk.size + 2; omega
            obtain ⟨m1, hm1⟩ : ∃ x, wk ++ (⟨#[32, 9]⟩ : ByteArray) = x := ⟨_, rfl⟩
            have z1 : m1.size = wk.size + 2 := by rw [← hm1, ba_size]; rfl
            rw [hm1] at ws
            have s2 : ¬ 9223372036854775807 < m1.size + q.size := by omega
            obtain ⟨m2, hm2⟩ : ∃ x, m1 ++ q = x := ⟨_, rfl⟩
            have z2 : m2.size = m1.size + q.size := by rw [← hm2, ba_size]
            rw [hm2] at ws
            have s3 : ¬ 9223372036854775807 < m2.size + (⟨#[32]⟩ : ByteArray).size := by show ¬ _ < m2.size + 1; omega
            have HW2 := Lib.hid hwn
            clear z1 z2 g0 wp hwk hwn hqz
            rcases g1 with g1 | ⟨g1, g2⟩
            · go_wp2
              go_round
              case rel => exact ⟨k + 1, by omega, by go_num, by rw [HW2.out]⟩
              case measure => simp [intOf]; omega
            · go_wp2
              go_round
              case rel => exact ⟨k + 1, by omega, by go_num, by rw [HW2.out]⟩
              case measure => simp [intOf]; omega
          · have wp := wp g0
            have s1 : ¬ 9223372036854775807 < wk.size + q.size := by omega
            have HW2 := Lib.hid hwn
            clear g0 ws hwk hwn hqz
            go_wp2
            go_round
            case rel => exact ⟨k + 1, by omega, by go_num, by rw [HW2.out]⟩
            case measure => simp [intOf]; omega
        · obtain rfl : k = t.size := by omega
          have hwa := HWA.out
          obtain ⟨wk, hwk⟩ : ∃ x, wid t t.size = x := ⟨_, rfl⟩
          rw [hwk] at hwa hkz ⊢
          have s1 : ¬ 9223372036854775807 < (⟨#[32]⟩ : ByteArray).size + wk.size := by show ¬ _ < 1 + wk.size; omega
          obtain ⟨m1, hm1⟩ : ∃ x, (⟨#[32]⟩ : ByteArray) ++ wk = x := ⟨_, rfl⟩
          have z1 : m1.size = 1 + wk.size := by rw [← hm1, ba_size]; rfl
          have s2 : ¬ 9223372036854775807 < m1.size + (⟨#[9]⟩ : ByteArray).size := by show ¬ _ < m1.size + 1; omega
          obtain ⟨m2, hm2⟩ : ∃ x, m1 ++ (⟨#[9]⟩ : ByteArray) = x := ⟨_, rfl⟩
          have z2 : m2.size = m1.size + 1 := by rw [← hm2, ba_size]; rfl
          have hmd : m2.data.toList = 32 :: (wideL tl ++ [9]) := by
            rw [← hm2, ← hm1, hwa]
            simp [ByteArray.data_append, bT]
          have HQ := Lib.hid (fun w h => parse_c m2 w h (by omega))
          rw [hmd] at HQ
          have hwl : wk.size = (wideL tl).length := by rw [hwa, bT_size]
          have k1 : (a.toList == a.toList) = true := by simp
          have k2 : (b.toList == b.toList) = true := by simp
          have k3 : (c.toList == c.toList) = true := by simp
          by_cases hw : (wideL tl).length ≤ 238
          · rw [HWP.out hw] at HQ
            dsimp only [parseV] at HQ
            rw [bT_data, bT_data, bT_data] at HQ
            have g1 : ¬ (238 : Int) < (wk.size : Int) := by omega
            clear hwa hmd hwk z1 z2 hwl hw
            go_wp2_with (first
              | (go_at_call 15; (with_reducible refine (HP.out _ (HF.out.below hb3)).mono ?_); rintro e w4 ⟨rfl, hb4⟩; have hb3 := behind hb3 hb4; clear hb4)
              | (go_at_call 15; (with_reducible refine (HQ.out _ (HF.out.below hb3)).mono ?_); rintro e w4 ⟨rfl, hb4⟩; have hb3 := behind hb3 hb4; clear hb4))
            go_ret
            exact ⟨rfl, hb3⟩
          · obtain ⟨x, y, z, e, hxy⟩ := parse_any (parseL (32 :: (wideL tl ++ [9])))
            rw [hxy] at HQ
            have g1 : (238 : Int) < (wk.size : Int) := by omega
            clear hwa hmd hwk z1 z2 hwl hw hxy
            go_wp2_with (first
              | (go_at_call 15; (with_reducible refine (HP.out _ (HF.out.below hb3)).mono ?_); rintro e w4 ⟨rfl, hb4⟩; have hb3 := behind hb3 hb4; clear hb4)
              | (go_at_call 15; (with_reducible refine (HQ.out _ (HF.out.below hb3)).mono ?_); rintro e w4 ⟨rfl, hb4⟩; have hb3 := behind hb3 hb4; clear hb4))
            go_ret
            exact ⟨rfl, hb3⟩

theorem readable : ∀ t ∈ #[9, 9, 9].toList, Tryd.prog.readableRec t = true ∧ t < Tryd.prog.types.size := by
  intro t ht
  have h : t ∈ ([9, 9, 9] : List TypeId) := ht
  simp only [List.mem_cons, List.not_mem_nil, or_false] at h
  rcases h with rfl | rfl | rfl
  · exact ⟨by kernel_rfl, of_decide_eq_true (by kernel_rfl)⟩
  · exact ⟨by kernel_rfl, of_decide_eq_true (by kernel_rfl)⟩
  · exact ⟨by kernel_rfl, of_decide_eq_true (by kernel_rfl)⟩

theorem contract (H : Type) (enc : TypeId × Value → H) (W : World) (base : Nat) (args : Array Value) (ds gs : List (DataW H)) (before : List MemPlace)
    (hval : ∀ (j : Nat) t v, Tryd.f4.params[j]? = some t → args[j]? = some v → Value.okWide Tryd.prog W .any base t v)
    (hW : DataW.Whole enc Tryd.prog Tryd.f4.params.toList Rows.termsBackSpec.vars false W args.toList ds gs before)
    (hz : (DataW.weightsEach Tryd.prog (Tryd.f4.params.toList ++ (OpenSpec.ofChange Rows.termsBackSpec).bare.plain.varTypes Tryd.prog) (ds ++ gs)).all (· ≤ reachBytes) = true) (hF : FormsIs W) :
    Calls Tryd.prog 4 args W fun e W' => ∃ v, e = .returned v ∧ Rows.termsBackSpec.post enc Tryd.prog Tryd.f4 false true false false W args v W' := by
  have hW' := hW
  obtain ⟨p, q, hA, hV, rfl, hfz, hnd⟩ := hW
  rw [Tryd.params4] at hA hval
  obtain ⟨v0, vs0, d0, ds0, p0, q0, hargs0, rfl, rfl, h0, r0⟩ := trodAll_cons hA
  obtain ⟨v1, vs1, d1, ds1, p1, q1, hargs1, rfl, rfl, h1, r1⟩ := trodAll_cons r0
  obtain ⟨v2, vs2, d2, ds2, p2, q2, hargs2, rfl, rfl, h2, r2⟩ := trodAll_cons r1
  obtain ⟨rfl, rfl, rfl⟩ := trodAll_nil r2
  subst hargs1
  subst hargs2
  obtain rfl : args = #[v0, v1, v2] := by cases args; simp_all
  obtain ⟨rfl, rfl⟩ := trodVars_none hV
  obtain ⟨s0, rfl, rfl, rfl, hs0⟩ := string_arg (hval 0 9 v0 rfl rfl) h0
  have hr0 := string_reach hz (j := 0) (s := s0) rfl rfl
  obtain ⟨s1, rfl, rfl, rfl, hs1⟩ := string_arg (hval 1 9 v1 rfl rfl) h1
  have hr1 := string_reach hz (j := 1) (s := s1) rfl rfl
  obtain ⟨s2, rfl, rfl, rfl, hs2⟩ := string_arg (hval 2 9 v2 rfl rfl) h2
  have hr2 := string_reach hz (j := 2) (s := s2) rfl rfl
  refine (walk s0 hs0 hr0 s1 hs1 hr1 s2 hs2 hr2 W hF).mono fun e W' ⟨he, hb⟩ => ⟨_, he, law_post rfl rfl ?_ hW' rfl hb⟩
  rw [Tryd.params4]
  exact readable

theorem met (os : Os) : laidMet Tryd.prog Rows.termsBackRow.laid ((laidWorld os).forCall (fun _ _ => 0) ⟨#[], #[.string ⟨#[]⟩, .string ⟨#[]⟩, .string ⟨#[]⟩], []⟩).memory :=
  laidMet_of_run' 8 (by kernel_rfl) (by kernel_rfl)
theorem reads (os : Os) {H : Type} (enc : TypeId × Value → H) : ∃ places, DataW.whole enc Tryd.prog ((laidWorld os).forCall (fun _ _ => 0) ⟨#[], #[.string ⟨#[]⟩, .string ⟨#[]⟩, .string ⟨#[]⟩], []⟩).memory Tryd.f4.params.toList Rows.termsBackSpec.vars false (#[.string ⟨#[]⟩, .string ⟨#[]⟩, .string ⟨#[]⟩] : Array Value).toList 8 = some ([.lit (.string []), .lit (.string []), .lit (.string [])], [], places) :=
  ⟨[], by kernel_rfl⟩

set_option maxRecDepth 100000 in
theorem lifted (os : Os) (started : os.Started) (H : Type) (enc : TypeId × Value → H) (F : Stop.Interp) :
    ReturnsInHanded {} Tryd.checked os 4 .any ((OpenSpec.ofChange Rows.termsBackSpec).preRow enc Tryd.prog Tryd.f4 Rows.termsBackRow.domain false Rows.termsBackRow.laid) (((OpenSpec.ofChange Rows.termsBackSpec).at F).post enc Tryd.prog Tryd.f4 false true false false) := by
  obtain ⟨places, hx⟩ := reads os enc
  refine returnsInHanded_of_row (C := Tryd.checked) (s := OpenSpec.ofChange Rows.termsBackSpec) own started (by kernel_rfl) Tryd.func4
    (witness_row_at (enc := enc) (C := Tryd.checked) false (laidWorld os) #[.string ⟨#[]⟩, .string ⟨#[]⟩, .string ⟨#[]⟩] rfl (by kernel_rfl) (by kernel_rfl) (by kernel_rfl)
      (OpenSpec.preRow_of_cond 8 hx (by kernel_rfl) (fun k hk => by cases hk) (by kernel_rfl) (met os))) ?_
  intro W base args ds gs before hval hW _ _ hz hL _ _
  exact contract H enc W base args ds gs before hval hW hz (forms_of (show laidMet Tryd.prog Rows.termsBackRow.laid W from hL) (.tail _ (.head _)))

theorem said : Rows.TermsBackSaid :=
  OpenClaim.holds_of_cond 4 Tryd.f4 rfl rfl rfl rfl rfl rfl rfl ⟨rfl, rfl, rfl, rfl, rfl⟩ rfl rfl rfl rfl rfl (by kernel_rfl) Tryd.func4 (by kernel_rfl)
    (of_decide_eq_true (by kernel_rfl)) (by unfold Func.isWrapper; first | (rw [if_pos (by decide +kernel)]; kernel_rfl) | (rw [if_neg (by decide +kernel)]; exact ⟨rfl, rfl⟩))
    (fun os started H enc _ F => by rw [OpenClaim.pre_eq_preRow]; exact lifted os started H enc F)

theorem plain (f : FuncId) (fn : Func) (hf : Tryd.pinned.checked.prog.funcNamed "bindery/binderylaw07.TermsBack" = some f) (hfn : Tryd.pinned.checked.prog.funcs[f]? = some fn) :
    false = Tryd.pinned.checked.prog.looks [] ∧ ∀ (j : Nat) t, fn.params[j]? = some t → Tryd.pinned.checked.prog.wantsStandIn t = false := by
  obtain rfl : f = 4 := Option.some.inj ((show Tryd.prog.funcNamed "bindery/binderylaw07.TermsBack" = some 4 by kernel_rfl).symm.trans hf) |>.symm
  obtain rfl : fn = Tryd.f4 := (Option.some.inj (Tryd.func4.symm.trans hfn)).symm
  refine ⟨by kernel_rfl, fun j t ht => ?_⟩
  rw [Tryd.params4] at ht
  have h : t ∈ ([9, 9, 9] : List TypeId) := Array.mem_toList_iff.2 (Array.mem_of_getElem? ht)
  simp only [List.mem_cons, List.not_mem_nil, or_false] at h
  rcases h with rfl | rfl | rfl
  · exact (show Tryd.prog.wantsStandIn 9 = false by kernel_rfl)
  · exact (show Tryd.prog.wantsStandIn 9 = false by kernel_rfl)
  · exact (show Tryd.prog.wantsStandIn 9 = false by kernel_rfl)

theorem card : Rows.TermsBackCardSaid :=
  Claim7.holds_tied_plain_at .later [] _ _ _ _ said (fun _ h => by cases h) (by kernel_rfl) (fun _ h => by cases h) termsBack_row_tie rfl ⟨rfl, rfl⟩ (by kernel_rfl) rfl plain (by kernel_rfl)
end Go.Proofs.YtdbhlnokhfflmaaDoor.backLaw
