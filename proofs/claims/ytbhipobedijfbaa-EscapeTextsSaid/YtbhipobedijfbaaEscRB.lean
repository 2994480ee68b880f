import Derived.Test.YtbhipobedijfbaaEscRT
namespace Go.Proofs.Ytbhipobedijfbaa
open Go.RowKit Go.Maps
set_option maxRecDepth 100000

/-! ### the document's own answer: Back; the lists' side -/
theorem head_iff {d : UInt8} {m : List UInt8} (h : markL d = some m) (t : List UInt8) : m <+: t ↔ headL t = some (d, m.length) := by
  constructor
  · rintro ⟨t', rfl⟩; exact headL_mark h t'
  · intro e
    have := (head_pos e).2.2
    rw [h] at this
    rw [Option.some.inj this]
    exact List.take_prefix _ _
/-- what has been found among the first signs -/
def hitL (hd : Option (UInt8 × Nat)) (k : Nat) : List UInt8 × Nat := match hd with
  | some (d, m) => if d ∈ signsL.take k then ([d], m) else ([], 0)
  | none => ([], 0)
theorem hit_zero (hd : Option (UInt8 × Nat)) : hitL hd 0 = ([], 0) := by
  unfold hitL
  cases hd with
  | none => rfl
  | some p => simp
theorem signs_nodup {k : Nat} (h : k < 5) : signsL[k]'h ∉ signsL.take k := by
  match k, h with
  | 0, _ => exact (by decide : (38 : UInt8) ∉ ([] : List UInt8))
  | 1, _ => exact (by decide : (60 : UInt8) ∉ ([38] : List UInt8))
  | 2, _ => exact (by decide : (62 : UInt8) ∉ ([38, 60] : List UInt8))
  | 3, _ => exact (by decide : (34 : UInt8) ∉ ([38, 60, 62] : List UInt8))
  | 4, _ => exact (by decide : (39 : UInt8) ∉ ([38, 60, 62, 34] : List UInt8))
theorem signs_mark {k : Nat} (h : k < 5) : ∃ m, markL (signsL[k]'h) = some m := by
  match k, h with
  | 0, _ => exact ⟨_, rfl⟩
  | 1, _ => exact ⟨_, rfl⟩
  | 2, _ => exact ⟨_, rfl⟩
  | 3, _ => exact ⟨_, rfl⟩
  | 4, _ => exact ⟨_, rfl⟩
theorem signs_take {k : Nat} (h : k < 5) : signsL.take (k + 1) = signsL.take k ++ [signsL[k]'h] := List.take_succ_eq_append_getElem h
theorem hit_yes {t : List UInt8} {k : Nat} (h : k < 5) {m : List UInt8} (hm : markL (signsL[k]'h) = some m) (hp : m <+: t) : hitL (headL t) k = ([], 0) ∧ hitL (headL t) (k + 1) = ([signsL[k]'h], m.length) := by
  have e := (head_iff hm t).1 hp
  unfold hitL
  rw [e]
  simp only
  exact ⟨if_neg (signs_nodup h), if_pos (by rw [signs_take h]; simp)⟩
theorem hit_no {t : List UInt8} {k : Nat} (h : k < 5) {m : List UInt8} (hm : markL (signsL[k]'h) = some m) (hp : ¬ m <+: t) : hitL (headL t) (k + 1) = hitL (headL t) k := by
  unfold hitL
  cases e : headL t with
  | none => rfl
  | some p =>
    obtain ⟨d, n⟩ := p
    simp only
    have hne : ¬ d = signsL[k]'h := fun x => by
      subst x
      have h1 := (head_pos e).2.2
      rw [hm] at h1
      exact hp (by rw [Option.some.inj h1]; exact List.take_prefix _ _)
    by_cases hd : d ∈ signsL.take k
    · rw [if_pos hd, if_pos (by rw [signs_take h]; exact List.mem_append_left _ hd)]
    · rw [if_neg hd, if_neg (by rw [signs_take h]; simp only [List.mem_append, List.mem_singleton]; rintro (x | x); exact hd x; exact hne x)]
theorem head_sign {t : List UInt8} {d : UInt8} {n : Nat} (h : headL t = some (d, n)) : d ∈ signsL := by
  unfold headL at h
  repeat' split at h
  all_goals first
    | (cases h; decide)
    | cases h
theorem hit_all (t : List UInt8) : hitL (headL t) 5 = match headL t with | some (d, m) => ([d], m) | none => ([], 0) := by
  unfold hitL
  cases e : headL t with
  | none => rfl
  | some p =>
    obtain ⟨d, n⟩ := p
    simp only
    rw [if_pos (by rw [List.take_of_length_le (by decide)]; exact head_sign e)]
theorem prefix_at (s mb : ByteArray) (i : Nat) (hi : i ≤ s.size) : mb.data.toList <+: s.data.toList.drop i ↔ (i + mb.size ≤ s.size ∧ s.extract i (i + mb.size) = mb) := by
  have hl := size_len s
  have hm := size_len mb
  constructor
  · intro h
    have hz := h.length_le
    rw [List.length_drop] at hz
    refine ⟨by omega, ?_⟩
    rw [← bT_data (s.extract _ _), extract_two]
    have : mb.data.toList = (s.data.toList.take (i + mb.size)).drop i := by
      rw [List.drop_take, show i + mb.size - i = mb.data.toList.length by omega]
      exact List.prefix_iff_eq_take.1 h
    rw [← this, bT_data]
  · rintro ⟨h1, h2⟩
    rw [← h2, extract_two, List.drop_take]
    exact List.take_prefix _ _

set_option maxHeartbeats 8000000 in
theorem refBack_c (s : ByteArray) (w : World) (hs : s.size ≤ 10000000) : Calls Try.prog 11 #[.string s] w fun e w' => e = .returned (backV (backL s.data.toList)) ∧ Below w.heap.size w w' := by
  obtain ⟨i0, hi, hz0, hz1, hz2⟩ := info_parts byteInfo
  have HST := Lib.hid stands_c
  obtain ⟨sb, hsb⟩ : ∃ sb, (⟨#[38, 60, 62, 34, 39]⟩ : ByteArray) = sb := ⟨_, rfl⟩
  have hsl : sb.data.toList = signsL := by rw [← hsb]; rfl
  have hsz : sb.size = 5 := by rw [← hsb]; rfl
  have HSL := Lib.hid hsl
  clear hsl
  go_enter Try.func11, Try.ntmps11
  go_wp2
  simp only [hsb]
  clear hsb
  go_loopw [4, 6] (fun bv0 iv wr => ∃ bv, bv = bv0 ∧ ∃ (i : Nat) (acc : List UInt8), i ≤ s.size ∧ iv = .int .i64 (i : Int) ∧ backL s.data.toList = (backL (s.data.toList.drop i)).map (acc ++ ·) ∧ acc.length ≤ i ∧ wr.ownsRow w.heap.size 5 1 bv acc.length (Lib.byteCells acc) ∧ Below w.heap.size w wr) (fun _ iv _ => s.size - (intOf iv).toNat)
  case atStart => exact ⟨_, rfl, 0, [], by omega, rfl, by simp, by simp, ⟨rfl, .inl ⟨rfl, rfl⟩⟩, Below.refl _ _⟩
  case round =>
    obtain ⟨bv, rfl, i, acc, hi2, rfl, hbk, hal, hrow, hbel⟩ := hrel
    have HR := Lib.hid hrow
    have hzz := hbel.size
    have HB := Lib.hid hbel
    have HK := Lib.hid hbk
    clear hbk
    by_cases hlt : i < s.size
    · clear hrow
      have hll : i < s.data.toList.length := by simpa using hlt
      have HD : Hid (s.data.toList.drop i = s[i] :: s.data.toList.drop (i + 1)) := Lib.hid (List.drop_eq_getElem_cons hll)
      obtain ⟨c, hc⟩ : ∃ c, s[i] = c := ⟨_, rfl⟩
      rw [hc] at HD
      cases hm : markL c with
      | none =>
        have h1 : stB c = ⟨#[]⟩ := by unfold stB; rw [hm]; rfl
        have HS := fun w => (stands_c c w)
        rw [h1] at HS
        have HM := Lib.hid hm
        clear h1 hm
        go_wp2_with (first
          | (go_at_call 25; refine (HS _).mono ?_; rintro e w2 ⟨rfl, rfl⟩)
          | (at_builtin; refine wpList_append_own _ rfl _ _ 44 rfl w.heap.size 5 i0 (.int .u8 0) 1 1 Try.underlying44 hi hz0 hz1 hz2 rfl (by decide) _ _ _ rfl (HR.out.alloc _) ⟨wr.heap.size, 0, none⟩ 1 1 [.int .u8 (c.toNat : Int)] rfl rfl (cell_one_new _ _ _) (by simp [Value.oneCell']) (by unfold maxLen; omega) (by omega) (by simp; omega) ?_; intro bv6 w6 r6 g6 _))
        have hb6 : Below w.heap.size w w6 := (behind HB.out (laidNew wr _)).grown g6 (by simp; omega) (fun j e => by have := (HR.out.lt j e).1; omega)
        have r7 : w6.ownsRow w.heap.size 5 1 bv6 (acc ++ [c]).length (Lib.byteCells (acc ++ [c])) := by
          rw [List.length_append]
          have : Lib.byteCells (acc ++ [c]) = Lib.byteCells acc ++ [.int .u8 (c.toNat : Int)] := by simp [Lib.byteCells]
          rw [this]; exact r6
        go_roundw
        case rel =>
          refine ⟨_, rfl, i + 1, acc ++ [c], by omega, by go_num, ?_, by simp; omega, r7, hb6⟩
          rw [HK.out, HD.out, backL_plain _ HM.out, Option.map_map]
          congr 1
          funext x
          simp only [Function.comp, List.append_assoc, List.singleton_append]
        case measure => simp [intOf]; omega
      | some m0 =>
        have h1 : stB c = bT m0 := by unfold stB; rw [hm]; rfl
        obtain ⟨mb, hmb⟩ : ∃ mb, bT m0 = mb := ⟨_, rfl⟩
        have hne : mb.toList.isEmpty = false := by
          apply str_ne
          obtain ⟨t, e⟩ := markL_head hm
          rw [← hmb, size_len, bT_list, e]; simp
        have HS := fun w => (stands_c c w)
        rw [h1, hmb] at HS
        have HM := Lib.hid hm
        clear h1 hm hmb
        go_wp2_with (go_at_call 25; refine (HS _).mono ?_; rintro e w2 ⟨rfl, rfl⟩)
        obtain ⟨hd, hhd⟩ : ∃ hd, headL (s.data.toList.drop i) = hd := ⟨_, rfl⟩
        have HH := Lib.hid hhd
        have hr0 : wr.ownsRow w.heap.size 5 1 bv (acc ++ (hitL hd 0).1).length (Lib.byteCells (acc ++ (hitL hd 0).1)) := by rw [hit_zero, List.append_nil]; exact HR.out
        have HR0 := Lib.hid hr0
        clear hhd hr0
        go_loopw [4, 7, 8] (fun bv0 nv kv w2 => ∃ b2, b2 = bv0 ∧ ∃ k : Nat, k ≤ 5 ∧ kv = .int .i64 (k : Int) ∧ nv = .int .i64 (((hitL hd k).2 : Nat) : Int) ∧ w2.ownsRow w.heap.size 5 1 b2 (acc ++ (hitL hd k).1).length (Lib.byteCells (acc ++ (hitL hd k).1)) ∧ Below w.heap.size w w2) (fun _ _ kv _ => 5 - (intOf kv).toNat)
        case atStart => exact ⟨_, rfl, 0, by omega, rfl, by rw [hit_zero]; rfl, HR0.out, HB.out⟩
        case round =>
          obtain ⟨b2, rfl, k, hk, rfl, rfl, hrow2, hbel2⟩ := hrel
          have HR2 := Lib.hid hrow2
          have hz2' := hbel2.size
          have HB2 := Lib.hid hbel2
          clear hrow2 HR0
          obtain ⟨hn, hnn⟩ : ∃ hn, (hitL hd k).2 = hn := ⟨_, rfl⟩
          have HN := Lib.hid hnn
          rw [hnn]
          clear hnn
          by_cases hk5 : k < 5
          · have hksb : k < sb.size := by omega
            have hkd : sb[k] = signsL[k]'hk5 := by
              have : ∀ (l : List UInt8) (h : sb.data.toList = l) (h2 : k < l.length), sb[k] = l[k] := fun l h h2 => by subst h; rfl
              exact this signsL HSL.out hk5
            obtain ⟨m, hm⟩ := signs_mark hk5
            obtain ⟨d, hd'⟩ : ∃ d, sb[k] = d := ⟨_, rfl⟩
            have HD2 : Hid (d = signsL[k]'hk5) := Lib.hid (by rw [← hd']; exact hkd)
            have h1 : stB d = bT m := by unfold stB; rw [HD2.out, hm]; rfl
            obtain ⟨xb, hxb⟩ : ∃ xb, bT m = xb := ⟨_, rfl⟩
            have hxl : m = xb.data.toList := by rw [← hxb, bT_list]
            have hxz : xb.size ≤ 6 := by
              have h2 := oneL_len (signsL[k]'hk5)
              unfold oneL at h2
              rw [hm, Option.getD_some, hxl, ← size_len] at h2
              exact h2
            have HS2 := fun w => stands_c d w
            rw [h1, hxb] at HS2
            rw [hxl] at hm
            have HM2 := Lib.hid hm
            have HPX := Lib.hid (prefix_at s xb i (by omega))
            clear hkd hm h1 hxb hxl
            have hw1 : IntKind.i64.wrap ((s.size : Int) - (i : Int)) = (s.size : Int) - (i : Int) := by rw [IntKind.wrap_i64]; omega
            by_cases hge : i + xb.size ≤ s.size
            · have hg1 : (xb.size : Int) ≤ (s.size : Int) - (i : Int) := by omega
              have hw2 : IntKind.i64.wrap ((i : Int) + (xb.size : Int)) = ((i + xb.size : Nat) : Int) := by rw [IntKind.wrap_i64]; omega
              obtain ⟨j, hj⟩ : ∃ j, i + xb.size = j := ⟨_, rfl⟩
              rw [hj] at hw2
              have HJ := Lib.hid hj
              have hg2 : (i : Int) ≤ (j : Int) := by omega
              have hg3 : (j : Int) ≤ (s.size : Int) := by omega
              obtain ⟨eb, heb⟩ : ∃ eb, s.extract i j = eb := ⟨_, rfl⟩
              have HEB := Lib.hid heb
              clear hj hge
              by_cases heq : eb = xb
              · have hp : xb.data.toList <+: s.data.toList.drop i := HPX.out.2 ⟨by have := HJ.out; omega, by rw [HJ.out, HEB.out, heq]⟩
                obtain ⟨y1, y2⟩ := hit_yes hk5 HM2.out hp
                rw [HH.out] at y1 y2
                have hn0 := HN.out
                have hr2 := HR2.out
                rw [y1] at hn0 hr2
                rw [List.append_nil] at hr2
                have HR3 := Lib.hid hr2
                have HY := Lib.hid y2
                rw [heq] at heb
                have hss : (xb.toList == xb.toList) = true := by simp
                clear heq hp y1 y2 hr2 hn0
                go_wp2_with (first
                  | (go_at_call 25; refine (HS2 _).mono ?_; rintro e w3 ⟨rfl, rfl⟩)
                  | (at_builtin; refine wpList_append_own _ rfl _ _ 44 rfl w.heap.size 5 i0 (.int .u8 0) 1 1 Try.underlying44 hi hz0 hz1 hz2 rfl (by decide) _ _ _ rfl (HR3.out.alloc _) ⟨wr.heap.size, 0, none⟩ 1 1 [.int .u8 (d.toNat : Int)] rfl rfl (cell_one_new _ _ _) (by simp [Value.oneCell']) (by unfold maxLen; omega) (by omega) (by simp; omega) ?_; intro bv6 w6 r6 g6 _))
                have hb6 : Below w.heap.size w w6 := (behind HB2.out (laidNew wr _)).grown g6 (by simp; omega) (fun j e => by have := (HR3.out.lt j e).1; omega)
                have r7 : w6.ownsRow w.heap.size 5 1 bv6 (acc ++ (hitL hd (k + 1)).1).length (Lib.byteCells (acc ++ (hitL hd (k + 1)).1)) := by
                  rw [HY.out, List.length_append]
                  have : Lib.byteCells (acc ++ [signsL[k]'hk5]) = Lib.byteCells acc ++ [.int .u8 (d.toNat : Int)] := by rw [HD2.out]; simp [Lib.byteCells]
                  rw [this]; exact r6
                go_roundw
                case rel => exact ⟨_, rfl, k + 1, by omega, by go_num, by rw [HY.out, ← size_len], r7, hb6⟩
                case measure => simp [intOf]; omega
              · have hp : ¬ xb.data.toList <+: s.data.toList.drop i := fun h => heq (by
                  have := (HPX.out.1 h).2
                  rw [HJ.out, HEB.out] at this
                  exact this)
                have y := hit_no hk5 HM2.out hp
                rw [HH.out] at y
                have HY := Lib.hid y
                have hss : (eb.toList == xb.toList) = false := by
                  rw [Bool.eq_false_iff]
                  intro e
                  have h2 := beq_iff_eq.1 e
                  rw [Go.ByteArray.toList_eq, Go.ByteArray.toList_eq] at h2
                  exact heq (by rw [← bT_data eb, ← bT_data xb, h2])
                clear hp y
                go_wp2_with (go_at_call 25; refine (HS2 _).mono ?_; rintro e w3 ⟨rfl, rfl⟩)
                go_roundw
                case rel => exact ⟨_, rfl, k + 1, by omega, by go_num, by rw [HY.out, HN.out], by rw [HY.out]; exact HR2.out, HB2.out⟩
                case measure => simp [intOf]; omega
            · have hp : ¬ xb.data.toList <+: s.data.toList.drop i := fun h => hge (HPX.out.1 h).1
              have y := hit_no hk5 HM2.out hp
              rw [HH.out] at y
              have HY := Lib.hid y
              have hg1 : ¬ ((xb.size : Int) ≤ (s.size : Int) - (i : Int)) := by omega
              clear hp y
              go_wp2_with (go_at_call 25; refine (HS2 _).mono ?_; rintro e w3 ⟨rfl, rfl⟩)
              go_roundw
              case rel => exact ⟨_, rfl, k + 1, by omega, by go_num, by rw [HY.out, HN.out], by rw [HY.out]; exact HR2.out, HB2.out⟩
              case measure => simp [intOf]; omega
          · obtain rfl : k = 5 := by omega
            have hall := hit_all (s.data.toList.drop i)
            rw [HH.out] at hall
            have hcl : c :: s.data.toList.drop (i + 1) = s.data.toList.drop i := HD.out.symm
            cases hd with
            | none =>
              have h0 : hn = 0 := by rw [← HN.out, hall]
              subst h0
              have hb0 : backL s.data.toList = none := by
                rw [HK.out, HD.out, backL_bad HM.out (by rw [hcl]; exact HH.out)]; rfl
              have HF := Lib.hid hb0
              clear hall hb0 hcl
              go_wp2
              go_ret2
              exact ⟨by rw [HF.out]; rfl, HB2.out⟩
            | some p =>
              obtain ⟨d, n⟩ := p
              simp only at hall
              have h0 : hn = n := by rw [← HN.out, hall]
              subst h0
              obtain ⟨hn0, hnl, -⟩ := head_pos HH.out
              rw [List.length_drop] at hnl
              have hll2 := size_len s
              have hb0 : backL s.data.toList = (backL (s.data.toList.drop (i + hn))).map ((acc ++ [d]) ++ ·) := by
                rw [HK.out, HD.out, backL_mark HM.out (by rw [hcl]; exact HH.out), hcl, List.drop_drop, Option.map_map]
                congr 1
                funext x
                simp only [Function.comp, List.append_assoc, List.singleton_append]
              have HF := Lib.hid hb0
              have hr2 := HR2.out
              rw [hall] at hr2
              have HR3 := Lib.hid hr2
              have hw3 : IntKind.i64.wrap ((i : Int) + (hn : Int)) = ((i + hn : Nat) : Int) := by rw [IntKind.wrap_i64]; omega
              have hnz : ¬ (hn : Int) = 0 := by omega
              have hnz2 : ¬ hn = 0 := by omega
              clear hall hb0 hcl hr2
              go_wp2
              go_roundw
              case rel => exact ⟨_, rfl, i + hn, acc ++ [d], by omega, by go_num, HF.out, by simp; omega, HR3.out, HB2.out⟩
              case measure => simp [intOf]; omega
    · have hcv := conv_row _ _ _ _ _ hrow
      have hfin : backL s.data.toList = some acc := by
        rw [HK.out, List.drop_eq_nil_of_le (by simp; omega), backL_nil]; simp
      have HF := Lib.hid hfin
      clear hfin
      go_wp2
      go_ret2
      exact ⟨by rw [HF.out]; rfl, HB.out⟩
end Go.Proofs.Ytbhipobedijfbaa
