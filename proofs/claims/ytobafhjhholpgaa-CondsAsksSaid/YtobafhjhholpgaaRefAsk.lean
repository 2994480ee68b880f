import Derived.Test.YtobafhjhholpgaaRun
import Derived.Test.YtobafhjhholpgaaBt
namespace Go.Proofs.Ytobafhjhholpgaa
open Go.RowKit

/-- what stands behind a condition's name -/
def restA (o : Option ByteArray) (nm : List UInt8) (no : Bool) : List UInt8 → Option (List UInt8 × Bool)
  | [] => some (nm, o.isSome != no)
  | x :: t => if no = true then none
    else if x = 61 then some (nm, decide (o = some (bT t)))
    else match t with
      | [] => none
      | y :: t2 => if x = 33 ∧ y = 61 then some (nm, !decide (o = some (bT t2))) else none
theorem rest_no (o : Option ByteArray) (nm : List UInt8) (x : UInt8) (t : List UInt8) : restA o nm true (x :: t) = none := by simp [restA]
theorem rest_is (o : Option ByteArray) (nm : List UInt8) {x : UInt8} (t : List UInt8) (h : x = 61) : restA o nm false (x :: t) = some (nm, decide (o = some (bT t))) := by simp only [restA]; rw [if_neg (by decide), if_pos h]
theorem rest_one (o : Option ByteArray) (nm : List UInt8) {x : UInt8} (h : ¬ x = 61) : restA o nm false [x] = none := by simp [restA, h]
theorem rest_isnt (o : Option ByteArray) (nm : List UInt8) {x y : UInt8} (t : List UInt8) (h : ¬ x = 61) (h2 : x = 33 ∧ y = 61) : restA o nm false (x :: y :: t) = some (nm, !decide (o = some (bT t))) := by
  simp only [restA]; rw [if_neg (by decide), if_neg h, if_pos h2]
theorem rest_other (o : Option ByteArray) (nm : List UInt8) {x y : UInt8} (t : List UInt8) (h : ¬ x = 61) (h2 : ¬ (x = 33 ∧ y = 61)) : restA o nm false (x :: y :: t) = none := by
  simp only [restA]; rw [if_neg (by decide), if_neg h, if_neg h2]
/-- a condition behind its mark -/
def askN (l : List At) (no : Bool) (c : List UInt8) : Option (List UInt8 × Bool) :=
  if nameB (c.take (runL c)) = false then none else restA (getL l (bT (c.take (runL c)))) (c.take (runL c)) no (c.drop (runL c))
theorem ask_noname {o : Option ByteArray} {nm : List UInt8} {no : Bool} {r : List UInt8} (h : nameB nm = false) : (if nameB nm = false then none else restA o nm no r) = none := if_pos h
theorem ask_name {o : Option ByteArray} {nm : List UInt8} {no : Bool} {r : List UInt8} (h : nameB nm = true) : (if nameB nm = false then none else restA o nm no r) = restA o nm no r := if_neg (by rw [h]; decide)
/-- what a condition asks for, and whether it holds -/
def askL (l : List At) (c : List UInt8) : Option (List UInt8 × Bool) := match c with
  | [] => none
  | x :: c' => if x = 33 then askN l true c' else askN l false c
/-- what Ask answers -/
def askV : Option (List UInt8 × Bool) → Value
  | some (n, h) => .tuple #[.string (bT n), .bool h, .int .i64 0]
  | none => .tuple #[.string ⟨#[]⟩, .bool false, .int .i64 4]
theorem ask_none {o : Option (List UInt8 × Bool)} (h : o = none) : Value.tuple #[.string ⟨#[]⟩, .bool false, .int .i64 4] = askV o := by rw [h]; rfl
theorem ask_some {o : Option (List UInt8 × Bool)} {n : ByteArray} {b : Bool} (h : o = some (n.data.toList, b)) : Value.tuple #[.string n, .bool b, .int .i64 0] = askV o := by
  rw [h]; show _ = Value.tuple #[.string (bT n.data.toList), .bool b, .int .i64 0]; rw [bT_data]


set_option maxHeartbeats 2000000 in
theorem refAsk_any (v : Value) (l : List At) (s : ByteArray) (w : World) (h : Attrs w v l) (hss : s.size ≤ maxLen) : Calls Try.prog 19 #[v, .string s] w fun e w' => e = .returned (askV (askL l s.data.toList)) ∧ ∃ q, w' = w.drewN q := by
  cases hsl : s.data.toList with
  | nil =>
    have he0 : s.toList.isEmpty = true := by rw [empty_list, hsl]; rfl
    have hz0 : s.size = 0 := by have : s.data.toList.length = s.size := by simp
                                rw [hsl] at this; simp at this; omega
    have hs0 : s = ⟨#[]⟩ := by rw [← bT_data s, hsl]; rfl
    subst hs0
    have hn1 := fun w => refRun_any ⟨#[]⟩ w (by decide)
    rw [show runL (⟨#[]⟩ : ByteArray).data.toList = 0 from rfl] at hn1
    have hN := fun w => refName_any ⟨#[]⟩ w (by decide)
    rw [show nameB (⟨#[]⟩ : ByteArray).data.toList = false from by decide] at hN
    clear he0 hz0
    go_enter Try.func19, Try.ntmps19
    go_wp2_with (first | (go_at_call 36; refine (hn1 _).mono ?_; rintro e w' ⟨rfl, rfl⟩) | (go_at_call 32; refine (hN _).mono ?_; rintro e w' ⟨rfl, rfl⟩))
    go_ret3
    exact ⟨rfl, 0, rfl⟩
  | cons x0 c0 =>
    have hz0 : 0 < s.size := by have : s.data.toList.length = s.size := by simp
                                rw [hsl] at this; simp at this; omega
    have he0 : s.toList.isEmpty = false := by rw [empty_list, hsl]; rfl
    have h00 : s[0] = x0 := by have : s.data.toList[0]? = some s[0] := Lib.data_getElem? s 0 hz0
                               rw [hsl] at this; simp at this; exact this.symm
    by_cases hx : x0 = 33
    · obtain ⟨t0, ht0x⟩ : ∃ t0 : ByteArray, s.extract 1 s.size = t0 := ⟨_, rfl⟩
      have ht0d : t0.data.toList = c0 := by rw [← ht0x, extract_list, hsl]; rfl
      have hz1 : s.data.toList.length = c0.length + 1 := by rw [hsl]; rfl
      have ht0 : t0.size ≤ maxLen := by
        have h1 : t0.data.toList.length = c0.length := by rw [ht0d]
        have h2 : s.data.toList.length = s.size := by simp
        have h3 : t0.data.toList.length = t0.size := by simp
        omega
      have hsz : s.size ≤ 9223372036854775807 := by unfold maxLen at hss; omega
      have HL : Hid (askL l (x0 :: c0) = askN l true t0.data.toList) := Lib.hid (by show (if x0 = 33 then _ else _) = _; rw [if_pos hx, ht0d])
      have hxi : ((s[0].toNat : Int) == 33) = true := by rw [h00, hx]; rfl
      clear h00 hx hsl ht0d hz1
      have hn1 := fun w => refRun_any t0 w ht0
      obtain ⟨n, hn⟩ : ∃ n : Nat, runL t0.data.toList = n := ⟨_, rfl⟩
      have hnl : n ≤ t0.size := by rw [← hn]; have := runL_le t0.data.toList; simpa using this
      obtain ⟨nm, hnm⟩ : ∃ nm : ByteArray, t0.extract 0 n = nm := ⟨_, rfl⟩
      obtain ⟨r, hr⟩ : ∃ r : ByteArray, t0.extract n t0.size = r := ⟨_, rfl⟩
      have hnmd : nm.data.toList = t0.data.toList.take n := by rw [← hnm, extract_take]
      have hrd : r.data.toList = t0.data.toList.drop n := by rw [← hr, extract_list]
      have hbn : bT (t0.data.toList.take n) = nm := by rw [← hnmd, bT_data]
      have hnz : nm.size ≤ maxLen := by have : nm.data.toList.length ≤ t0.data.toList.length := by rw [hnmd, List.length_take]; omega
                                        unfold maxLen at ht0 ⊢; simp at this; omega
      have hrz : r.size ≤ 9223372036854775807 := by have : r.data.toList.length ≤ t0.data.toList.length := by rw [hrd, List.length_drop]; omega
                                                    unfold maxLen at ht0; simp at this; omega
      have hN := fun w => refName_any nm w hnz
      have hG := fun w ha => refGet_any v l nm w ha
      have HK : Hid (askN l true t0.data.toList = if nameB nm.data.toList = false then none else restA (getL l nm) nm.data.toList true r.data.toList) := Lib.hid (by unfold askN; rw [hn, hnmd, hrd, hbn])
      rw [hn] at hn1
      clear hn hnmd hrd hbn
      cases hname : nameB nm.data.toList with
      | false =>
        have HF : Hid (askL l (x0 :: c0) = none) := Lib.hid (by rw [HL.out, HK.out, ask_noname hname])
        rw [hname] at hN
        clear hname hG HK
        go_enter Try.func19, Try.ntmps19
        go_wp2_with (first | (go_at_call 36; refine (hn1 _).mono ?_; rintro e w' ⟨rfl, rfl⟩) | (go_at_call 32; refine (hN _).mono ?_; rintro e w' ⟨rfl, rfl⟩))
        go_ret3
        exact ⟨ret_v (ask_none HF.out), 0, rfl⟩
      | true =>
        rw [hname] at hN
        cases hrl : r.data.toList with
        | nil =>
          have hre : r.toList.isEmpty = true := by rw [empty_list, hrl]; rfl
          cases hg : getL l nm with
          | none =>
            have HF : Hid (askL l (x0 :: c0) = some (nm.data.toList, true)) := Lib.hid (by rw [HL.out, HK.out, ask_name hname, hrl, hg]; rfl)
            rw [hg] at hG
            unfold getV at hG
            clear hname HK hg hrl
            go_enter Try.func19, Try.ntmps19
            go_wp2_with (first | (go_at_call 36; refine (hn1 _).mono ?_; rintro e w' ⟨rfl, rfl⟩) | (go_at_call 32; refine (hN _).mono ?_; rintro e w' ⟨rfl, rfl⟩) | (go_at_call 14; refine (hG _ h).mono ?_; rintro e w' ⟨rfl, rfl⟩))
            go_ret3
            exact ⟨ret_v (ask_some HF.out), 0, rfl⟩
          | some g =>
            have HF : Hid (askL l (x0 :: c0) = some (nm.data.toList, false)) := Lib.hid (by rw [HL.out, HK.out, ask_name hname, hrl, hg]; rfl)
            rw [hg] at hG
            unfold getV at hG
            clear hname HK hg hrl
            go_enter Try.func19, Try.ntmps19
            go_wp2_with (first | (go_at_call 36; refine (hn1 _).mono ?_; rintro e w' ⟨rfl, rfl⟩) | (go_at_call 32; refine (hN _).mono ?_; rintro e w' ⟨rfl, rfl⟩) | (go_at_call 14; refine (hG _ h).mono ?_; rintro e w' ⟨rfl, rfl⟩))
            go_ret3
            exact ⟨ret_v (ask_some HF.out), 0, rfl⟩
        | cons x t =>
          have hre : r.toList.isEmpty = false := by rw [empty_list, hrl]; rfl
          have HF : Hid (askL l (x0 :: c0) = none) := Lib.hid (by rw [HL.out, HK.out, ask_name hname, hrl, rest_no])
          clear hname HK hrl hG
          go_enter Try.func19, Try.ntmps19
          go_wp2_with (first | (go_at_call 36; refine (hn1 _).mono ?_; rintro e w' ⟨rfl, rfl⟩) | (go_at_call 32; refine (hN _).mono ?_; rintro e w' ⟨rfl, rfl⟩))
          go_ret3
          exact ⟨ret_v (ask_none HF.out), 0, rfl⟩
    · have HL : Hid (askL l (x0 :: c0) = askN l false s.data.toList) := Lib.hid (by show (if x0 = 33 then _ else _) = _; rw [if_neg hx, hsl])
      have hxi : ((s[0].toNat : Int) == 33) = false := by rw [h00, beq_eq_false_iff_ne]; intro e; exact hx (UInt8.toNat_inj.1 (by show x0.toNat = 33; omega))
      clear h00 hx hsl
      have hn1 := fun w => refRun_any s w hss
      obtain ⟨n, hn⟩ : ∃ n : Nat, runL s.data.toList = n := ⟨_, rfl⟩
      have hnl : n ≤ s.size := by rw [← hn]; have := runL_le s.data.toList; simpa using this
      obtain ⟨nm, hnm⟩ : ∃ nm : ByteArray, s.extract 0 n = nm := ⟨_, rfl⟩
      obtain ⟨r, hr⟩ : ∃ r : ByteArray, s.extract n s.size = r := ⟨_, rfl⟩
      have hnmd : nm.data.toList = s.data.toList.take n := by rw [← hnm, extract_take]
      have hrd : r.data.toList = s.data.toList.drop n := by rw [← hr, extract_list]
      have hbn : bT (s.data.toList.take n) = nm := by rw [← hnmd, bT_data]
      have hnz : nm.size ≤ maxLen := by have : nm.data.toList.length ≤ s.data.toList.length := by rw [hnmd, List.length_take]; omega
                                        unfold maxLen at hss ⊢; simp at this; omega
      have hrz : r.size ≤ 9223372036854775807 := by have : r.data.toList.length ≤ s.data.toList.length := by rw [hrd, List.length_drop]; omega
                                                    unfold maxLen at hss; simp at this; omega
      have hN := fun w => refName_any nm w hnz
      have hG := fun w ha => refGet_any v l nm w ha
      have HK : Hid (askN l false s.data.toList = if nameB nm.data.toList = false then none else restA (getL l nm) nm.data.toList false r.data.toList) := Lib.hid (by unfold askN; rw [hn, hnmd, hrd, hbn])
      rw [hn] at hn1
      clear hn hnmd hrd hbn
      cases hname : nameB nm.data.toList with
      | false =>
        have HF : Hid (askL l (x0 :: c0) = none) := Lib.hid (by rw [HL.out, HK.out, ask_noname hname])
        rw [hname] at hN
        clear hname hG HK
        go_enter Try.func19, Try.ntmps19
        go_wp2_with (first | (go_at_call 36; refine (hn1 _).mono ?_; rintro e w' ⟨rfl, rfl⟩) | (go_at_call 32; refine (hN _).mono ?_; rintro e w' ⟨rfl, rfl⟩))
        go_ret3
        exact ⟨ret_v (ask_none HF.out), 0, rfl⟩
      | true =>
        rw [hname] at hN
        cases hrl : r.data.toList with
        | nil =>
          have hre : r.toList.isEmpty = true := by rw [empty_list, hrl]; rfl
          cases hg : getL l nm with
          | none =>
            have HF : Hid (askL l (x0 :: c0) = some (nm.data.toList, false)) := Lib.hid (by rw [HL.out, HK.out, ask_name hname, hrl, hg]; rfl)
            rw [hg] at hG
            unfold getV at hG
            clear hname HK hg hrl
            go_enter Try.func19, Try.ntmps19
            go_wp2_with (first | (go_at_call 36; refine (hn1 _).mono ?_; rintro e w' ⟨rfl, rfl⟩) | (go_at_call 32; refine (hN _).mono ?_; rintro e w' ⟨rfl, rfl⟩) | (go_at_call 14; refine (hG _ h).mono ?_; rintro e w' ⟨rfl, rfl⟩))
            go_ret3
            exact ⟨ret_v (ask_some HF.out), 0, rfl⟩
          | some g =>
            have HF : Hid (askL l (x0 :: c0) = some (nm.data.toList, true)) := Lib.hid (by rw [HL.out, HK.out, ask_name hname, hrl, hg]; rfl)
            rw [hg] at hG
            unfold getV at hG
            clear hname HK hg hrl
            go_enter Try.func19, Try.ntmps19
            go_wp2_with (first | (go_at_call 36; refine (hn1 _).mono ?_; rintro e w' ⟨rfl, rfl⟩) | (go_at_call 32; refine (hN _).mono ?_; rintro e w' ⟨rfl, rfl⟩) | (go_at_call 14; refine (hG _ h).mono ?_; rintro e w' ⟨rfl, rfl⟩))
            go_ret3
            exact ⟨ret_v (ask_some HF.out), 0, rfl⟩
        | cons x t =>
          have hre : r.toList.isEmpty = false := by rw [empty_list, hrl]; rfl
          have hrl1 : r.size = t.length + 1 := by have : r.data.toList.length = r.size := by simp
                                                  rw [hrl] at this; simp at this; exact this.symm
          have hr1 : 0 < r.size := by omega
          have hr0 : r[0] = x := by have : r.data.toList[0]? = some r[0] := Lib.data_getElem? r 0 hr1
                                    rw [hrl] at this; simp at this; exact this.symm
          by_cases hx61 : x = 61
          · have hxe : ((r[0].toNat : Int) == 61) = true := by rw [hr0, hx61]; rfl
            obtain ⟨r1, hr1x⟩ : ∃ r1 : ByteArray, r.extract 1 r.size = r1 := ⟨_, rfl⟩
            have hr1d : bT t = r1 := by rw [← hr1x, ← bT_data (r.extract 1 r.size), extract_list, hrl]; rfl
            cases hg : getL l nm with
            | none =>
              have HF : Hid (askL l (x0 :: c0) = some (nm.data.toList, false)) := Lib.hid (by rw [HL.out, HK.out, ask_name hname, hrl, hg, rest_is _ _ _ hx61]; rfl)
              rw [hg] at hG
              unfold getV at hG
              clear hname HK hg hrl hr0 hx61 hr1d hrl1
              go_enter Try.func19, Try.ntmps19
              go_wp2_with (first | (go_at_call 36; refine (hn1 _).mono ?_; rintro e w' ⟨rfl, rfl⟩) | (go_at_call 32; refine (hN _).mono ?_; rintro e w' ⟨rfl, rfl⟩) | (go_at_call 14; refine (hG _ h).mono ?_; rintro e w' ⟨rfl, rfl⟩))
              go_quiet (fail)
              go_wp2
              go_ret3
              exact ⟨ret_v (ask_some HF.out), _, rfl⟩
            | some g =>
              obtain ⟨b, hb⟩ : ∃ b : Bool, (g.toList == r1.toList) = b := ⟨_, rfl⟩
              have hgb : decide (some g = some r1) = b := by
                rw [← hb, Bool.eq_iff_iff, decide_eq_true_eq, beq_iff_eq, Lib.toList_data, Lib.toList_data]
                constructor
                · intro e; injection e with e; rw [e]
                · intro e; rw [ByteArray.ext (Array.toList_inj.1 e)]
              have HF : Hid (askL l (x0 :: c0) = some (nm.data.toList, b)) := Lib.hid (by rw [HL.out, HK.out, ask_name hname, hrl, hg, rest_is _ _ _ hx61, hr1d, hgb])
              rw [hg] at hG
              unfold getV at hG
              clear hname HK hg hrl hr0 hx61 hr1d hgb hrl1
              go_enter Try.func19, Try.ntmps19
              go_wp2_with (first | (go_at_call 36; refine (hn1 _).mono ?_; rintro e w' ⟨rfl, rfl⟩) | (go_at_call 32; refine (hN _).mono ?_; rintro e w' ⟨rfl, rfl⟩) | (go_at_call 14; refine (hG _ h).mono ?_; rintro e w' ⟨rfl, rfl⟩))
              go_quiet (fail)
              go_wp2
              go_ret3
              exact ⟨ret_v (ask_some HF.out), _, rfl⟩
          · have hxe : ((r[0].toNat : Int) == 61) = false := by rw [hr0, beq_eq_false_iff_ne]; intro e; exact hx61 (UInt8.toNat_inj.1 (by show x.toNat = 61; omega))
            cases t with
            | nil =>
              have hz1 : r.size ≤ 1 := by rw [hrl1]; simp
              have HF : Hid (askL l (x0 :: c0) = none) := Lib.hid (by rw [HL.out, HK.out, ask_name hname, hrl, rest_one _ _ hx61])
              cases hg : getL l nm
              all_goals
                rw [hg] at hG
                unfold getV at hG
                clear hname HK hg hrl hr0 hx61 hrl1
                go_enter Try.func19, Try.ntmps19
                go_wp2_with (first | (go_at_call 36; refine (hn1 _).mono ?_; rintro e w' ⟨rfl, rfl⟩) | (go_at_call 32; refine (hN _).mono ?_; rintro e w' ⟨rfl, rfl⟩) | (go_at_call 14; refine (hG _ h).mono ?_; rintro e w' ⟨rfl, rfl⟩))
                go_ret3
                exact ⟨ret_v (ask_none HF.out), 0, rfl⟩
            | cons y t2 =>
              have hz2 : 2 ≤ r.size := by rw [hrl1]; simp
              obtain ⟨r2, hr2⟩ : ∃ r2 : ByteArray, r.extract 0 2 = r2 := ⟨_, rfl⟩
              have hr2d : r2 = ⟨#[x, y]⟩ := by rw [← hr2, ← bT_data (r.extract 0 2), extract_take, hrl]; rfl
              by_cases hxy : x = 33 ∧ y = 61
              · obtain ⟨r3, hr3⟩ : ∃ r3 : ByteArray, r.extract 2 r.size = r3 := ⟨_, rfl⟩
                have hr3d : bT t2 = r3 := by rw [← hr3, ← bT_data (r.extract 2 r.size), extract_list, hrl]; rfl
                have hr2e : r2 = ⟨#[33, 61]⟩ := by rw [hr2d, hxy.1, hxy.2]
                rw [hr2e] at hr2
                cases hg : getL l nm with
                | none =>
                  have HF : Hid (askL l (x0 :: c0) = some (nm.data.toList, true)) := Lib.hid (by rw [HL.out, HK.out, ask_name hname, hrl, hg, rest_isnt _ _ _ hx61 hxy]; rfl)
                  rw [hg] at hG
                  unfold getV at hG
                  clear hname HK hg hrl hr0 hx61 hrl1 hr2d hr2e hxy hr3d
                  go_enter Try.func19, Try.ntmps19
                  go_wp2_with (first | (go_at_call 36; refine (hn1 _).mono ?_; rintro e w' ⟨rfl, rfl⟩) | (go_at_call 32; refine (hN _).mono ?_; rintro e w' ⟨rfl, rfl⟩) | (go_at_call 14; refine (hG _ h).mono ?_; rintro e w' ⟨rfl, rfl⟩))
                  go_quiet (fail)
                  go_wp2
                  go_ret3
                  exact ⟨ret_v (ask_some HF.out), _, rfl⟩
                | some g =>
                  obtain ⟨b, hb⟩ : ∃ b : Bool, (g.toList == r3.toList) = b := ⟨_, rfl⟩
                  have hgb : decide (some g = some r3) = b := by
                    rw [← hb, Bool.eq_iff_iff, decide_eq_true_eq, beq_iff_eq, Lib.toList_data, Lib.toList_data]
                    constructor
                    · intro e; injection e with e; rw [e]
                    · intro e; rw [ByteArray.ext (Array.toList_inj.1 e)]
                  have HF : Hid (askL l (x0 :: c0) = some (nm.data.toList, !b)) := Lib.hid (by rw [HL.out, HK.out, ask_name hname, hrl, hg, rest_isnt _ _ _ hx61 hxy, hr3d, hgb])
                  rw [hg] at hG
                  unfold getV at hG
                  clear hname HK hg hrl hr0 hx61 hrl1 hr2d hr2e hxy hr3d hgb
                  go_enter Try.func19, Try.ntmps19
                  go_wp2_with (first | (go_at_call 36; refine (hn1 _).mono ?_; rintro e w' ⟨rfl, rfl⟩) | (go_at_call 32; refine (hN _).mono ?_; rintro e w' ⟨rfl, rfl⟩) | (go_at_call 14; refine (hG _ h).mono ?_; rintro e w' ⟨rfl, rfl⟩))
                  go_quiet (fail)
                  go_wp2
                  go_ret3
                  exact ⟨ret_v (ask_some HF.out), _, rfl⟩
              · have hr2n : (r2.toList == [33, 61]) = false := by
                  rw [beq_eq_false_iff_ne, hr2d, Lib.toList_data]
                  intro e
                  have e2 : [x, y] = [33, 61] := e
                  injection e2 with e3 e4
                  injection e4 with e5
                  exact hxy ⟨e3, e5⟩
                have HF : Hid (askL l (x0 :: c0) = none) := Lib.hid (by rw [HL.out, HK.out, ask_name hname, hrl, rest_other _ _ _ hx61 hxy])
                cases hg : getL l nm
                all_goals
                  rw [hg] at hG
                  unfold getV at hG
                  clear hname HK hg hrl hr0 hx61 hrl1 hr2d hxy
                  go_enter Try.func19, Try.ntmps19
                  go_wp2_with (first | (go_at_call 36; refine (hn1 _).mono ?_; rintro e w' ⟨rfl, rfl⟩) | (go_at_call 32; refine (hN _).mono ?_; rintro e w' ⟨rfl, rfl⟩) | (go_at_call 14; refine (hG _ h).mono ?_; rintro e w' ⟨rfl, rfl⟩))
                  go_ret3
                  exact ⟨ret_v (ask_none HF.out), 0, rfl⟩
end Go.Proofs.Ytobafhjhholpgaa
