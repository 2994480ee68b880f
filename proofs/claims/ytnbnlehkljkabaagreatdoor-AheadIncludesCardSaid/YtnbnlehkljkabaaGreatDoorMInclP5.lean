/-
  AheadIncludes: a source that is taken in tells its lines in the place of that line, each time, by its own numbers; it is one of the files once; where the text has at most 300 bytes, and neither words, braces nor backslashes; true is answered beyond. The row lists two tables of the library, tied to the program's text; no condition: every text that can be read, and how often.
-/
import Derived.Test.YtnbnlehkljkabaaGreatDoorCards
import Derived.Test.YtnbnlehkljkabaaGreatDoorTie
import Derived.Test.YtnbnlehkljkabaaGreatDoorU32
import Derived.Test.YtnbnlehkljkabaaGreatDoorVSameO
import Derived.Test.YtnbnlehkljkabaaGreatDoorWitness
import Derived.Deep.RegionHeld3
namespace Go.Proofs.YtnbnlehkljkabaaGreatDoor.aInclLaw
open Go.ChangeShapes Go.WideShapes Go.ChangeAt Go.RowKit Go.Maps
set_option maxRecDepth 100000

/-- the text, while it is made -/
def upTo (k : Nat) : List UInt8 := txFirst ++ 10 :: (List.replicate k (wInclude ++ 32 :: txPart ++ [10])).flatten
theorem upTo_next (k : Nat) : bT (upTo k) ++ ⟨#[64, 105, 110, 99, 108, 117, 100, 101, 32, 112, 97, 114, 116, 10]⟩ = bT (upTo (k + 1)) := by
  have same : ∀ {a b : ByteArray}, a.data.toList = b.data.toList → a = b := fun {a b} e => by rw [← bT_data a, ← bT_data b, e]
  apply same
  unfold upTo
  rw [List.replicate_succ', List.flatten_append]
  simp [ByteArray.data_append, bT, wInclude, txPart]
theorem upTo_last (k : Nat) : bT (upTo k) ++ ⟨#[108, 97, 115, 116]⟩ = bT (incText k) := by
  have same : ∀ {a b : ByteArray}, a.data.toList = b.data.toList → a = b := fun {a b} e => by rw [← bT_data a, ← bT_data b, e]
  apply same
  unfold upTo incText
  simp [ByteArray.data_append, bT, txLast]
theorem upTo_len (k : Nat) : (upTo k).length = 6 + k * 14 := by
  unfold upTo
  rw [List.length_append, List.length_cons, rep_len]
  simp [txFirst, wInclude, txPart]
  omega
theorem inc_low (k : Nat) : ∀ c ∈ incText k, c.toNat < 128 := by
  intro c hc
  unfold incText at hc
  simp only [List.mem_append, List.mem_cons] at hc
  rcases hc with h | rfl | h | h
  · exact (by decide : ∀ c ∈ txFirst, c.toNat < 128) c h
  · decide
  · obtain ⟨l, hl, hcl⟩ := List.mem_flatten.1 h
    rw [List.eq_of_mem_replicate hl] at hcl
    exact (by decide : ∀ c ∈ wInclude ++ 32 :: txPart ++ [10], c.toNat < 128) c hcl
  · exact (by decide : ∀ c ∈ txLast, c.toNat < 128) c h
/-- Read of the two sources -/
theorem read_inc_m (sv : Value) (s : ByteArray) (m : Nat) (w : World) (hm : m + 1 ≤ 5) (hs : s.size ≤ 300) (hp : PlainL s.data.toList) (hS : Attrs w sv (incSrcs s.data.toList m)) :
    Calls Tryz.prog 32 #[sv, .slice none 0 0, .string ⟨#[109]⟩] w (ReadOut w (incLines s.data.toList m, [], [[109], txPart], [])) := by
  have hsl : s.data.toList.length = s.size := by simp
  obtain ⟨cnt, hr⟩ := readR_inc s.data.toList m hm (by omega) hp
  exact read_is sv (.slice none 0 0) (incSrcs s.data.toList m) [] [109] (incText (m + 1)) _ w hS (nil_attrs w) (inc_find1 _ _) (fun a ha => by
    unfold incSrcs at ha
    simp only [List.mem_cons, List.not_mem_nil, or_false] at ha
    rcases ha with rfl | rfl
    · refine textOk_low (inc_low _) ?_
      have h1 := congrArg ByteArray.size (upTo_last (m + 1))
      rw [ByteArray.size_append, bT_size, bT_size, upTo_len] at h1
      have h2 : (⟨#[108, 97, 115, 116]⟩ : ByteArray).size = 4 := rfl
      omega
    · exact textOk_plain (fun c hc => by rw [bT_list] at hc; exact (hp c hc).1) (by rw [bT_size]; omega)) (by simp) ((congrArg (readR (incSrcs s.data.toList m) 17 [] [109] (incText (m + 1))) start_none).trans hr) rfl (Nat.zero_le _)

set_option maxHeartbeats 16000000 in
theorem walk (s : ByteArray) (_hs : s.size ≤ maxLen) (hr : s.size ≤ 140737488351232) (n : Int) (wf : (Lit.int .u8 n).wf = true) (w : World) :
    Calls Tryz.prog 9 #[.string s, .int .u8 n] w fun e w' => e = .returned (.bool true) ∧ Below w.heap.size w w' := by
  have hn : 0 ≤ n ∧ n ≤ 255 := by simpa [Lit.wf, IntKind.min, IntKind.max, IntKind.signed, IntKind.bits] using wf
  obtain ⟨m, hm, hm4⟩ : ∃ m : Nat, Int.tmod n 5 = (m : Int) ∧ m ≤ 4 := ⟨(Int.tmod n 5).toNat, by rw [Int.tmod_eq_emod_of_nonneg hn.1]; omega, by rw [Int.tmod_eq_emod_of_nonneg hn.1]; omega⟩
  go_enter Tryz.func9, Tryz.ntmps9
  go_wp2_with fail
  refine (alive_m w).mono ?_
  rintro e w1 ⟨rfl, hb1⟩
  by_cases h1 : s.size ≤ 300
  · go_wp2_with fail
    refine (plain_m s w1 (by unfold maxLen; omega)).mono ?_
    rintro e w' ⟨rfl, rfl⟩
    cases hp : plT s.data.toList with
    | true =>
      have HP := Lib.hid ((plain_all _).1 hp)
      have hw0 : IntKind.i64.wrap ((m : Int) + 1) = ((m + 1 : Nat) : Int) := by rw [IntKind.wrap_i64]; omega
      obtain ⟨M, hM⟩ : ∃ M, m + 1 = M := ⟨_, rfl⟩
      rw [hM] at hw0
      have hu8 : IntKind.u8.wrap (m : Int) = (m : Int) := by simp [IntKind.wrap, IntKind.bits, IntKind.signed]; omega
      have hwm : IntKind.i64.wrap (m : Int) = (m : Int) := by rw [IntKind.wrap_i64]; omega
      have hM5 : M ≤ 5 := by omega
      have HM := Lib.hid hM
      clear hp hM
      go_wp2
      go_loop [6, 7] (fun tv iv => ∃ k : Nat, k ≤ M ∧ iv = .int .i64 (k : Int) ∧ tv = .string (bT (upTo k))) (fun _ iv => M - (intOf iv).toNat)
      case atStart => exact ⟨0, by omega, rfl, rfl⟩
      case round =>
        obtain ⟨k, hk, rfl, rfl⟩ := hrel
        have huz := upTo_len k
        by_cases hlt : k < M
        · have HU := Lib.hid (upTo_next k)
          obtain ⟨ub, hub⟩ : ∃ ub, bT (upTo k) = ub := ⟨_, rfl⟩
          have hz1 : ub.size = 6 + k * 14 := by rw [← hub, bT_size, huz]
          have hs1 : ¬ 9223372036854775807 < ub.size + 14 := by omega
          rw [hub] at HU ⊢
          clear hub hz1 huz
          go_wp2
          refine ⟨⟨k + 1, by omega, by go_num, ?_⟩, by simp [intOf]; omega⟩
          rw [← HU.out]
        · obtain rfl : k = M := by omega
          have HU := Lib.hid (upTo_last k)
          obtain ⟨ub, hub⟩ : ∃ ub, bT (upTo k) = ub := ⟨_, rfl⟩
          have hz1 : ub.size = 6 + k * 14 := by rw [← hub, bT_size, huz]
          have hs1 : ¬ 9223372036854775807 < ub.size + 4 := by omega
          obtain ⟨tb, htb⟩ : ∃ tb, ub ++ (⟨#[108, 97, 115, 116]⟩ : ByteArray) = tb := ⟨_, rfl⟩
          rw [hub, htb] at HU
          rw [hub]
          have htz : tb.size ≤ 1000 := by
            rw [← htb, ByteArray.size_append, hz1]
            have h2 : (⟨#[108, 97, 115, 116]⟩ : ByteArray).size = 4 := rfl
            omega
          have HS1 := fun w => src_m ⟨#[109]⟩ tb w
          have HS2 := fun w => src_m ⟨#[112, 97, 114, 116]⟩ s w
          clear hub hz1 huz hlt
          go_wp2_with (first
            | (go_at_call 33; (with_reducible refine (HS1 _).mono ?_); rintro e w2 ⟨rfl, hb2⟩)
            | (go_at_call 33; (with_reducible refine (HS2 _).mono ?_); rintro e w3 ⟨rfl, hb3⟩))
          have hat : [Value.string ⟨#[109]⟩, .string tb, .string ⟨#[112, 97, 114, 116]⟩, .string s] = atCells (incSrcs s.data.toList m) := by
            show _ = [Value.string (bT [109]), .string (bT (incText (m + 1))), .string (bT txPart), .string (bT s.data.toList)]
            rw [bT_data, HM.out, ← HU.out]; rfl
          have hS := laid_attrs w3 #[.string ⟨#[109]⟩, .string tb, .string ⟨#[112, 97, 114, 116]⟩, .string s] 69 (incSrcs s.data.toList m) hat (sized_small (fun a ha => by
            unfold incSrcs at ha
            simp only [List.mem_cons, List.not_mem_nil, or_false] at ha
            rcases ha with rfl | rfl
            · refine ⟨by show (1 : Nat) ≤ 1000; omega, ?_⟩
              show (bT (incText (m + 1))).size ≤ 1000
              rw [HM.out, ← HU.out]; exact htz
            · refine ⟨by show (4 : Nat) ≤ 1000; omega, ?_⟩
              show (bT s.data.toList).size ≤ 1000
              rw [bT_data]; omega)) (by show (2 : Nat) ≤ 1000; omega)
          have hR := read_inc_m _ s m _ (by omega) h1 HP.out hS
          clear hat hS
          refine hR.mono ?_
          rintro e w5 ⟨⟨a1, a2, a3, a4, rfl, ra1, ra2, ra3, ra4⟩, hb5⟩
          obtain ⟨Q, hQ⟩ : ∃ Q, (linesL s.data.toList).length = Q := ⟨_, rfl⟩
          have hQz : Q ≤ 301 := by
            have := lines_len [] s.data.toList
            have e : s.data.toList.length = s.size := by simp
            rw [← hQ]; unfold linesL; omega
          obtain ⟨KQ, hKQ⟩ : ∃ KQ, k * Q = KQ := ⟨_, rfl⟩
          have hKz : KQ ≤ 5 * 301 := by rw [← hKQ]; exact Nat.mul_le_mul hM5 hQz
          have hAL : (incLines s.data.toList m).length = KQ + 2 := by rw [inc_len, HM.out, hQ, hKQ]; omega
          simp only at ra1
          rw [hAL] at ra1
          obtain ⟨g0, c0, cur0, hv0, hcap0, -⟩ := row_here ra1 (Nat.succ_pos _)
          obtain ⟨g, c, rfl, hglt, hcell⟩ := row_all ra1 (Nat.succ_pos _)
          have hcap : KQ + 2 ≤ c := by
            simp only [Value.slice.injEq] at hv0
            rw [hv0.2.2]; exact hcap0
          clear hv0 hcap0
          obtain ⟨p2, c2, rfl⟩ := row_slice ra2
          obtain ⟨p3, c3, rfl, hT3⟩ := row_texts (n := 2) (l := [[109], txPart]) ra3 rfl (by decide)
          obtain ⟨p4, c4, rfl⟩ := row_slice ra4
          have HCL := Lib.hid hcell
          have HT3 := Lib.hid hT3
          have HQ := Lib.hid hQ
          have HKQ := Lib.hid hKQ
          have hb5 : Below w.heap.size w w5 := behind (behind (behind (behind hb1 hb2) hb3) (laidNew w3 _)) hb5
          have hw1 : IntKind.i64.wrap ((k : Int) * (Q : Int)) = (KQ : Int) := by
            rw [← Int.natCast_mul, hKQ, IntKind.wrap_i64]; omega
          have hw2 : IntKind.i64.wrap (2 + (KQ : Int)) = (KQ : Int) + 2 := by rw [IntKind.wrap_i64]; omega
          have HL := fun w => lines_c s w (by omega)
          rw [hQ] at HL
          clear hR ra1 ra2 ra3 ra4 hcell hT3 hQ hKQ hAL HS1 HS2 htb
          go_wp2_with fail
          refine (HL w5).mono ?_
          rintro e w6 ⟨v6, rfl, hL6, hb6⟩
          obtain ⟨p6, c6, rfl⟩ := row_slice hL6
          clear hL6
          have HB6 := Lib.hid (behind hb5 hb6)
          have HS := sameTexts_any _ _ _ _ _ (HT3.out _ (behind hb6 (laidNew w6 (.cells #[.string ⟨#[109]⟩, .string ⟨#[112, 97, 114, 116]⟩] 9)))) (lit_two w6 ⟨#[109]⟩ ⟨#[112, 97, 114, 116]⟩)
          go_wp2_with fail
          refine HS.mono ?_
          rintro e w7 ⟨rfl, q7, hw7⟩
          have hb67 : Below w6.heap.size w6 w7 := by rw [hw7]; exact below_drewN (laidNew w6 _) q7
          have HB7 := Lib.hid (behind HB6.out hb67)
          have HB57 := Lib.hid (behind hb6 hb67)
          clear hw7 HS hb6 hb67 hb5
          go_wp2
          go_loopw [13] (fun iv wr => ∃ i : Nat, i ≤ k ∧ iv = .int .i64 (i : Int) ∧ Below w7.heap.size w7 wr) (fun iv _ => k - (intOf iv).toNat)
          case atStart => exact ⟨0, by omega, rfl, Below.refl _ _⟩
          case round =>
            obtain ⟨i, hik, rfl, hbel⟩ := hrel
            have HBR := Lib.hid (behind HB57.out hbel)
            have HBW := Lib.hid (behind HB7.out hbel)
            by_cases hil : i < k
            · obtain ⟨lo, hlo⟩ : ∃ lo, 1 + i * Q = lo := ⟨_, rfl⟩
              have hiq : i * Q ≤ 5 * 301 := Nat.mul_le_mul (by omega) hQz
              have hlh : lo + Q ≤ KQ + 1 := by
                have h2 : (i + 1) * Q ≤ k * Q := Nat.mul_le_mul_right _ (by omega)
                rw [Nat.succ_mul, HKQ.out] at h2
                omega
              have hv1 : IntKind.i64.wrap ((i : Int) * (Q : Int)) = (lo : Int) - 1 := by
                rw [← Int.natCast_mul, IntKind.wrap_i64]; omega
              have hv2 : IntKind.i64.wrap (1 + ((lo : Int) - 1)) = (lo : Int) := by rw [IntKind.wrap_i64]; omega
              obtain ⟨hi', hhi⟩ : ∃ hi', lo + Q = hi' := ⟨_, rfl⟩
              have hv3 : IntKind.i64.wrap ((lo : Int) + (Q : Int)) = (hi' : Int) := by rw [IntKind.wrap_i64]; omega
              have hv4 : (lo : Int) ≤ (hi' : Int) := by omega
              have hv5 : (hi' : Int) ≤ (c : Int) := by omega
              have hv6 : (0 : Int) ≤ (lo : Int) := by omega
              have hv7 : ¬ lo = c := by omega
              have hv8 : lo < c := by omega
              have hv9 : (lo : Int) < (c : Int) := by omega
              have HHI := Lib.hid hhi
              have HLO := Lib.hid hlo
              clear hhi hlo hlh hiq
              have HLr := HL wr.drew
              have hla : ∀ w8, Below w5.heap.size w5 w8 → LinesAt w8 g (lo * 3) ⟨#[112, 97, 114, 116]⟩ (linesL s.data.toList) := fun w8 hb => ⟨Nat.lt_of_lt_of_le hglt hb.size, fun j hj => by
                have hx := inc_part s.data.toList m i j (by rw [HM.out]; exact hil) hj
                rw [HQ.out, HLO.out] at hx
                refine ⟨?_, ?_, ?_⟩
                · rw [show lo * 3 + j * 3 = (lo + j) * 3 + 0 by omega]
                  exact HCL.out w8 hb _ _ (ln_at _ _ _ hx 0 (by omega))
                · rw [show lo * 3 + j * 3 + 1 = (lo + j) * 3 + 1 by omega]
                  have := HCL.out w8 hb _ _ (ln_at _ _ _ hx 1 (by omega))
                  rw [this]
                  show some (Value.int .i64 ((1 + j : Nat) : Int)) = _
                  congr 2; omega
                · rw [show lo * 3 + j * 3 + 2 = (lo + j) * 3 + 2 by omega]
                  exact HCL.out w8 hb _ _ (ln_at _ _ _ hx 2 (by omega))⟩
              have hdq : hi' - lo = (linesL s.data.toList).length := by rw [HQ.out, ← HHI.out]; omega
              have HSAME := Lib.hid (fun (w8 : World) (v8 : Value) (B8 : Nat) (hb : Below w5.heap.size w5 w8) (hL : w8.ownsRow B8 9 1 v8 Q ((linesL s.data.toList).map strV)) => (by
                rw [hdq]
                exact same_o B8 g (lo * 3) (c - lo) v8 ⟨#[112, 97, 114, 116]⟩ (linesL s.data.toList) w8 (hla w8 hb) (by rw [HQ.out]; exact hL) (by rw [HQ.out]; omega) : Calls Tryz.prog 34 #[.slice (some ⟨g, lo * 3, none⟩) (hi' - lo) (c - lo), .string ⟨#[112, 97, 114, 116]⟩, v8] w8 fun e w' => e = .returned (.bool true) ∧ Below w8.heap.size w8 w'))
              clear hla hdq
              go_wp2
              go_region_held3 (fun _ => True)
                (trivial)
                (first
                  | (go_at_call 23; (with_reducible refine HLr.mono ?_); rintro e w8 ⟨v8, rfl, hL8, hb8⟩; have hb58 : Below w5.heap.size w5 w8 := behind (behind HBR.out (Below.refl _ _).drew) hb8)
                  | (go_at_call 34; (with_reducible refine (HSAME.out w8 v8 _ hb58 hL8).mono ?_); rintro e w9 ⟨rfl, hb9⟩))
              have hb10 : Below w7.heap.size w7 w9 := behind (behind (behind hbel (Below.refl _ _).drew) hb8) hb9
              go_wp2
              refine ⟨⟨_, _, _, _, _, _, _, _, _, _, _, _, _, _, _, _, _, _, _, _, _, _, _, ⟨i + 1, by omega, by go_num, hb10⟩, rfl⟩, by simp [intOf]; omega⟩
            · have hx0 := inc_first s.data.toList m
              have hx1 := inc_last s.data.toList m
              rw [HQ.out, HM.out, HKQ.out] at hx1
              have a0 : wr.cell? ⟨g, 0, none⟩ = some (.string ⟨#[109]⟩) := HCL.out wr HBR.out (0 * 3 + 0) _ (ln_at _ _ _ hx0 0 (by omega))
              have a1 : wr.cell? ⟨g, 1, none⟩ = some (.int .i64 1) := HCL.out wr HBR.out (0 * 3 + 1) _ (ln_at _ _ _ hx0 1 (by omega))
              have a2 : wr.cell? ⟨g, 2, none⟩ = some (.string ⟨#[102, 105, 114, 115, 116]⟩) := HCL.out wr HBR.out (0 * 3 + 2) _ (ln_at _ _ _ hx0 2 (by omega))
              have d0 : wr.cell? ⟨g, (1 + KQ) * 3, none⟩ = some (.string ⟨#[109]⟩) := HCL.out wr HBR.out ((1 + KQ) * 3 + 0) _ (ln_at _ _ _ hx1 0 (by omega))
              have d1' : wr.cell? ⟨g, (1 + KQ) * 3 + 1, none⟩ = some (.int .i64 ((m + 3 : Nat) : Int)) := HCL.out wr HBR.out ((1 + KQ) * 3 + 1) _ (ln_at _ _ _ hx1 1 (by omega))
              have d2 : wr.cell? ⟨g, (1 + KQ) * 3 + 2, none⟩ = some (.string ⟨#[108, 97, 115, 116]⟩) := HCL.out wr HBR.out ((1 + KQ) * 3 + 2) _ (ln_at _ _ _ hx1 2 (by omega))
              have hk2 : ((m + 3 : Nat) : Int) = (k : Int) + 2 := by have := HM.out; omega
              have d1 : wr.cell? ⟨g, (1 + KQ) * 3 + 1, none⟩ = some (.int .i64 ((k : Int) + 2)) := by rw [d1', hk2]
              have hw3 : IntKind.i64.wrap ((k : Int) + 2) = (k : Int) + 2 := by rw [IntKind.wrap_i64]; omega
              have hw4 : IntKind.i64.wrap (1 + (KQ : Int)) = ((1 + KQ : Nat) : Int) := by rw [IntKind.wrap_i64]; omega
              clear d1' hx0 hx1 hk2
              go_wp2
              go_ret
              exact ⟨rfl, HBW.out⟩
    | false =>
      go_wp2_with fail
      refine (alive_m w1).mono ?_
      rintro e w3 ⟨rfl, hb3⟩
      go_wp2
      go_ret
      exact ⟨rfl, behind hb1 hb3⟩
  · go_wp2_with fail
    refine (alive_m w1).mono ?_
    rintro e w3 ⟨rfl, hb3⟩
    go_wp2
    go_ret
    exact ⟨rfl, behind hb1 hb3⟩

theorem readable : ∀ t ∈ #[9, 5].toList, Tryz.prog.readableRec t = true ∧ t < Tryz.prog.types.size := by
  intro t ht
  have h : t ∈ ([9, 5] : List TypeId) := ht
  simp only [List.mem_cons, List.not_mem_nil, or_false] at h
  rcases h with rfl | rfl
  · exact ⟨by kernel_rfl, of_decide_eq_true (by kernel_rfl)⟩
  · exact ⟨by kernel_rfl, of_decide_eq_true (by kernel_rfl)⟩

theorem contract (H : Type) (enc : TypeId × Value → H) (W : World) (base : Nat) (args : Array Value) (ds gs : List (DataW H)) (before : List MemPlace)
    (hval : ∀ (j : Nat) t v, Tryz.f9.params[j]? = some t → args[j]? = some v → Value.okWide Tryz.prog W .any base t v)
    (hW : DataW.Whole enc Tryz.prog Tryz.f9.params.toList Rows.aheadIncludesSpec.vars false W args.toList ds gs before)
    (hz : (DataW.weightsEach Tryz.prog (Tryz.f9.params.toList ++ (OpenSpec.ofChange Rows.aheadIncludesSpec).bare.plain.varTypes Tryz.prog) (ds ++ gs)).all (· ≤ reachBytes) = true) :
    Calls Tryz.prog 9 args W fun e W' => ∃ v, e = .returned v ∧ Rows.aheadIncludesSpec.post enc Tryz.prog Tryz.f9 false true false false W args v W' := by
  have hW' := hW
  obtain ⟨p, q, hA, hV, rfl, hfz, hnd⟩ := hW
  rw [Tryz.params9] at hA hval
  obtain ⟨v0, vs0, d0, ds0, p0, q0, hargs0, rfl, rfl, h0, r0⟩ := trodAll_cons hA
  obtain ⟨v1, vs1, d1, ds1, p1, q1, hargs1, rfl, rfl, h1, r1⟩ := trodAll_cons r0
  obtain ⟨rfl, rfl, rfl⟩ := trodAll_nil r1
  subst hargs1
  obtain rfl : args = #[v0, v1] := by cases args; simp_all
  obtain ⟨rfl, rfl⟩ := trodVars_none hV
  obtain ⟨s0, rfl, rfl, rfl, hs0⟩ := string_arg (hval 0 9 v0 rfl rfl) h0
  have hr0 := string_reach hz (j := 0) (s := s0) rfl rfl
  obtain ⟨n1, rfl, rfl, rfl, wf1⟩ := open_int Tryz.underlying5 (hval 1 5 v1 rfl rfl) h1
  refine (walk s0 hs0 hr0 n1 wf1 W).mono fun e W' ⟨he, hb⟩ => ⟨_, he, law_post rfl rfl ?_ hW' rfl hb⟩
  rw [Tryz.params9]
  exact readable

theorem met (os : Os) : laidMet Tryz.prog Rows.aheadIncludesRow.laid ((laidWorld os).forCall (fun _ _ => 0) ⟨#[], #[.string ⟨#[]⟩, .int .u8 0], []⟩).memory :=
  laidMet_of_run' 8 (by kernel_rfl) (by kernel_rfl)
theorem reads (os : Os) {H : Type} (enc : TypeId × Value → H) : ∃ places, DataW.whole enc Tryz.prog ((laidWorld os).forCall (fun _ _ => 0) ⟨#[], #[.string ⟨#[]⟩, .int .u8 0], []⟩).memory Tryz.f9.params.toList Rows.aheadIncludesSpec.vars false (#[.string ⟨#[]⟩, .int .u8 0] : Array Value).toList 8 = some ([.lit (.string []), .lit (.int .u8 0)], [], places) :=
  ⟨[], by kernel_rfl⟩

set_option maxRecDepth 100000 in
theorem lifted (os : Os) (started : os.Started) (H : Type) (enc : TypeId × Value → H) (F : Stop.Interp) :
    ReturnsInHanded {} Tryz.checked os 9 .any ((OpenSpec.ofChange Rows.aheadIncludesSpec).preRow enc Tryz.prog Tryz.f9 Rows.aheadIncludesRow.domain false Rows.aheadIncludesRow.laid) (((OpenSpec.ofChange Rows.aheadIncludesSpec).at F).post enc Tryz.prog Tryz.f9 false true false false) := by
  obtain ⟨places, hx⟩ := reads os enc
  refine returnsInHanded_of_row (C := Tryz.checked) (s := OpenSpec.ofChange Rows.aheadIncludesSpec) own started (by kernel_rfl) Tryz.func9
    (witness_row_at (enc := enc) (C := Tryz.checked) false (laidWorld os) #[.string ⟨#[]⟩, .int .u8 0] rfl (by kernel_rfl) (by kernel_rfl) (by kernel_rfl)
      (OpenSpec.preRow_of_cond 8 hx (by kernel_rfl) (fun k hk => by cases hk) (by kernel_rfl) (met os))) ?_
  intro W base args ds gs before hval hW _ _ hz _ _ _
  exact contract H enc W base args ds gs before hval hW hz

theorem said : Rows.AheadIncludesSaid :=
  OpenClaim.holds_of_cond 9 Tryz.f9 rfl rfl rfl rfl rfl rfl rfl ⟨rfl, rfl, rfl, rfl, rfl⟩ rfl rfl rfl rfl rfl (by kernel_rfl) Tryz.func9 (by kernel_rfl)
    (of_decide_eq_true (by kernel_rfl)) (by unfold Func.isWrapper; first | (rw [if_pos (by decide +kernel)]; kernel_rfl) | (rw [if_neg (by decide +kernel)]; exact ⟨rfl, rfl⟩))
    (fun os started H enc _ F => by rw [OpenClaim.pre_eq_preRow]; exact lifted os started H enc F)

theorem plain (f : FuncId) (fn : Func) (hf : Tryz.pinned.checked.prog.funcNamed "bindery/binderylaw05.AheadIncludes" = some f) (hfn : Tryz.pinned.checked.prog.funcs[f]? = some fn) :
    true = Tryz.pinned.checked.prog.looks [] ∧ ∀ (j : Nat) t, fn.params[j]? = some t → Tryz.pinned.checked.prog.wantsStandIn t = false := by
  obtain rfl : f = 9 := Option.some.inj ((show Tryz.prog.funcNamed "bindery/binderylaw05.AheadIncludes" = some 9 by kernel_rfl).symm.trans hf) |>.symm
  obtain rfl : fn = Tryz.f9 := (Option.some.inj (Tryz.func9.symm.trans hfn)).symm
  refine ⟨by kernel_rfl, fun j t ht => ?_⟩
  rw [Tryz.params9] at ht
  have h : t ∈ ([9, 5] : List TypeId) := Array.mem_toList_iff.2 (Array.mem_of_getElem? ht)
  simp only [List.mem_cons, List.not_mem_nil, or_false] at h
  rcases h with rfl | rfl
  · exact (show Tryz.prog.wantsStandIn 9 = false by kernel_rfl)
  · exact (show Tryz.prog.wantsStandIn 5 = false by kernel_rfl)

theorem card : Rows.AheadIncludesCardSaid :=
  Claim7.holds_tied_plain_at .later [] _ _ _ _ said (fun _ h => by cases h) (by kernel_rfl) (fun _ h => by cases h) aheadIncludes_row_tie rfl ⟨rfl, rfl⟩ (by kernel_rfl) rfl plain (by kernel_rfl)
end Go.Proofs.YtnbnlehkljkabaaGreatDoor.aInclLaw
