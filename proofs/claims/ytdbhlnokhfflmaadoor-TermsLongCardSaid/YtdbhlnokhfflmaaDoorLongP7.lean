/-
  TermsLong: a text of more than 240 bytes is refused, a term of that many is one; for every letter, and every number of bytes below 500 that the second argument leaves. The row lists three tables (two of the library, the forms of terms), tied to the program's text; no condition: every two numbers.
-/
import Derived.Test.YtdbhlnokhfflmaaDoorCards
import Derived.Test.YtdbhlnokhfflmaaDoorTie
import Derived.Test.YtdbhlnokhfflmaaDoorLaidF
import Derived.Test.YtdbhlnokhfflmaaDoorWitness
import Derived.Test.YtdbhlnokhfflmaaDoorAlive7
import Derived.Test.YtdbhlnokhfflmaaDoorTermP
import Derived.Deep.OwnRows
namespace Go.Proofs.YtdbhlnokhfflmaaDoor.longLaw
open Go.ChangeShapes Go.WideShapes Go.ChangeAt Go.RowKit
open Go.ChangeMaps (open_string)
set_option maxRecDepth 100000

theorem info5 : (Tryd.prog.info? 5).map (fun i => (i.zero, i.size, i.bytes)) = some (some (.int .u8 0), 1, 1) := by kernel_rfl
theorem made_in (w : World) (K : Nat) : BytesIn (w.alloc (.cells (madeCells #[.int .u8 0] K) 5)) w.heap.size (List.replicate K 0) := fun j hj => by
  refine ⟨?_, by simp only [World.frozen?_alloc_new]⟩
  rw [World.cell?_alloc_new]
  have hj' : j < K := by simpa using hj
  rw [← Array.getElem?_toList, toList_madeCells_one]
  simp [hj']
/-- the letters that are put -/
def Put (l : List UInt8) (K k : Nat) (x : UInt8) : Prop := l.length = K ∧ l.take k = List.replicate k x
theorem put_next {l : List UInt8} {K k : Nat} {x : UInt8} (h : Put l K k x) (hk : k < K) : Put (l.set k x) K (k + 1) x := by
  obtain ⟨h1, h2⟩ := h
  refine ⟨by simpa using h1, ?_⟩
  rw [List.take_succ_eq_append_getElem (by simpa using (by omega : k < l.length)), List.take_set_of_le (Nat.le_refl k), h2, List.replicate_succ']
  simp
theorem put_all {l : List UInt8} {K : Nat} {x : UInt8} (h : Put l K K x) : l = List.replicate K x := by
  rw [← h.2, List.take_of_length_le (by rw [h.1]; exact Nat.le_refl _)]
set_option maxHeartbeats 4000000 in
theorem walk (n : Int) (wn : (Lit.int .u8 n).wf = true) (m : Int) (wm : (Lit.int .u16 m).wf = true) (W : World) (hF : FormsIs W) :
    Calls Tryd.prog 8 #[.int .u8 n, .int .u16 m] W fun e w' => e = .returned (.bool true) ∧ Below W.heap.size W w' := by
  have hn : 0 ≤ n ∧ n ≤ 255 := by simpa [Lit.wf, IntKind.min, IntKind.max, IntKind.signed, IntKind.bits] using wn
  have hm : 0 ≤ m ∧ m ≤ 65535 := by simpa [Lit.wf, IntKind.min, IntKind.max, IntKind.signed, IntKind.bits] using wm
  have HF := Lib.hid hF
  clear hF
  obtain ⟨K, hK, hK5⟩ : ∃ K : Nat, m % 500 = (K : Int) ∧ K < 500 := ⟨(m % 500).toNat, by omega, by omega⟩
  have hmk := run_make_row' (P := Tryd.prog) 36 5 (.int .u8 0) 1 Tryd.underlying36 info5 rfl .i64 .i64 K (by omega) (by omega) W
  have hin := made_in W K
  obtain ⟨W1, hW1⟩ : ∃ W1, W.alloc (.cells (madeCells #[.int .u8 0] K) 5) = W1 := ⟨_, rfl⟩
  rw [hW1] at hmk hin
  have hb1 : Below W.heap.size W W1 := by rw [← hW1]; exact laidNew _ _
  clear hW1
  obtain ⟨x, hx, hx1⟩ : ∃ x : UInt8, 97 + n % 26 = (x.toNat : Int) ∧ 97 ≤ x.toNat ∧ x.toNat ≤ 122 := ⟨UInt8.ofNat (97 + (n % 26).toNat), by rw [UInt8.toNat_ofNat']; omega, by rw [UInt8.toNat_ofNat']; omega⟩
  have hwx : IntKind.u8.wrap (97 + n % 26) = (x.toNat : Int) := by simp [IntKind.wrap, IntKind.bits, IntKind.signed]; omega
  have HX := Lib.hid hx1
  clear hx1
  go_enter Tryd.func8, Tryd.ntmps8
  go_wp2
  clear hmk
  go_loopw [7] (fun iv wr => ∃ k : Nat, k ≤ K ∧ iv = .int .i64 k ∧ ∃ l, Hid (Put l K k x) ∧ BytesIn wr W.heap.size l ∧ Below W.heap.size W wr) (fun iv _ => K - (intOf iv).toNat)
  case atStart => exact ⟨0, by omega, rfl, _, Lib.hid ⟨by simp, rfl⟩, hin, hb1⟩
  case round =>
    obtain ⟨k, hk, rfl, l, hp, hby, hbr⟩ := hrel
    by_cases hlt : k < K
    · obtain ⟨hc0, hf0⟩ := hby k (by rw [hp.out.1]; exact hlt)
      have HP := Lib.hid (put_next hp.out hlt)
      have HB := hby.set k (by rw [hp.out.1]; exact hlt) x
      go_wp2
      exact ⟨⟨k + 1, by omega, by go_num, _, HP, HB, hbr.setCell (Nat.le_refl _) _⟩, by simp [intOf]; omega⟩
    · obtain rfl : k = K := by omega
      have hl := put_all hp.out
      subst hl
      have hback := conv_back wr W.heap.size k _ hby
      rw [List.length_replicate, show (⟨(List.replicate k x).toArray⟩ : ByteArray) = bT (List.replicate k x) from rfl] at hback
      have HQ := Lib.hid (fun w h => parse_c (bT (List.replicate k x)) w h (by rw [bT_size]; simp; omega))
      rw [bT_list] at HQ
      by_cases hbad : k = 0 ∨ 240 < k
      · have e : parseL (List.replicate k x) = none := long_no (by
          rcases hbad with h | h
          · left; rw [h]; rfl
          · right; simpa using h)
        rw [e] at HQ
        dsimp only [parseV] at HQ
        generalize bT (List.replicate k x) = t at *
        clear e hin
        rcases (show k = 0 ∨ (k ≠ 0 ∧ 240 < k) by omega) with h0 | ⟨h0, h1⟩
        · have g1 : ((k : Int) == 0) = true := by rw [h0]; rfl
          clear hbad h0
          go_wp2_with (first
            | (go_at_call 15; (with_reducible refine (HQ.out _ (HF.out.below hbr)).mono ?_); rintro e w3 ⟨rfl, hb3⟩; have hb3 := behind hbr hb3)
            | (go_at_call 14; (with_reducible refine (alive_c _ (HF.out.below hb3)).mono ?_); rintro e w4 ⟨rfl, hb4⟩))
          go_ret
          exact ⟨rfl, behind hb3 hb4⟩
        · have g1 : ((k : Int) == 0) = false := by rw [beq_eq_false_iff_ne]; omega
          have g2 : (240 : Int) < (k : Int) := by omega
          clear hbad h0
          go_wp2_with (first
            | (go_at_call 15; (with_reducible refine (HQ.out _ (HF.out.below hbr)).mono ?_); rintro e w3 ⟨rfl, hb3⟩; have hb3 := behind hbr hb3)
            | (go_at_call 14; (with_reducible refine (alive_c _ (HF.out.below hb3)).mono ?_); rintro e w4 ⟨rfl, hb4⟩))
          go_ret
          exact ⟨rfl, behind hb3 hb4⟩
      · have hxs : signB x = false ∧ blankB x = false := by
          have hx1 := HX.out
          have ne : ∀ v : UInt8, v.toNat < 97 → x ≠ v := fun v hv e => by rw [e] at hx1; omega
          unfold signB blankB
          simp [ne 59 (by decide), ne 62 (by decide), ne 60 (by decide), ne 40 (by decide), ne 41 (by decide), ne 32 (by decide), ne 9 (by decide)]
        rw [long_yes hxs.1 hxs.2 (by omega) (by omega)] at HQ
        dsimp only [parseV] at HQ
        obtain ⟨t, htt⟩ : ∃ t, bT (List.replicate k x) = t := ⟨_, rfl⟩
        rw [htt] at hback HQ
        have g1 : ((k : Int) == 0) = false := by rw [beq_eq_false_iff_ne]; omega
        have g2 : ¬ (240 : Int) < (k : Int) := by omega
        have g3 : (t.toList == t.toList) = true := by simp
        have hlt0 : W.heap.size < wr.heap.size := World.block_lt_of_cell? wr _ (hby 0 (by simp; omega)).1
        have HBY := Lib.hid hby
        clear hbad hxs hin hby
        have HCB := Lib.hid (fun (w4 : World) (hb : Below wr.heap.size wr w4) => by
          have h := conv_back w4 W.heap.size k _ (HBY.out.below hb hlt0)
          rw [List.length_replicate, show (⟨(List.replicate k x).toArray⟩ : ByteArray) = bT (List.replicate k x) from rfl, htt] at h
          exact h)
        go_wp2_with (first
          | (go_at_call 15; (with_reducible refine (HQ.out _ (HF.out.below hbr)).mono ?_); rintro e w3 ⟨rfl, hb3⟩)
          | (go_at_call 14; (with_reducible refine (alive_c _ ((HF.out.below hbr).below hb3)).mono ?_); rintro e w4 ⟨rfl, hb4⟩; have hcb := HCB.out w4 (behind hb3 hb4)))
        go_ret
        exact ⟨rfl, behind hbr (behind hb3 hb4)⟩

theorem readable : ∀ t ∈ #[5, 35].toList, Tryd.prog.readableRec t = true ∧ t < Tryd.prog.types.size := by
  intro t ht
  have h : t ∈ ([5, 35] : List TypeId) := ht
  simp only [List.mem_cons, List.not_mem_nil, or_false] at h
  rcases h with rfl | rfl
  · exact ⟨by kernel_rfl, of_decide_eq_true (by kernel_rfl)⟩
  · exact ⟨by kernel_rfl, of_decide_eq_true (by kernel_rfl)⟩

theorem contract (H : Type) (enc : TypeId × Value → H) (W : World) (base : Nat) (args : Array Value) (ds gs : List (DataW H)) (before : List MemPlace)
    (hval : ∀ (j : Nat) t v, Tryd.f8.params[j]? = some t → args[j]? = some v → Value.okWide Tryd.prog W .any base t v)
    (hW : DataW.Whole enc Tryd.prog Tryd.f8.params.toList Rows.termsLongSpec.vars false W args.toList ds gs before)
    (hz : (DataW.weightsEach Tryd.prog (Tryd.f8.params.toList ++ (OpenSpec.ofChange Rows.termsLongSpec).bare.plain.varTypes Tryd.prog) (ds ++ gs)).all (· ≤ reachBytes) = true) (hF : FormsIs W) :
    Calls Tryd.prog 8 args W fun e W' => ∃ v, e = .returned v ∧ Rows.termsLongSpec.post enc Tryd.prog Tryd.f8 false true false false W args v W' := by
  have hW' := hW
  obtain ⟨p, q, hA, hV, rfl, hfz, hnd⟩ := hW
  rw [Tryd.params8] at hA hval
  obtain ⟨v0, vs0, d0, ds0, p0, q0, hargs0, rfl, rfl, h0, r0⟩ := trodAll_cons hA
  obtain ⟨v1, vs1, d1, ds1, p1, q1, hargs1, rfl, rfl, h1, r1⟩ := trodAll_cons r0
  obtain ⟨rfl, rfl, rfl⟩ := trodAll_nil r1
  subst hargs1
  obtain rfl : args = #[v0, v1] := by cases args; simp_all
  obtain ⟨rfl, rfl⟩ := trodVars_none hV
  obtain ⟨n0, rfl, rfl, rfl, wf0⟩ := open_int Tryd.underlying5 (hval 0 5 v0 rfl rfl) h0
  obtain ⟨n1, rfl, rfl, rfl, wf1⟩ := open_int Tryd.underlying35 (hval 1 35 v1 rfl rfl) h1
  refine (walk n0 wf0 n1 wf1 W hF).mono fun e W' ⟨he, hb⟩ => ⟨_, he, law_post rfl rfl ?_ hW' rfl hb⟩
  rw [Tryd.params8]
  exact readable

theorem met (os : Os) : laidMet Tryd.prog Rows.termsLongRow.laid ((laidWorld os).forCall (fun _ _ => 0) ⟨#[], #[.int .u8 0, .int .u16 0], []⟩).memory :=
  laidMet_of_run' 8 (by kernel_rfl) (by kernel_rfl)
theorem reads (os : Os) {H : Type} (enc : TypeId × Value → H) : ∃ places, DataW.whole enc Tryd.prog ((laidWorld os).forCall (fun _ _ => 0) ⟨#[], #[.int .u8 0, .int .u16 0], []⟩).memory Tryd.f8.params.toList Rows.termsLongSpec.vars false (#[.int .u8 0, .int .u16 0] : Array Value).toList 8 = some ([.lit (.int .u8 0), .lit (.int .u16 0)], [], places) :=
  ⟨[], by kernel_rfl⟩

set_option maxRecDepth 100000 in
theorem lifted (os : Os) (started : os.Started) (H : Type) (enc : TypeId × Value → H) (F : Stop.Interp) :
    ReturnsInHanded {} Tryd.checked os 8 .any ((OpenSpec.ofChange Rows.termsLongSpec).preRow enc Tryd.prog Tryd.f8 Rows.termsLongRow.domain false Rows.termsLongRow.laid) (((OpenSpec.ofChange Rows.termsLongSpec).at F).post enc Tryd.prog Tryd.f8 false true false false) := by
  obtain ⟨places, hx⟩ := reads os enc
  refine returnsInHanded_of_row (C := Tryd.checked) (s := OpenSpec.ofChange Rows.termsLongSpec) own started (by kernel_rfl) Tryd.func8
    (witness_row_at (enc := enc) (C := Tryd.checked) false (laidWorld os) #[.int .u8 0, .int .u16 0] rfl (by kernel_rfl) (by kernel_rfl) (by kernel_rfl)
      (OpenSpec.preRow_of_cond 8 hx (by kernel_rfl) (fun k hk => by cases hk) (by kernel_rfl) (met os))) ?_
  intro W base args ds gs before hval hW _ _ hz hL _ _
  exact contract H enc W base args ds gs before hval hW hz (forms_of (show laidMet Tryd.prog Rows.termsLongRow.laid W from hL) (.tail _ (.head _)))

theorem said : Rows.TermsLongSaid :=
  OpenClaim.holds_of_cond 8 Tryd.f8 rfl rfl rfl rfl rfl rfl rfl ⟨rfl, rfl, rfl, rfl, rfl⟩ rfl rfl rfl rfl rfl (by kernel_rfl) Tryd.func8 (by kernel_rfl)
    (of_decide_eq_true (by kernel_rfl)) (by unfold Func.isWrapper; first | (rw [if_pos (by decide +kernel)]; kernel_rfl) | (rw [if_neg (by decide +kernel)]; exact ⟨rfl, rfl⟩))
    (fun os started H enc _ F => by rw [OpenClaim.pre_eq_preRow]; exact lifted os started H enc F)

theorem plain (f : FuncId) (fn : Func) (hf : Tryd.pinned.checked.prog.funcNamed "bindery/binderylaw07.TermsLong" = some f) (hfn : Tryd.pinned.checked.prog.funcs[f]? = some fn) :
    false = Tryd.pinned.checked.prog.looks [] ∧ ∀ (j : Nat) t, fn.params[j]? = some t → Tryd.pinned.checked.prog.wantsStandIn t = false := by
  obtain rfl : f = 8 := Option.some.inj ((show Tryd.prog.funcNamed "bindery/binderylaw07.TermsLong" = some 8 by kernel_rfl).symm.trans hf) |>.symm
  obtain rfl : fn = Tryd.f8 := (Option.some.inj (Tryd.func8.symm.trans hfn)).symm
  refine ⟨by kernel_rfl, fun j t ht => ?_⟩
  rw [Tryd.params8] at ht
  have h : t ∈ ([5, 35] : List TypeId) := Array.mem_toList_iff.2 (Array.mem_of_getElem? ht)
  simp only [List.mem_cons, List.not_mem_nil, or_false] at h
  rcases h with rfl | rfl
  · exact (show Tryd.prog.wantsStandIn 5 = false by kernel_rfl)
  · exact (show Tryd.prog.wantsStandIn 35 = false by kernel_rfl)

theorem card : Rows.TermsLongCardSaid :=
  Claim7.holds_tied_plain_at .later [] _ _ _ _ said (fun _ h => by cases h) (by kernel_rfl) (fun _ h => by cases h) termsLong_row_tie rfl ⟨rfl, rfl⟩ (by kernel_rfl) rfl plain (by kernel_rfl)
end Go.Proofs.YtdbhlnokhfflmaaDoor.longLaw
