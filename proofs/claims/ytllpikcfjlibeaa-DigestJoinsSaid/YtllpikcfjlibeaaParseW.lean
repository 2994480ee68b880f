import Derived.Test.YtllpikcfjlibeaaTextW
import Derived.Laws.Externs
import Derived.BigQuiet
import Derived.Deep.QuietTactic
namespace Go.Proofs.Ytllpikcfjlibeaa
open Go.RowKit

set_option maxHeartbeats 1000000 in
set_option maxRecDepth 100000 in
/-- the place of a byte among the digits of a row -/
theorem place_any (b c : Nat) (w : World) (h : RowIn w b hexL) : Calls Try.prog 20 #[.slice (some ⟨b, 0, none⟩) 16 16, .int .u8 (c : Int)] w fun e w' => e = .returned (.int .i64 (placeB (UInt8.ofNat c))) ∧ w = w' := by
  have hx := Lib.run_indexByteSlice (P := Try.prog) w b 0 16 16 (hexL.map fun x => (x.toNat : Int)) rfl (fun i hi => by
    rw [Nat.zero_add, h.cell i hi]
    rw [List.getD_eq_getElem?_getD, List.getD_eq_getElem?_getD, List.getElem?_map, List.getElem?_eq_getElem (by simpa [hexL] using hi)]
    rfl) (c : Int)
  have e1 : Lib.bytesOf (hexL.map fun x => (x.toNat : Int)) = hexL := by decide
  have e2 : ((c : Int).toNat).toUInt8 = UInt8.ofNat c := rfl
  rw [e1, e2, place_hex] at hx
  go_enter Try.func20, Try.ntmps20
  go_wp2
  rw [run_callFunc_extern Try.func21 (by kernel_rfl) (by kernel_rfl) (by kernel_rfl) (e := Extern.BytealgIndexByte.indexByte) (by kernel_rfl), hx]
  simp only [Result.andThen]
  rw [Oper.upon_value]
  go_wp2
  go_ret
  exact ⟨rfl, rfl⟩

theorem quiet_same {P : Program} {f : FuncId} {args : Array Value} {w : World} {a n : Nat} {v : Value} (h : Calls P f args (w.drewN (a + n)) fun e w' => e = .returned v ∧ w.drewN (a + n) = w') :
    Calls P f args (w.drewN (a + n)) fun e w'' => e = .returned v ∧ ∃ m, w'' = w.drewN (a + m) := h.mono fun _ _ ⟨he, hm⟩ => ⟨he, n, hm.symm⟩
theorem place_byte (b : Nat) (c : UInt8) (q : Nat) (w : World) (h : RowIn w b hexL) : Calls Try.prog 20 #[.slice (some ⟨b, 0, none⟩) 16 16, .int .u8 (c.toNat : Int)] (w.drewN q) fun e w' => e = .returned (.int .i64 (placeB c)) ∧ ∃ m, w' = w.drewN m := by
  have h2 : RowIn (w.drewN q) b hexL := ⟨by rw [World.heap_drewN]; exact h.1, h.2⟩
  have := place_any b c.toNat (w.drewN q) h2
  rw [UInt8.ofNat_toNat] at this
  exact this.mono fun _ _ ⟨he, hm⟩ => ⟨he, q, hm.symm⟩

theorem below_drewN {B : Nat} {a w : World} (h : Below B a w) (n : Nat) : Below B a (w.drewN n) := ⟨h.os, h.tape, h.output, h.size, h.block⟩

/-- what Parse answers -/
def ansV : Option Nat → Value
  | some m => .tuple #[.int .u64 (m : Int), .int .i64 0]
  | none => .tuple #[.int .u64 0, .int .i64 4]
theorem ret_v {a b : Value} (h : a = b) : Ending.returned a = .returned b := by rw [h]
theorem ans_none {o : Option Nat} (h : o = none) : Value.tuple #[.int .u64 0, .int .i64 4] = ansV o := by rw [h]; rfl
theorem ans_some {o : Option Nat} {m : Nat} (h : o = some m) : Value.tuple #[.int .u64 (m : Int), .int .i64 0] = ansV o := by rw [h]; rfl
theorem goD_step {D v : Nat} {l : List UInt8} {k : Nat} (h : k < l.length) (hv : valB l[k] = some v) : goD D (l.drop k) = goD (D * 16 + v) (l.drop (k + 1)) := by
  rw [List.drop_eq_getElem_cons h]; simp only [goD, hv]
theorem goD_stop {D : Nat} {l : List UInt8} {k : Nat} (h : k < l.length) (hv : valB l[k] = none) : goD D (l.drop k) = none := by
  rw [List.drop_eq_getElem_cons h]; simp only [goD, hv]
theorem pow_fits {D k : Nat} (h : D < 16 ^ k) (hk : k < 16) : D < 1152921504606846976 := by
  have : 16 ^ k ≤ 16 ^ 15 := Nat.pow_le_pow_right (by decide) (by omega)
  exact Nat.lt_of_lt_of_le h (Nat.le_trans this (by decide +kernel))
theorem pow_next {D k v : Nat} (h : D < 16 ^ k) (hv : v < 16) : D * 16 + v < 16 ^ (k + 1) := by rw [Nat.pow_succ]; omega

set_option maxHeartbeats 400000 in
theorem parse_any (s : ByteArray) (W w : World) (hb : Below W.heap.size W w) : Calls Try.prog 14 #[.string s] w fun e w' => e = .returned (ansV (parseD s.data.toList)) ∧ Below W.heap.size W w' := by
  by_cases h16 : s.size = 16
  · have HP : Hid (parseD s.data.toList = goD 0 s.data.toList) := Lib.hid (by unfold parseD; rw [if_pos (by simpa using h16)])
    have hn : ((s.size : Int) != 16) = false := by simp [h16]
    go_enter Try.func14, Try.ntmps14
    go_wp2_with fail
    refine (digits_any w).mono ?_
    rintro e w1 ⟨rfl, hb1⟩
    have HB1 := Lib.hid (hb.trans (hb1.mono hb.size))
    clear hb1
    have h0 := heap_alloc_new w1 (.cells (rowV zeros) 39)
    have h1 : RowIn (w1.alloc (.cells (rowV zeros) 39)) w1.heap.size zeros := ⟨h0, rfl⟩
    rw [zeros_row] at h1
    have H1 := Lib.hid h1
    clear h0 h1
    go_wp2_with (refine wl_store H1.out (m := hexL) rfl rfl _ _ rfl rfl rfl ?_)
    have hr1 := (H1.out.row hexL rfl)
    have hb3 := ((below_setRow (HB1.out.alloc (HB1.out.size) (.cells (rowV zeros) 39)) (HB1.out.size) (rowV hexL)))
    rw [zeros_row] at hb3
    clear H1 hb
    go_loopw [5, 14] (fun x i wr => ∃ k D : Nat, k ≤ 16 ∧ i = .int .i64 k ∧ x = .int .u64 (D : Int) ∧ D < 16 ^ k ∧ goD 0 s.data.toList = goD D (s.data.toList.drop k) ∧ RowIn wr w1.heap.size hexL ∧ Below W.heap.size W wr) (fun _ i _ => 16 - (intOf i).toNat)
    case atStart => exact ⟨0, 0, by omega, rfl, rfl, by simp, by simp, hr1, hb3⟩
    case round =>
      clear hr1 hb3
      obtain ⟨k, D, hk, rfl, rfl, hp, hg, hr, hb3⟩ := hrel
      by_cases hlt : k < s.size
      · have hfit := pow_fits hp (by omega)
        have HV := Lib.hid hp
        have HG := Lib.hid hg
        clear hp hg
        have hlt' : k < s.data.toList.length := by simpa using hlt
        have HC := fun q => place_byte w1.heap.size s[k] q wr hr
        cases hv : valB s[k] with
        | none =>
          have HN := Lib.hid (goD_stop (D := D) hlt' hv)
          rw [show placeB s[k] = -1 by unfold placeB; rw [hv]] at HC
          clear hv
          go_wp2
          go_quiet ((go_at_call 20; exact HC _))
          go_wp2
          go_ret2
          exact ⟨ret_v (ans_none (by rw [HP.out, HG.out, HN.out])), below_drewN hb3 _⟩
        | some v =>
          have HN := Lib.hid (goD_step (D := D) hlt' hv)
          have hv16 := valB_lt hv
          rw [show placeB s[k] = (v : Int) by unfold placeB; rw [hv]] at HC
          clear hv
          go_wp2
          go_quiet ((go_at_call 20; exact HC _))
          go_wp2
          go_roundw
          case rel => exact ⟨k + 1, D * 16 + v, by omega, by go_num, by go_num, pow_next HV.out hv16, by rw [HG.out, HN.out], ⟨by rw [World.heap_drewN]; exact hr.1, hr.2⟩, below_drewN hb3 _⟩
          case measure => simp [intOf]; omega
      · have HG := Lib.hid (show goD 0 s.data.toList = some D by rw [hg, List.drop_of_length_le (by simp; omega)]; rfl)
        clear hg
        go_wp2
        go_ret2
        exact ⟨ret_v (ans_some (by rw [HP.out, HG.out])), hb3⟩
  · have HP : Hid (parseD s.data.toList = none) := Lib.hid (by unfold parseD; rw [if_neg (by simpa using h16)])
    have hn : ((s.size : Int) != 16) = true := by simp; omega
    go_enter Try.func14, Try.ntmps14
    go_wp2
    go_ret2
    exact ⟨ret_v (ans_none HP.out), hb⟩
end Go.Proofs.Ytllpikcfjlibeaa
