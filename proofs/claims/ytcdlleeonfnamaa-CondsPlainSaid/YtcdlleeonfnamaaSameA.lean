import Derived.Test.YtcdlleeonfnamaaAtt
import Derived.Laws.StructEq
import Derived.Lib.IndexBytes
namespace Go.Proofs.Ytcdlleeonfnamaa
open Go.RowKit

theorem atTake_all (la lb : List At) (h : la.length = lb.length) (k : Nat) (hk : la.length ≤ k) (e : la.take k = lb.take k) : la = lb := by
  rwa [List.take_of_length_le hk, List.take_of_length_le (by omega)] at e
theorem atTake_next (la lb : List At) (k : Nat) (h1 : k < la.length) (h2 : k < lb.length) (e : la.take k = lb.take k) (h : la[k] = lb[k]) : la.take (k + 1) = lb.take (k + 1) := by
  rw [List.take_succ_eq_append_getElem h1, List.take_succ_eq_append_getElem h2, e, h]

theorem eqAt (a b c d : ByteArray) (w : World) : (Op.equalIn 10000 46 (.agg #[.string a, .string b]) (.agg #[.string c, .string d])).run Try.prog w = .ok (a.toList == c.toList && b.toList == d.toList) w := by
  have u9 := Try.underlying9
  have a9 := Try.isAgg9
  have z9 := Try.sizeOf9
  have hS : Try.prog.underlying 46 = some (.struct (Try.prog.fieldsOf 46)) := by kernel_rfl
  have hp : Try.prog.stoodInHeld 46 = false := by kernel_rfl
  rw [show (10000 : Nat) = 9999 + 1 from rfl, run_equalIn_agg w 9999 46 _ _ hS hp]
  simp only [Program.fieldsOf, Try.underlying46]
  go_simp
  by_cases h1 : a.toList = c.toList <;> by_cases h2 : b.toList = d.toList <;> simp [h1, h2]
theorem neqAt (a b c d : ByteArray) (w : World) : (binOp .neq 46 (.agg #[.string a, .string b]) (.agg #[.string c, .string d])).run Try.prog w = .ok (.bool (!(a.toList == c.toList && b.toList == d.toList))) w := by
  rw [run_neq_struct, eqAt]; rfl
theorem guardAt (x y : Operand) (xs ys : Array Value) (w : World) : (eqGuard .neq 46 x y (.agg xs) (.agg ys)).run Try.prog w = .ok () w :=
  run_eqGuard_agg w .neq 46 x y xs ys (by kernel_rfl)
theorem at_eq (a b : At) : (a.1.toList == b.1.toList && a.2.toList == b.2.toList) = decide (a = b) := by
  rw [Bool.eq_iff_iff, Bool.and_eq_true, beq_iff_eq, beq_iff_eq, decide_eq_true_eq, Lib.toList_data, Lib.toList_data, Lib.toList_data, Lib.toList_data]
  constructor
  · rintro ⟨h1, h2⟩
    exact Prod.ext (ByteArray.ext (Array.toList_inj.1 h1)) (ByteArray.ext (Array.toList_inj.1 h2))
  · rintro rfl; exact ⟨rfl, rfl⟩
theorem atNe (la lb : List At) (k : Nat) (h1 : k < la.length) (h2 : k < lb.length) (h : la[k] ≠ lb[k]) : la ≠ lb := by
  intro e; subst e; exact h rfl

set_option maxHeartbeats 400000 in
theorem sameAttrs_any (va vb : Value) (la lb : List At) (w : World) (ha : Attrs w va la) (hb : Attrs w vb lb) :
    Calls Try.prog 16 #[va, vb] w fun e w' => e = .returned (.bool (decide (la = lb))) ∧ ∃ q, w' = w.drewN q := by
  obtain ⟨pa, ca, rfl, hla, -, hca⟩ := ha
  obtain ⟨pb, cb, rfl, hlb, -, hcb⟩ := hb
  by_cases hlen : la.length = lb.length
  · have hne : ((la.length : Int) != (lb.length : Int)) = false := by simp [hlen]
    have HL := Lib.hid hlen
    have hle1 : la.length ≤ lb.length := by omega
    have hle2 : lb.length ≤ la.length := by omega
    clear hlen
    go_enter Try.func16, Try.ntmps16
    go_wp2
    go_loopw [5] (fun i wr => ∃ k q : Nat, k ≤ la.length ∧ i = .int .i64 k ∧ la.take k = lb.take k ∧ wr = w.drewN q) (fun i _ => la.length - (intOf i).toNat)
    case atStart => exact ⟨0, 0, by omega, rfl, by simp, rfl⟩
    case round =>
      obtain ⟨k, q, hk, rfl, he, rfl⟩ := hrel
      have HE := Lib.hid he
      clear he
      by_cases hlt : k < la.length
      · have hlt2 : k < lb.length := by omega
        obtain ⟨A, oa, rfl, _, hA⟩ := hca (by omega)
        obtain ⟨B, ob, rfl, _, hB⟩ := hcb (by omega)
        obtain ⟨c1, c2⟩ := hA k hlt
        obtain ⟨d1, d2⟩ := hB k hlt2
        clear hA hB hca hcb
        have hnq := fun w => neqAt la[k].1 la[k].2 lb[k].1 lb[k].2 w
        have hgd := fun x y w => guardAt x y #[.string la[k].1, .string la[k].2] #[.string lb[k].1, .string lb[k].2] w
        by_cases hkk : la[k] = lb[k]
        · have hk1 : (!(la[k].1.toList == lb[k].1.toList && la[k].2.toList == lb[k].2.toList)) = false := by rw [at_eq, decide_eq_true hkk]; rfl
          rw [hk1] at hnq
          have HKK := Lib.hid hkk
          clear hkk hk1
          go_wp2
          go_quiet (fail)
          go_wp2
          go_roundw
          case rel => exact ⟨k + 1, _, by omega, by go_num, atTake_next la lb k hlt hlt2 HE.out HKK.out, rfl⟩
          case measure => simp [intOf]; omega
        · have hk1 : (!(la[k].1.toList == lb[k].1.toList && la[k].2.toList == lb[k].2.toList)) = true := by rw [at_eq, decide_eq_false hkk]; rfl
          rw [hk1] at hnq
          have HKK := Lib.hid hkk
          clear hkk hk1
          go_wp2
          go_quiet (fail)
          go_wp2
          go_ret
          exact ⟨ret_bool (decide_eq_false (atNe la lb k hlt hlt2 HKK.out)).symm, _, World.drewN_drewN _ _ _⟩
      · go_wp2
        go_ret
        exact ⟨ret_bool (decide_eq_true (atTake_all la lb HL.out k (by omega) HE.out)).symm, _, rfl⟩
  · have hne : ((la.length : Int) != (lb.length : Int)) = true := by simp; omega
    have hf : ¬ la = lb := fun e => hlen (by rw [e])
    go_enter Try.func16, Try.ntmps16
    go_wp2
    go_ret
    exact ⟨ret_bool (decide_eq_false hf).symm, 0, rfl⟩
end Go.Proofs.Ytcdlleeonfnamaa
