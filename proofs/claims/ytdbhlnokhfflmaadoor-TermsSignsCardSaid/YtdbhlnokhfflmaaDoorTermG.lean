import Derived.Test.YtdbhlnokhfflmaaDoorTermF
namespace Go.Proofs.YtdbhlnokhfflmaaDoor
open Go.RowKit
set_option maxRecDepth 100000

/-! ### written, Text -/
theorem bT_append (a b : List UInt8) : bT (a ++ b) = bT a ++ bT b := by
  rw [← bT_data (bT a ++ bT b), ByteArray.data_append]; simp [bT]
theorem ne_empty {b : ByteArray} (h : ¬ b = ⟨#[]⟩) : b.toList.isEmpty = false ∧ ¬ b.data.toList = [] := by
  have h2 : ¬ b.data.toList = [] := fun e => h (bT_eq e)
  refine ⟨?_, h2⟩
  rw [Lib.toList_data]
  cases he : b.data.toList with
  | nil => exact absurd he h2
  | cons a l => rfl
def wrB (a b c : ByteArray) : ByteArray := bT (writeL (a.data.toList, b.data.toList, c.data.toList))
theorem wr_ee (a : ByteArray) : wrB a ⟨#[]⟩ ⟨#[]⟩ = a := by unfold wrB writeL; simp [bT_data]
theorem wr_be {b : ByteArray} (a : ByteArray) (h : ¬ b = ⟨#[]⟩) : wrB a b ⟨#[]⟩ = a ++ (⟨#[59]⟩ ++ b) := by
  unfold wrB writeL
  simp only [if_neg (ne_empty h).2]
  rw [if_pos trivial, List.append_nil, bT_append, bT_data, show 59 :: b.data.toList = [59] ++ b.data.toList from rfl, bT_append, bT_data]
  rfl
theorem wr_ec {c : ByteArray} (a : ByteArray) (h : ¬ c = ⟨#[]⟩) : wrB a ⟨#[]⟩ c = a ++ (⟨#[62]⟩ ++ c) := by
  unfold wrB writeL
  simp only [if_neg (ne_empty h).2]
  rw [if_pos trivial, List.append_nil, bT_append, bT_data, show 62 :: c.data.toList = [62] ++ c.data.toList from rfl, bT_append, bT_data]
  rfl
theorem wr_bc {b c : ByteArray} (a : ByteArray) (h : ¬ b = ⟨#[]⟩) (h2 : ¬ c = ⟨#[]⟩) : wrB a b c = (a ++ (⟨#[59]⟩ ++ b)) ++ (⟨#[62]⟩ ++ c) := by
  unfold wrB writeL
  simp only [if_neg (ne_empty h).2, if_neg (ne_empty h2).2]
  rw [bT_append, bT_append, bT_data, show 59 :: b.data.toList = [59] ++ b.data.toList from rfl, bT_append, bT_data, show 62 :: c.data.toList = [62] ++ c.data.toList from rfl, bT_append, bT_data]
  rfl
theorem ba_size (a b : ByteArray) : (a ++ b).size = a.size + b.size := ByteArray.size_append ..
theorem one_size (x : UInt8) : (⟨#[x]⟩ : ByteArray).size = 1 := rfl
theorem wr_size (a b c : ByteArray) : (wrB a b c).size ≤ a.size + b.size + c.size + 2 := by
  have h1 : a.data.toList.length = a.size := by simp
  have h2 : b.data.toList.length = b.size := by simp
  have h3 : c.data.toList.length = c.size := by simp
  unfold wrB writeL
  rw [bT_size, List.length_append, List.length_append]
  split <;> split <;> simp <;> omega
set_option maxHeartbeats 2000000 in
theorem written_c (a b c : ByteArray) (w : World) (hs : a.size + b.size + c.size ≤ 1048576) :
    Calls Tryd.prog 17 #[.agg #[.string a, .string b, .string c]] w fun e w' => e = .returned (.string (wrB a b c)) ∧ Below w.heap.size w w' := by
  by_cases hb : b = ⟨#[]⟩
  · subst hb
    by_cases hc : c = ⟨#[]⟩
    · subst hc
      rw [wr_ee]
      go_enter Tryd.func17, Tryd.ntmps17
      go_wp2
      go_ret
      exact ⟨rfl, laidNew _ _⟩
    · have hx := wr_ec a hc
      obtain ⟨h2, -⟩ := ne_empty hc
      have s1 : ¬ 9223372036854775807 < (⟨#[62]⟩ : ByteArray).size + c.size := by rw [one_size]; omega
      obtain ⟨y, hy⟩ : ∃ y, (⟨#[62]⟩ : ByteArray) ++ c = y := ⟨_, rfl⟩
      have hyz : y.size = 1 + c.size := by rw [← hy, ba_size, one_size]
      have s2 : ¬ 9223372036854775807 < a.size + y.size := by omega
      rw [hy] at hx
      obtain ⟨z, hz⟩ : ∃ z, a ++ y = z := ⟨_, rfl⟩
      rw [hx, hz]
      clear hx hc hyz
      go_enter Tryd.func17, Tryd.ntmps17
      go_wp2
      go_ret
      exact ⟨rfl, laidNew _ _⟩
  · obtain ⟨h1, -⟩ := ne_empty hb
    have s1 : ¬ 9223372036854775807 < (⟨#[59]⟩ : ByteArray).size + b.size := by rw [one_size]; omega
    obtain ⟨y, hy⟩ : ∃ y, (⟨#[59]⟩ : ByteArray) ++ b = y := ⟨_, rfl⟩
    have hyz : y.size = 1 + b.size := by rw [← hy, ba_size, one_size]
    have s2 : ¬ 9223372036854775807 < a.size + y.size := by omega
    obtain ⟨z, hz⟩ : ∃ z, a ++ y = z := ⟨_, rfl⟩
    have hzz : z.size = a.size + y.size := by rw [← hz, ba_size]
    by_cases hc : c = ⟨#[]⟩
    · subst hc
      have hx := wr_be a hb
      rw [hy, hz] at hx
      rw [hx]
      clear hx hb hyz hzz
      go_enter Tryd.func17, Tryd.ntmps17
      go_wp2
      go_ret
      exact ⟨rfl, laidNew _ _⟩
    · have hx := wr_bc a hb hc
      obtain ⟨h2, -⟩ := ne_empty hc
      have s3 : ¬ 9223372036854775807 < (⟨#[62]⟩ : ByteArray).size + c.size := by rw [one_size]; omega
      obtain ⟨y2, hy2⟩ : ∃ y, (⟨#[62]⟩ : ByteArray) ++ c = y := ⟨_, rfl⟩
      have hyz2 : y2.size = 1 + c.size := by rw [← hy2, ba_size, one_size]
      have s4 : ¬ 9223372036854775807 < z.size + y2.size := by omega
      obtain ⟨z2, hz2⟩ : ∃ z2, z ++ y2 = z2 := ⟨_, rfl⟩
      rw [hy, hz, hy2, hz2] at hx
      rw [hx]
      clear hx hb hc hyz hyz2 hzz
      go_enter Tryd.func17, Tryd.ntmps17
      go_wp2
      go_ret
      exact ⟨rfl, laidNew _ _⟩
theorem eqP (a b c x y z : ByteArray) (w : World) : (Op.equalIn 10000 40 (.agg #[.string a, .string b, .string c]) (.agg #[.string x, .string y, .string z])).run Tryd.prog w = .ok (a.toList == x.toList && (b.toList == y.toList && c.toList == z.toList)) w := by
  have hS : Tryd.prog.underlying 40 = some (.struct (Tryd.prog.fieldsOf 40)) := by kernel_rfl
  have hp : Tryd.prog.stoodInHeld 40 = false := by kernel_rfl
  have u9 := Tryd.underlying9
  have a9 := Tryd.isAgg9
  have z9 := Tryd.sizeOf9
  rw [show (10000 : Nat) = 9999 + 1 from rfl, run_equalIn_agg w 9999 40 _ _ hS hp]
  simp only [Program.fieldsOf, Tryd.underlying40]
  go_simp
  by_cases h1 : a.toList = x.toList <;> by_cases h2 : b.toList = y.toList <;> by_cases h3 : c.toList = z.toList <;> simp [h1, h2, h3]
theorem neqP (a b c x y z : ByteArray) (w : World) : (binOp .neq 40 (.agg #[.string a, .string b, .string c]) (.agg #[.string x, .string y, .string z])).run Tryd.prog w = .ok (.bool (!(a.toList == x.toList && (b.toList == y.toList && c.toList == z.toList)))) w := by
  rw [run_neq_struct, eqP]; rfl
theorem guardP (x y : Operand) (xs ys : Array Value) (w : World) : (eqGuard .neq 40 x y (.agg xs) (.agg ys)).run Tryd.prog w = .ok () w :=
  run_eqGuard_agg w .neq 40 x y xs ys (by kernel_rfl)
theorem alloc_lt {w w2 : World} {o : Obj} (hb : Below (w.alloc o).heap.size (w.alloc o) w2) : w.heap.size < w2.heap.size := by
  have h1 := hb.size
  have h2 : (w.alloc o).heap.size = w.heap.size + 1 := Array.size_push ..
  omega
def textV : Option (List UInt8) → Value
  | some t => .tuple #[.string (bT t), .int .i64 0]
  | none => .tuple #[.string ⟨#[]⟩, .int .i64 1]
theorem parts_eq (p q : Parts) : ((bT p.1).toList == (bT q.1).toList && ((bT p.2.1).toList == (bT q.2.1).toList && (bT p.2.2).toList == (bT q.2.2).toList)) = decide (p = q) := by
  rw [Bool.eq_iff_iff, Bool.and_eq_true, Bool.and_eq_true, beq_iff_eq, beq_iff_eq, beq_iff_eq, decide_eq_true_eq]
  simp only [Lib.toList_data, bT_list]
  constructor
  · rintro ⟨h1, h2, h3⟩
    exact Prod.ext h1 (Prod.ext h2 h3)
  · rintro rfl
    exact ⟨rfl, rfl, rfl⟩
set_option maxHeartbeats 2000000 in
theorem text_c (a b c : ByteArray) (w : World) (hF : FormsIs w) (hs : a.size + b.size + c.size ≤ 1048576) :
    Calls Tryd.prog 10 #[.string a, .string b, .string c] w fun e w' => e = .returned (textV (textL (a.data.toList, b.data.toList, c.data.toList))) ∧ Below w.heap.size w w' := by
  have hW := fun w => written_c a b c w hs
  have hz := wr_size a b c
  have HR := Lib.hid (fun w (hF : FormsIs w) => read_c (wrB a b c) w hF (by omega))
  have HF := Lib.hid hF
  obtain ⟨P, hP⟩ : ∃ P : Parts, (a.data.toList, b.data.toList, c.data.toList) = P := ⟨_, rfl⟩
  have hd : (wrB a b c).data.toList = writeL P := by rw [← hP]; rfl
  have hw : wrB a b c = bT (writeL P) := by rw [← hP]; rfl
  rw [hd] at HR
  have ha : a = bT P.1 := by rw [← hP]; exact (bT_data a).symm
  have hb : b = bT P.2.1 := by rw [← hP]; exact (bT_data b).symm
  have hc : c = bT P.2.2 := by rw [← hP]; exact (bT_data c).symm
  rw [hw] at hW HR
  rw [hP]
  unfold textL
  cases hp : parseL (writeL P) with
  | none =>
    rw [hp] at HR
    rw [if_neg (fun e => by cases e)]
    unfold textV
    unfold readV noneV at HR
    generalize bT (writeL P) = t at *
    clear hp hw hd hP hF hz ha hb hc
    go_enter Tryd.func10, Tryd.ntmps10
    go_wp2_with (first
      | (go_at_call 17; (with_reducible refine (hW _).mono ?_); rintro e w2 ⟨rfl, hb2⟩; have hb2 := behind (laidNew w _) hb2)
      | (go_at_call 18; (with_reducible refine (HR.out _ (HF.out.below hb2)).mono ?_); rintro e w3 ⟨rfl, hb3⟩))
    go_ret2
    exact ⟨rfl, (behind hb2 hb3).alloc (by have := hb2.size; have := hb3.size; omega) _⟩
  | some q =>
    rw [hp] at HR
    dsimp only [readV, someV] at HR
    have hN := fun w => neqP (bT q.1) (bT q.2.1) (bT q.2.2) (bT P.1) (bT P.2.1) (bT P.2.2) w
    simp only [parts_eq] at hN
    rw [← ha, ← hb, ← hc] at hN
    have hG := fun x y w => guardP x y #[.string (bT q.1), .string (bT q.2.1), .string (bT q.2.2)] #[.string a, .string b, .string c] w
    have hQ : (if some q = some P then some (writeL P) else none) = if decide (q = P) then some (writeL P) else none := by
      by_cases e : q = P <;> simp [e]
    rw [hQ]
    clear hQ
    have hT : textV (some (writeL P)) = .tuple #[.string (bT (writeL P)), .int .i64 0] := rfl
    generalize decide (q = P) = k at hN ⊢
    generalize bT q.1 = qa at HR hN hG
    generalize bT q.2.1 = qb at HR hN hG
    generalize bT q.2.2 = qc at HR hN hG
    have HP0 := Lib.hid (RowV.laid w [.string a, .string b, .string c] 40)
    cases k
    · rw [if_neg (by decide)]
      unfold textV
      generalize bT (writeL P) = t at *
      clear hp hw hd hP hF hz ha hb hc hT
      go_enter Tryd.func10, Tryd.ntmps10
      go_wp2_with (first
        | (go_at_call 17; (with_reducible refine (hW _).mono ?_); rintro e w2 ⟨rfl, hb2⟩; have P2 := Lib.hid (HP0.out.below hb2 (by simp)); have z2 := alloc_lt hb2; have hb2 := behind (laidNew w _) hb2)
        | (go_at_call 18; (with_reducible refine (HR.out _ (HF.out.below hb2)).mono ?_); rintro e w3 ⟨rfl, hb3⟩; obtain ⟨k0, k1, k2⟩ := (P2.out.below hb3 z2).parts; have z3 := Nat.lt_of_lt_of_le z2 hb3.size))
      go_ret2
      exact ⟨rfl, (behind hb2 hb3).alloc (by omega) _⟩
    · rw [if_pos rfl, hT]
      clear hT
      generalize bT (writeL P) = t at *
      clear hp hw hd hP hF hz ha hb hc
      go_enter Tryd.func10, Tryd.ntmps10
      go_wp2_with (first
        | (go_at_call 17; (with_reducible refine (hW _).mono ?_); rintro e w2 ⟨rfl, hb2⟩; have P2 := Lib.hid (HP0.out.below hb2 (by simp)); have z2 := alloc_lt hb2; have hb2 := behind (laidNew w _) hb2)
        | (go_at_call 18; (with_reducible refine (HR.out _ (HF.out.below hb2)).mono ?_); rintro e w3 ⟨rfl, hb3⟩; obtain ⟨k0, k1, k2⟩ := (P2.out.below hb3 z2).parts; have z3 := Nat.lt_of_lt_of_le z2 hb3.size))
      go_ret2
      exact ⟨rfl, (behind hb2 hb3).alloc (by omega) _⟩
end Go.Proofs.YtdbhlnokhfflmaaDoor
