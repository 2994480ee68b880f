import Derived.Test.YtbhipobedijfbaaEscS
import Derived.Deep.RegionHeld3
namespace Go.Proofs.Ytbhipobedijfbaa
open Go.RowKit Go.Maps
set_option maxRecDepth 100000

/-! ### escape.Tag -/
theorem size_len (x : ByteArray) : x.size = x.data.toList.length := by simp
/-- an attribute that is told, if it is not empty -/
def attL (x : ByteArray × ByteArray) : List UInt8 := if x.2.size = 0 then [] else [32] ++ x.1.data.toList ++ [61, 34] ++ textL x.2.data.toList ++ [34]
def toldL (l : List (ByteArray × ByteArray)) : List UInt8 := l.flatMap attL
/-- a slice of attributes, laid -/
def Told (w : World) (v : Value) (l : List (ByteArray × ByteArray)) : Prop :=
  ∃ b cap, v = .slice (some ⟨b, 0, none⟩) l.length cap ∧ b < w.heap.size ∧ ∀ (k : Nat) (h : k < l.length), w.cell? ⟨b, k * 2, none⟩ = some (.string l[k].1) ∧ w.cell? ⟨b, k * 2 + 1, none⟩ = some (.string l[k].2)
theorem told_take (l : List (ByteArray × ByteArray)) (k : Nat) (h : k < l.length) : toldL (l.take (k + 1)) = toldL (l.take k) ++ attL l[k] := by
  unfold toldL
  rw [List.take_succ_eq_append_getElem h, List.flatMap_append]
  simp
/-- what told holds -/
structure ToldI (W : World) (B : Nat) (acc : List UInt8) (w : World) : Prop where
  bld : Lib.IsBuilderF 46 5 B B (Lib.byteCells acc) w
  bel : Below B W w
theorem ToldI.below {W w w' : World} {B : Nat} {acc : List UInt8} (h : ToldI W B acc w) (hb : Below w.heap.size w w') : ToldI W B acc w' := by
  obtain ⟨c, hbk⟩ := builder_block h.bld
  exact ⟨builder_same h.bld (hb.block _ (lt_of hbk)) (fun g c fz hg => hb.block g (lt_of hg)), h.bel.trans (hb.mono (Nat.le_of_lt (lt_of hbk)))⟩

set_option maxHeartbeats 8000000 in
theorem told_c (v : Value) (l : List (ByteArray × ByteArray)) (w : World) (h : Told w v l) (hn : l.length ≤ 10) (hz : ∀ x ∈ l, x.1.size ≤ 1000 ∧ x.2.size ≤ 10000000) : Calls Try.prog 26 #[v] w fun e w' => e = .returned (.string (bT (toldL l))) ∧ Below w.heap.size w w' := by
  obtain ⟨b, cap, rfl, hb, hc⟩ := h
  have HC := Lib.hid hc
  have HZ := Lib.hid hz
  clear hc hz
  go_enter Try.func26, Try.ntmps26
  go_wp2
  have hstart : ToldI w w.heap.size [] (w.alloc (.cells #[.pointer none, .slice none 0 0] 46)) :=
    ⟨Lib.IsBuilderF.of (Lib.fresh_isBuilder 46 5 w), laidNew _ _⟩
  have HST := Lib.hid hstart
  clear hstart
  go_loopw [8] (fun iv wr => ∃ k : Nat, k ≤ l.length ∧ iv = .int .i64 (k : Int) ∧ (toldL (l.take k)).length ≤ k * 70000000 ∧ w.heap.size < wr.heap.size ∧ ToldI w w.heap.size (toldL (l.take k)) wr) (fun iv _ => l.length - (intOf iv).toNat)
  case atStart => exact ⟨0, by omega, rfl, by simp [toldL], by simp, HST.out⟩
  case round =>
    clear HST
    obtain ⟨k, hk, rfl, hlen, hwz, hI⟩ := hrel
    have HI := Lib.hid hI
    clear hI
    by_cases hlt : k < l.length
    · obtain ⟨c1, c2⟩ := HC.out k hlt
      obtain ⟨z1, z2⟩ := HZ.out l[k] (List.getElem_mem hlt)
      have HT := Lib.hid (told_take l k hlt)
      obtain ⟨nb, hnb⟩ : ∃ nb, l[k].1 = nb := ⟨_, rfl⟩
      obtain ⟨vb, hvb⟩ : ∃ vb, l[k].2 = vb := ⟨_, rfl⟩
      have HP : Hid (l[k] = (nb, vb)) := Lib.hid (by rw [← hnb, ← hvb])
      rw [hnb] at c1 z1
      rw [hvb] at c2 z2
      have c1 := (HI.out.bel.cell (p := ⟨b, k * 2, none⟩) hb).trans c1
      have c2 := (HI.out.bel.cell (p := ⟨b, k * 2 + 1, none⟩) hb).trans c2
      clear hnb hvb
      rw [HP.out] at HT
      have hi1 : (0 : Int) ≤ (k : Int) := by omega
      have hi2 : (k : Int) < (l.length : Int) := by omega
      by_cases hv0 : vb.size = 0
      · have hvv : vb = ⟨#[]⟩ := by
          have : vb.data.toList.length = 0 := by simpa using hv0
          have e : vb.data.toList = [] := List.eq_nil_of_length_eq_zero this
          rw [← bT_data vb, e]; rfl
        subst hvv
        go_wp2
        have ha : attL (nb, (⟨#[]⟩ : ByteArray)) = [] := by unfold attL; exact if_pos hv0
        clear hv0 z2
        refine ⟨⟨k + 1, by omega, by go_num, ?_, by simp; omega, ?_⟩, by simp [intOf]; omega⟩
        · rw [HT.out, ha, List.append_nil]; exact Nat.le_trans hlen (Nat.mul_le_mul_right _ (Nat.le_succ k))
        · rw [HT.out, ha, List.append_nil]
          exact HI.out.below (laidNew _ _)
      · have hne : vb.toList.isEmpty = false := by
          rw [Go.ByteArray.toList_eq, List.isEmpty_eq_false_iff]
          intro e
          have := congrArg List.length e
          simp at this
          exact hv0 (by rw [this]; rfl)
        obtain ⟨W1, hW1⟩ : ∃ W1, wr.alloc (.cells #[.string nb, .string vb] 59) = W1 := ⟨_, rfl⟩
        have HI1 : Hid (ToldI w w.heap.size (toldL (l.take k)) W1.drew) := Lib.hid ((by rw [← hW1]; exact HI.out.below (laidNew _ _) : ToldI w w.heap.size (toldL (l.take k)) W1).below (Below.refl _ _).drew)
        have p0 : W1.cell? ⟨wr.heap.size, 0, none⟩ = some (.string nb) := by rw [← hW1, World.cell?_alloc_new]; rfl
        have p1 : W1.cell? ⟨wr.heap.size, 1, none⟩ = some (.string vb) := by rw [← hW1, World.cell?_alloc_new]; rfl
        have hwz1 : W1.heap.size = wr.heap.size + 1 := by rw [← hW1]; simp
        have hC1 : Hid (W1.heap[wr.heap.size]? = some (.cells #[.string nb, .string vb] 59 (0, 0))) := Lib.hid (by rw [← hW1]; exact heap_alloc_new wr _)
        have HTX := text_c vb W1.drew (by omega)
        obtain ⟨xb, hxb⟩ : ∃ xb, bT (textL vb.data.toList) = xb := ⟨_, rfl⟩
        have hxz : xb.size ≤ 60000000 := by
          rw [← hxb, size_len, bT_list]
          have h1 := text_len vb.data.toList
          have h2 := size_len vb
          omega
        rw [hxb] at HTX
        have hs1 : ¬ 9223372036854775807 < 1 + nb.size := by omega
        have hs2 : ¬ 9223372036854775807 < 1 + nb.size + 2 := by omega
        have hs3 : ¬ 9223372036854775807 < 1 + nb.size + 2 + xb.size := by omega
        have hs4 : ¬ 9223372036854775807 < 1 + nb.size + 2 + xb.size + 1 := by omega
        have hba : attL (nb, vb) = ((⟨#[32]⟩ : ByteArray) ++ nb ++ ⟨#[61, 34]⟩ ++ xb ++ ⟨#[34]⟩).data.toList := by
          unfold attL
          rw [if_neg hv0, ← hxb]
          simp [ByteArray.data_append, bT]
        have HBA := Lib.hid hba
        have hal : (attL (nb, vb)).length ≤ 70000000 := by
          unfold attL
          rw [if_neg hv0]
          have h1 := text_len vb.data.toList
          have h2 : vb.data.toList.length = vb.size := by simp
          have h3 : nb.data.toList.length = nb.size := by simp
          simp only [List.length_append, List.length_cons, List.length_nil]
          omega
        have HAL := Lib.hid hal
        have hl1 : Hid ((Lib.byteCells (toldL (l.take k))).length + ((⟨#[32]⟩ : ByteArray) ++ nb ++ ⟨#[61, 34]⟩ ++ xb ++ ⟨#[34]⟩).size ≤ 140737488355328) := Lib.hid (by
          have e : ((⟨#[32]⟩ : ByteArray) ++ nb ++ ⟨#[61, 34]⟩ ++ xb ++ ⟨#[34]⟩).size = (attL (nb, vb)).length := by rw [HBA.out]; exact size_len _
          rw [e, Lib.byteCells_length]
          omega)
        clear hba hal hxb hxz
        have hq1 : wr.heap.size < W1.drew.heap.size := by show wr.heap.size < W1.heap.size; omega
        go_wp2
        go_region_held3 (fun w' => w'.cell? ⟨wr.heap.size, 0, none⟩ = some (.string nb) ∧ w'.cell? ⟨wr.heap.size, 1, none⟩ = some (.string vb))
          (first
            | go_keep
            | (refine ⟨?_, ?_⟩ <;> assumption))
          (first
            | (go_at_call 12; (with_reducible refine HTX.mono ?_); rintro e w3 ⟨rfl, hb3⟩; have q0 := (hb3.cell (p := ⟨wr.heap.size, 0, none⟩) hq1).trans p0; have q1 := (hb3.cell (p := ⟨wr.heap.size, 1, none⟩) hq1).trans p1; have HI3 := Lib.hid (HI1.out.below hb3); have hz3 := hb3.size; have hC3 := Lib.hid ((hb3.block _ hq1).trans hC1.out))
            | (go_at_call 21; (with_reducible refine (writeString_c w.heap.size w.heap.size (Lib.byteCells (toldL (l.take k))) ((⟨#[32]⟩ : ByteArray) ++ nb ++ ⟨#[61, 34]⟩ ++ xb ++ ⟨#[34]⟩) _ HI3.out.bld hl1.out (by omega)).mono ?_); rintro e w4 ⟨rfl, hbd4, hb4, hk4⟩; rw [cells_cat, ← HBA.out, ← HT.out] at hbd4; have hc4 := hk4 _ _ hC3.out (fun e => by injection e with e; omega) (fun c fz e => by injection e with _ e _; exact absurd e (by decide)); have t0 : w4.cell? ⟨wr.heap.size, 0, none⟩ = some (.string nb) := (by rw [Lib.cell_of_heap hc4]; rfl); have t1 : w4.cell? ⟨wr.heap.size, 1, none⟩ = some (.string vb) := (by rw [Lib.cell_of_heap hc4]; rfl); have hz4 := hb4.size))
        have HI4 : ToldI w w.heap.size (toldL (l.take (k + 1))) w4 := ⟨hbd4, HI3.out.bel.trans hb4⟩
        have hz5 : w.heap.size < w4.heap.size := by have : W1.drew.heap.size = W1.heap.size := rfl; omega
        go_wp2
        refine ⟨⟨k + 1, by omega, by go_num, ?_, hz5, HI4⟩, by simp [intOf]; omega⟩
        rw [HT.out, List.length_append]
        have := HAL.out
        omega
    · go_wp2_with (go_at_call 22; refine (Try.Builder_String_any_k w.heap.size w.heap.size (toldL (l.take k)) _ HI.out.bld (by omega)).mono ?_; rintro e w5 ⟨rfl, hbd5, hb5, hk5⟩)
      go_ret
      refine ⟨?_, HI.out.bel.trans hb5⟩
      rw [List.take_of_length_le (by omega)]
      rfl
/-- an element -/
def tagL (name cls id content : ByteArray) : List UInt8 := [60] ++ name.data.toList ++ toldL [(⟨#[99, 108, 97, 115, 115]⟩, cls), (⟨#[105, 100]⟩, id)] ++ [62] ++ content.data.toList ++ [60, 47] ++ name.data.toList ++ [62]

set_option maxHeartbeats 4000000 in
theorem tag_c (n c i t : ByteArray) (w : World) (hn : n.size ≤ 10000000) (hc : c.size ≤ 10000000) (hi : i.size ≤ 10000000) (ht : t.size ≤ 10000000) : Calls Try.prog 14 #[.string n, .string c, .string i, .string t] w fun e w' => e = .returned (.string (bT (tagL n c i t))) ∧ Below w.heap.size w w' := by
  obtain ⟨W1, hW1⟩ : ∃ W1, w.alloc (.cells #[.string ⟨#[99, 108, 97, 115, 115]⟩, .string c, .string ⟨#[105, 100]⟩, .string i] 59) = W1 := ⟨_, rfl⟩
  have hT : Told W1 (.slice (some ⟨w.heap.size, 0, none⟩) 2 2) [(⟨#[99, 108, 97, 115, 115]⟩, c), (⟨#[105, 100]⟩, i)] := by
    refine ⟨w.heap.size, 2, rfl, by rw [← hW1]; simp, fun k hk => ?_⟩
    rw [← hW1, World.cell?_alloc_new, World.cell?_alloc_new]
    match k, hk with
    | 0, _ => exact ⟨rfl, rfl⟩
    | 1, _ => exact ⟨rfl, rfl⟩
  have HTD := told_c _ _ W1 hT (by simp) (fun x hx => by
    simp only [List.mem_cons, List.not_mem_nil, or_false] at hx
    rcases hx with rfl | rfl
    · exact ⟨show (5 : Nat) ≤ 1000 by omega, hc⟩
    · exact ⟨show (2 : Nat) ≤ 1000 by omega, hi⟩)
  obtain ⟨xb, hxb⟩ : ∃ xb, bT (toldL [(⟨#[99, 108, 97, 115, 115]⟩, c), (⟨#[105, 100]⟩, i)]) = xb := ⟨_, rfl⟩
  have hxz : xb.size ≤ 200000000 := by
    have hal : ∀ a b : ByteArray, a.size ≤ 1000 → b.size ≤ 10000000 → (attL (a, b)).length ≤ 70000000 := fun a b ha hb => by
      unfold attL
      split
      · simp
      · have h1 := text_len b.data.toList
        have h2 := size_len b
        have h3 := size_len a
        simp only [List.length_append, List.length_cons, List.length_nil]
        omega
    rw [← hxb, size_len, bT_list]
    unfold toldL
    simp only [List.flatMap_cons, List.flatMap_nil, List.length_append, List.length_nil]
    have h1 := hal ⟨#[99, 108, 97, 115, 115]⟩ c (by decide) hc
    have h2 := hal ⟨#[105, 100]⟩ i (by decide) hi
    omega
  have HXB := Lib.hid hxb
  rw [hxb] at HTD
  have hs1 : ¬ 9223372036854775807 < 1 + n.size := by omega
  have hs2 : ¬ 9223372036854775807 < 1 + n.size + xb.size := by omega
  have hs3 : ¬ 9223372036854775807 < 1 + n.size + xb.size + 1 := by omega
  have hs4 : ¬ 9223372036854775807 < 1 + n.size + xb.size + 1 + t.size := by omega
  have hs5 : ¬ 9223372036854775807 < 1 + n.size + xb.size + 1 + t.size + 2 := by omega
  have hs6 : ¬ 9223372036854775807 < 1 + n.size + xb.size + 1 + t.size + 2 + n.size := by omega
  have hs7 : ¬ 9223372036854775807 < 1 + n.size + xb.size + 1 + t.size + 2 + n.size + 1 := by omega
  have hB := laidNew w (.cells #[.string ⟨#[99, 108, 97, 115, 115]⟩, .string c, .string ⟨#[105, 100]⟩, .string i] 59)
  rw [hW1] at hB
  have HB := Lib.hid hB
  clear hxb hxz hT hB
  go_enter Try.func14, Try.ntmps14
  go_wp2_with (go_at_call 26; refine HTD.mono ?_; rintro e w3 ⟨rfl, hb3⟩)
  go_ret
  refine ⟨?_, behind HB.out hb3⟩
  have e0 : ∀ a b : ByteArray, a.data.toList = b.data.toList → a = b := fun a b e => by rw [← bT_data a, ← bT_data b, e]
  have hfin : (⟨#[60]⟩ : ByteArray) ++ n ++ xb ++ ⟨#[62]⟩ ++ t ++ ⟨#[60, 47]⟩ ++ n ++ ⟨#[62]⟩ = bT (tagL n c i t) := by
    apply e0
    rw [bT_list]
    unfold tagL
    rw [show toldL [(⟨#[99, 108, 97, 115, 115]⟩, c), (⟨#[105, 100]⟩, i)] = xb.data.toList by rw [← HXB.out, bT_list]]
    simp [ByteArray.data_append]
  exact congrArg (fun x => Ending.returned (Value.string x)) hfin
end Go.Proofs.Ytbhipobedijfbaa
