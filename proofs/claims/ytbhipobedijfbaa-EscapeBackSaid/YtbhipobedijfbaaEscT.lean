import Derived.Test.YtbhipobedijfbaaEscB
namespace Go.Proofs.Ytbhipobedijfbaa
open Go.RowKit Go.Maps
set_option maxRecDepth 100000

/-! ### escape.Text -/
theorem wpList_lookup_sign {w : World} {ops : Array Oper} {rest : List Oper} {o : Oper} {a : Act} {Q : Exit → Act → World → Prop}
    (hg : o.guard = none) (m x : Operand) (hop : o.op = Op.lookup 35 m x true) (b : Nat) (r : Nat) (hm : a.eval m = .map (some b)) (hx : a.eval x = .int .i32 (r : Int)) (hM : SignsAt w b) (hr : r ≤ 1114111)
    (mv : Value) (f : Bool) (hv : markV r = mv) (hf : isMark r = f) (hK : wpList Try.prog ops Q rest (a.put o.dst (.tuple #[mv, .bool f])) w) : wpList Try.prog ops Q (o :: rest) a w := by
  subst hv; subst hf
  exact wpList_lookup_run w hg m x _ true hop _ _ hm hx _ (look_rune hM r hr) hK
/-- what Text holds -/
structure TextI (W : World) (A B : Nat) (s : ByteArray) (pos : Nat) (acc : List UInt8) (w : World) : Prop where
  bld : Lib.IsBuilderF 46 5 B B (Lib.byteCells acc) w
  map : SignsAt w A
  it : w.heap[B + 1]? = some (.stringIter s pos)
  bel : Below W.heap.size W w
section
variable {W w w' : World} {A B pos : Nat} {s : ByteArray} {acc acc' : List UInt8}
theorem TextI.lt (h : TextI W A B s pos acc w) : B + 1 < w.heap.size := lt_of h.it
theorem TextI.below (h : TextI W A B s pos acc w) (hb : Below w.heap.size w w') (hW : W.heap.size ≤ w.heap.size) : TextI W A B s pos acc w' := by
  obtain ⟨c, hbk⟩ := builder_block h.bld
  exact ⟨builder_same h.bld (hb.block _ (lt_of hbk)) (fun g c fz hg => hb.block g (lt_of hg)), map_same h.map (fun es c hm => hb.block _ (lt_of hm)), (hb.block _ h.lt).trans h.it, h.bel.trans (hb.mono hW)⟩
theorem TextI.iter (h : TextI W A B s pos acc w) (hA : A < B) (hW : W.heap.size ≤ B) (q : Nat) : TextI W A B s q acc (w.iterAt (B + 1) s q) :=
  ⟨h.bld.iterAt h.it q, map_same h.map (fun es c hm => Lib.iterAt_other w (B + 1) A s q (by omega)), Lib.iterAt_heap w (B + 1) s pos q h.it, Lib.below_iterAt h.bel (by omega) s q⟩
theorem TextI.wrote (h : TextI W A B s pos acc w) (hA : A < B) (hW : W.heap.size ≤ B) (h1 : Lib.IsBuilderF 46 5 B B (Lib.byteCells acc') w') (hb : Below B w w') (hk : Lib.OthersKept 5 (some B) w w') : TextI W A B s pos acc' w' := by
  refine ⟨h1, map_same h.map (fun es c hm => ?_), hk _ _ h.it (fun e => by injection e with e; omega) (fun c fz e => by cases e), h.bel.trans (hb.mono hW)⟩
  rw [hm]; exact hk _ _ hm (fun e => by injection e with e; omega) (fun c fz e => by cases e)
end

set_option maxHeartbeats 8000000 in
theorem text_c (s : ByteArray) (w : World) (hs : s.size ≤ 1000000000) : Calls Try.prog 12 #[.string s] w fun e w' => e = .returned (.string (bT (textL s.data.toList))) ∧ Below w.heap.size w w' := by
  have hlen : ∀ k, (textL (s.data.toList.take k)).length ≤ 6000000000 := fun k => by
    have h1 := text_len (s.data.toList.take k)
    rw [List.length_take] at h1
    have h2 : s.data.toList.length = s.size := by simp
    omega
  have HL := Lib.hid hlen
  have HBS := Lib.hid bySign_c
  clear hlen
  go_enter Try.func12, Try.ntmps12
  go_wp2_with (go_at_call 17; refine (HBS.out _).mono ?_; rintro e w1 ⟨rfl, hM1, hb1⟩)
  have hz1 : w.heap.size < w1.heap.size := hM1.lt
  have hstart : TextI w w.heap.size w1.heap.size s 0 [] ((w1.alloc (.cells #[.pointer none, .slice none 0 0] 46)).alloc (.stringIter s 0)) := by
    have hb := laidNew (w1.alloc (.cells #[.pointer none, .slice none 0 0] 46)) (.stringIter s 0)
    have hb' := laidNew w1 (.cells #[.pointer none, .slice none 0 0] 46)
    refine ⟨?_, ?_, ?_, ?_⟩
    · exact builder_same (Lib.IsBuilderF.of (Lib.fresh_isBuilder 46 5 w1)) (hb.block _ (by simp)) (fun g c fz hg => hb.block _ (lt_of hg))
    · exact map_same hM1 (fun es c hm => (hb.block _ (by simp; omega)).trans (hb'.block _ (by omega)))
    · have := heap_alloc_new (w1.alloc (.cells #[.pointer none, .slice none 0 0] 46)) (.stringIter s 0)
      simpa using this
    · exact behind (behind hb1 hb') hb
  have HST := Lib.hid hstart
  clear hstart hM1 hb1
  go_loopg [5] s.size (fun gf fv wr => ∃ pos f : Nat, fv = .int .i64 (f : Int) ∧ f ≤ pos ∧ pos ≤ s.size ∧ NoMk s f pos ∧ s.size ≤ pos + gf ∧ TextI w w.heap.size w1.heap.size s pos (textL (s.data.toList.take f)) wr)
  case atStart => exact ⟨0, 0, rfl, by omega, by omega, fun j _ a b => by omega, by omega, HST.out⟩
  case round =>
    clear HST
    obtain ⟨pos, f, rfl, hfp, hps, hno, hfu, hI⟩ := hrel
    have HN := Lib.hid hno
    have HI := Lib.hid hI
    have hIt := hI.it
    have hwz := hI.lt
    clear hno hI
    by_cases hlt : pos < s.size
    · obtain ⟨g', rfl⟩ : ∃ g', gk = g' + 1 := ⟨gk - 1, by omega⟩
      have hnx : ∀ ty, (Instr.next (.pointer (some ⟨w1.heap.size + 1, 0, none⟩)) true ty).run Try.prog wr = _ := fun ty => Lib.run_next_any_at wr (w1.heap.size + 1) s pos ty hIt hlt
      have hwd := Lib.width_pos s pos
      have hrl := Lib.rune_le s pos
      obtain ⟨R, hR⟩ : ∃ R, (Utf8.decode s pos).1 = R := ⟨_, rfl⟩
      obtain ⟨K, hK⟩ : ∃ K, (Utf8.decode s pos).2 = K := ⟨_, rfl⟩
      have hI2 := HI.out.iter hz1 (Nat.le_of_lt hz1) (pos + K)
      have hz2 := Lib.iterAt_size wr (w1.heap.size + 1) s (pos + K)
      cases hm : isMark R with
      | false =>
        have hrn := rune_none s pos hlt (by rw [hR]; exact hm)
        have hmv := (mark_no hm).1
        rw [hR, hK] at hnx
        rw [hR] at hrl
        rw [hK] at hwd hrn
        clear hR hK
        obtain ⟨W2, hW2⟩ : ∃ W2, wr.iterAt (w1.heap.size + 1) s (pos + K) = W2 := ⟨_, rfl⟩
        rw [hW2] at hnx hI2 hz2
        have HI2 := Lib.hid hI2
        have HRN := Lib.hid hrn
        clear hW2 hI2 hIt hrn
        unfold mZero at hmv
        go_wp2_with (refine wpList_lookup_sign rfl _ _ rfl w.heap.size R rfl rfl HI2.out.map hrl _ _ hmv hm ?_)
        go_roundg g'
        case measure => omega
        case rel => exact ⟨pos + K, f, rfl, by omega, HRN.out.1, noMk_trans HN.out HRN.out.2, by omega, (HI2.out.below (laidNew _ _) (by omega))⟩
      | true =>
        obtain ⟨hde, hbt⟩ := rune_mark s pos hlt (by rw [hR]; exact hm)
        obtain ⟨h128, mb, hmv, hml, hmz⟩ := mark_v hm
        have hcv := fun w => conv_sign hm w
        rw [hR] at hbt
        rw [hbt] at hml hcv
        have hK1 : K = 1 := by rw [← hK, hde]
        have HTS := Lib.hid (text_step hfp hlt HN.out hml)
        rw [hR, hK, hK1] at hnx
        rw [hR] at hrl
        rw [hK1] at hI2 hz2
        clear hR hK hK1 hde hbt hml hwd
        obtain ⟨W2, hW2⟩ : ∃ W2, wr.iterAt (w1.heap.size + 1) s (pos + 1) = W2 := ⟨_, rfl⟩
        rw [hW2] at hnx hI2 hz2
        have HI2 := Lib.hid hI2
        obtain ⟨W3, hW3⟩ : ∃ W3, W2.alloc (.cells #[.string mb] 40) = W3 := ⟨_, rfl⟩
        have hz3 : W3.heap.size = W2.heap.size + 1 := by rw [← hW3]; simp
        have HI3 : Hid (TextI w w.heap.size w1.heap.size s (pos + 1) (textL (s.data.toList.take f)) W3) := Lib.hid (by rw [← hW3]; exact HI2.out.below (laidNew _ _) (by omega))
        have HC3 : Hid (W3.heap[wr.heap.size]? = some (.cells #[.string mb] 40 (0, 0))) := Lib.hid (by rw [← hW3, ← hz2]; exact heap_alloc_new W2 _)
        clear hW2 hI2 hIt
        have hi1 : (f : Int) ≤ (pos : Int) := by omega
        have hi2 : (pos : Int) ≤ (s.size : Int) := by omega
        have hi3 : (0 : Int) ≤ (f : Int) := by omega
        obtain ⟨part, hpart⟩ : ∃ part, s.extract f pos = part := ⟨_, rfl⟩
        have HPZ : Hid (part.size ≤ s.size) := Lib.hid (by rw [← hpart, ByteArray.size_extract]; omega)
        rw [hpart] at HTS
        have hl1 : Hid ((Lib.byteCells (textL (s.data.toList.take f))).length + part.size ≤ 140737488355328) := Lib.hid (by rw [Lib.byteCells_length]; have := HL.out f; have := HPZ.out; omega)
        have hl2 : Hid ((Lib.byteCells (textL (s.data.toList.take f) ++ part.data.toList)).length + mb.size ≤ 140737488355328) := Lib.hid (by rw [Lib.byteCells_length, List.length_append]; have := HL.out f; have := HPZ.out; have e : part.data.toList.length = part.size := (by simp); omega)
        go_wp2_with (first
          | (refine wpList_lookup_sign rfl _ _ rfl w.heap.size R rfl rfl HI2.out.map hrl _ _ hmv hm ?_)
          | (go_at_call 21; (with_reducible refine (writeString_c w1.heap.size w1.heap.size (Lib.byteCells (textL (s.data.toList.take f))) part _ HI3.out.bld hl1.out (by omega)).mono ?_); rintro e w4 ⟨rfl, hbd4, hb4, hk4⟩; rw [cells_cat] at hbd4; have HI4 := Lib.hid (HI3.out.wrote hz1 (Nat.le_of_lt hz1) hbd4 hb4 hk4); have hz4 := hb4.size; have hc4 := hk4 _ _ HC3.out (fun e => by injection e with e; omega) (fun c fz e => by injection e with _ e _; exact absurd e (by decide)); have d4 : w4.cell? ⟨wr.heap.size, 0, none⟩ = some (.string mb) := by (rw [Lib.cell_of_heap hc4]; rfl))
          | (go_at_call 21; (with_reducible refine (writeString_c w1.heap.size w1.heap.size (Lib.byteCells (textL (s.data.toList.take f) ++ part.data.toList)) mb _ HI4.out.bld hl2.out (by omega)).mono ?_); rintro e w5 ⟨rfl, hbd5, hb5, hk5⟩; rw [cells_cat, ← HTS.out] at hbd5; have HI5 := Lib.hid (HI4.out.wrote hz1 (Nat.le_of_lt hz1) hbd5 hb5 hk5)))
        go_roundg g'
        case measure => omega
        case rel => exact ⟨pos + 1, pos + 1, by go_num, by omega, by omega, fun j _ a b => by omega, by omega, HI5.out⟩
    · have hnx : ∀ ty, (Instr.next (.pointer (some ⟨w1.heap.size + 1, 0, none⟩)) true ty).run Try.prog wr = _ := fun ty => Lib.run_next_end_at wr (w1.heap.size + 1) s pos ty hIt hlt
      obtain rfl : pos = s.size := by omega
      have HTS := Lib.hid (text_upto hfp HN.out)
      obtain ⟨part, hpart⟩ : ∃ part, s.extract f s.size = part := ⟨_, rfl⟩
      have HPZ : Hid (part.size ≤ s.size) := Lib.hid (by rw [← hpart, ByteArray.size_extract]; omega)
      rw [hpart, List.take_of_length_le (by simp)] at HTS
      have hl1 : Hid ((Lib.byteCells (textL (s.data.toList.take f))).length + part.size ≤ 140737488355328) := Lib.hid (by rw [Lib.byteCells_length]; have := HL.out f; have := HPZ.out; omega)
      have hi1 : (f : Int) ≤ (s.size : Int) := by omega
      clear hIt
      go_wp2_with (first
        | (go_at_call 21; (with_reducible refine (writeString_c w1.heap.size w1.heap.size (Lib.byteCells (textL (s.data.toList.take f))) part _ HI.out.bld hl1.out (by omega)).mono ?_); rintro e w4 ⟨rfl, hbd4, hb4, hk4⟩; rw [cells_cat, ← HTS.out] at hbd4; have HI4 := Lib.hid (HI.out.wrote hz1 (Nat.le_of_lt hz1) hbd4 hb4 hk4); have hz4 := hb4.size)
        | (go_at_call 22; refine (Try.Builder_String_any_k w1.heap.size w1.heap.size (textL s.data.toList) _ HI4.out.bld (by omega)).mono ?_; rintro e w5 ⟨rfl, hbd5, hb5, hk5⟩; have HI5 := Lib.hid (HI4.out.wrote hz1 (Nat.le_of_lt hz1) hbd5 hb5 hk5)))
      go_ret
      exact ⟨rfl, HI5.out.bel⟩
end Go.Proofs.Ytbhipobedijfbaa
