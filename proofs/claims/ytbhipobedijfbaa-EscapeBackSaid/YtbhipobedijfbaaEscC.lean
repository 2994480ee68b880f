import Derived.Test.YtbhipobedijfbaaEscK
namespace Go.Proofs.Ytbhipobedijfbaa
open Go.RowKit Go.Maps Go.Lib
set_option maxRecDepth 100000

/-! ### whether a rune is a sign -/
theorem keepCell {w w2 : World} {p : Addr} {v : Value} (hb : Below w.heap.size w w2) (h : w.cell? p = some v) : w2.cell? p = some v := (hb.cell (World.block_lt_of_cell? w p h)).trans h
theorem SignsAt.below {w w' : World} {A : Nat} (h : SignsAt w A) (hb : Below w.heap.size w w') : SignsAt w' A := map_same h (fun _ _ hm => hb.block _ (lt_of hm))

set_option maxHeartbeats 2000000 in
theorem cuts_c (A p R : Nat) (w : World) (h : SignsAt w A) (hp : w.cell? ⟨p, 0, none⟩ = some (.map (some A))) (hr : R ≤ 1114111) : Calls Try.prog 19 #[.int .i32 (R : Int), .pointer (some ⟨p, 0, none⟩)] w fun e w' => e = .returned (.bool (isMark R)) ∧ Below w.heap.size w w' := by
  obtain ⟨f, hf⟩ : ∃ f, isMark R = f := ⟨_, rfl⟩
  obtain ⟨mb, hmv⟩ : ∃ mb, markV R = .agg #[.string mb] := by
    cases hm : isMark R with
    | true => obtain ⟨-, mb, e, -⟩ := mark_v hm; exact ⟨mb, e⟩
    | false => exact ⟨_, (mark_no hm).1⟩
  have HM := Lib.hid h
  rw [hf]
  clear h
  go_enter Try.func19, Try.ntmps19
  go_wp2_with (refine wpList_lookup_sign rfl _ _ rfl A R rfl rfl HM.out hr _ _ hmv hf ?_)
  go_ret
  exact ⟨rfl, laidNew _ _⟩
theorem cuts_grows (A p : Nat) (w : World) (h : SignsAt w A) (hp : w.cell? ⟨p, 0, none⟩ = some (.map (some A))) : PredGrows Try.prog 19 #[.pointer (some ⟨p, 0, none⟩)] isMark w :=
  fun W x hx hb => cuts_c A p x W (h.below hb) (keepCell hb hp) hx

/-! ### strings.Builder's WriteRune -/
set_option maxHeartbeats 1000000 in
theorem writeRune_c (B b : Nat) (bs : List Value) (r : Int) (hr0 : -2147483648 ≤ r) (hr1 : r ≤ 2147483647) (w : World) (h : Lib.IsBuilderF 46 5 B b bs w) (hlen : bs.length + 4 ≤ 140737488355328) (hBw : B ≤ w.heap.size) :
    Calls Try.prog 24 #[.pointer (some ⟨b, 0, none⟩), .int .i32 r] w fun e w' => (∃ v, e = .returned v) ∧ Lib.IsBuilderF 46 5 B b (bs ++ Lib.runeCells r) w' ∧ Below B w w' ∧ Lib.OthersKept 5 (some b) w w' := by
  go_enter Try.func24, Try.ntmps24
  go_wp2_with (go_at_call 28; refine (copyCheck_c B b bs _ h).mono ?_)
  rintro e w1 ⟨rfl, ⟨hB, v, hbk, hown, hne⟩, hb1, hk1⟩
  have hz := hb1.size
  have hlt : b < w1.heap.size := (Array.getElem?_eq_some_iff.1 hbk).1
  have c1 : w1.cell? ⟨b, 1, none⟩ = some v := by rw [Lib.cell_of_heap hbk]; rfl
  have hBw1 : B ≤ w1.heap.size := by omega
  obtain ⟨ao, cap, rfl⟩ : ∃ ao cap, v = .slice ao bs.length cap := by
    rcases hown.2 with ⟨hv, h0⟩ | ⟨g, cap, cur, fz, hv, _⟩
    · exact ⟨none, 0, by rw [hv, h0]⟩
    · exact ⟨_, _, hv⟩
  have HA := fun w h => Try.utf8_AppendRune_row B (.slice ao bs.length cap) bs.length bs r hr0 hr1 w h hlen
  have HO := Lib.hid hown
  clear hown
  go_wp2_with (go_at_call 30; refine (HA _ HO.out hBw1).mono ?_; rintro e w2 ⟨v2, rfl, hown2, o, hgrow⟩; obtain ⟨a2, n2, c2, rfl⟩ : ∃ a2 n2 c2, v2 = .slice a2 n2 c2 := (by rcases hown2.2 with ⟨hv, _⟩ | ⟨g, cap, cur, fz, hv, _⟩ <;> exact ⟨_, _, _, hv⟩); have hb2 : w2.heap[b]? = some (.cells #[.pointer (some ⟨b, 0, none⟩), .slice ao bs.length cap] 46 (0, 0)) := (by rw [hgrow.block b (by simp; omega) (fun e => hne e.symm)]; exact (alloc_old w1 o b hlt).trans hbk); have d1 : w2.cell? ⟨b, 1, none⟩ = some (.slice ao bs.length cap) := (by rw [Lib.cell_of_heap hb2]; rfl); have f1 : w2.frozen? ⟨b, 1, none⟩ = false := Lib.frozen_of_heap hb2 1)
  go_ret2
  have hk2 : Lib.OthersKept 5 (some b) w w2 := (hk1.alloc o).grown hgrow (fun g hg => by
    obtain ⟨c, fz, h⟩ := Lib.ownsRowF_kind HO.out g hg
    exact ⟨c, fz, (alloc_old w1 o g (lt_of h)).trans h⟩)
  have hb3 : Below B w w2 := (hb1.alloc hBw1 o).grown hgrow (by simp; omega) (fun k hk => (HO.out.lt k hk).1)
  refine ⟨⟨_, rfl⟩, .inr ?_, hb3.setCell (p := ⟨b, 1, none⟩) hB _, hk2.setCell ⟨b, 1, none⟩ rfl _⟩
  exact Lib.BuilderAtF.put (T := 46) (e := 5) hB hb2 (bs' := bs ++ Lib.runeCells r) (by simpa using hown2) (by decide)
end Go.Proofs.Ytbhipobedijfbaa
