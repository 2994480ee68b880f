import Derived.Test.YtbhipobedijfbaaEscR
namespace Go.Proofs.Ytbhipobedijfbaa
open Go.RowKit Go.Maps
set_option maxRecDepth 100000

/-! ### escape.Back -/
def lenS : Value → Nat
  | .string b => b.size
  | _ => 0
def backV : Option (List UInt8) → Value
  | none => .tuple #[.string ⟨#[]⟩, .int .i64 4]
  | some b => .tuple #[.string (bT b), .int .i64 0]
theorem bytes_cat (a b : List UInt8) : Lib.byteCells a ++ Lib.byteCells b = Lib.byteCells (a ++ b) := by simp [Lib.byteCells]
/-- what Back holds -/
structure BackI (W : World) (A p m B : Nat) (acc : List UInt8) (w : World) : Prop where
  bld : Lib.IsBuilderF 46 5 B B (Lib.byteCells acc) w
  map : SignsAt w A
  cell : w.heap[p]? = some (.cells #[.map (some A)] 35 (0, 0))
  mrk : MarksAt w m
  bel : Below W.heap.size W w
section
variable {W w w' : World} {A p m B : Nat} {acc acc' : List UInt8}
theorem BackI.lt (h : BackI W A p m B acc w) : B < w.heap.size := by obtain ⟨c, hc⟩ := builder_block h.bld; exact lt_of hc
theorem BackI.below (h : BackI W A p m B acc w) (hb : Below w.heap.size w w') (hW : W.heap.size ≤ w.heap.size) : BackI W A p m B acc w' := by
  obtain ⟨c, hbk⟩ := builder_block h.bld
  obtain ⟨n, D, hO, r⟩ := h.mrk
  exact ⟨builder_same h.bld (hb.block _ (lt_of hbk)) (fun g c fz hg => hb.block g (lt_of hg)), h.map.below hb, (hb.block _ (lt_of h.cell)).trans h.cell, ⟨n, D, map_same hO (fun _ _ hm => hb.block _ (lt_of hm)), r⟩, h.bel.trans (hb.mono hW)⟩
theorem BackI.wrote (h : BackI W A p m B acc w) (hA : A < B) (hp : p < B) (hm : m < B) (hW : W.heap.size ≤ B) (h1 : Lib.IsBuilderF 46 5 B B (Lib.byteCells acc') w') (hb : Below B w w') (_hk : Lib.OthersKept 5 (some B) w w') : BackI W A p m B acc' w' := by
  obtain ⟨n, D, hO, r⟩ := h.mrk
  exact ⟨h1, map_same h.map (fun _ _ _ => hb.block _ hA), (hb.block _ hp).trans h.cell, ⟨n, D, map_same hO (fun _ _ _ => hb.block _ hm), r⟩, h.bel.trans (hb.mono hW)⟩
theorem BackI.ptr (h : BackI W A p m B acc w) : w.cell? ⟨p, 0, none⟩ = some (.map (some A)) := by rw [Lib.cell_of_heap h.cell]; rfl
end

set_option maxHeartbeats 8000000 in
theorem back_c (s : ByteArray) (w : World) (hs : s.size ≤ 1000000000) : Calls Try.prog 10 #[.string s] w fun e w' => e = .returned (backV (backL s.data.toList)) ∧ Below w.heap.size w w' := by
  have HBS := Lib.hid bySign_c
  have HBM := Lib.hid byMark_c
  go_enter Try.func10, Try.ntmps10
  go_wp2_with (first
    | (go_at_call 17; refine (HBS.out _).mono ?_; rintro e w1 ⟨rfl, hM1, hb1⟩; have hz1 : w.heap.size < w1.heap.size := hM1.lt; have hM1' := hM1.below (laidNew w1 (.cells #[.map (some w.heap.size)] 35)))
    | (go_at_call 18; refine (HBM.out _ _ hM1').mono ?_; rintro e w2 ⟨rfl, hM2, hb2⟩))
  have e1 : (w1.alloc (.cells #[.map (some w.heap.size)] 35)).heap.size = w1.heap.size + 1 := by simp
  have hb2' := hb2
  rw [e1] at hb2 hM2
  have hz2 : w1.heap.size + 1 < w2.heap.size := by obtain ⟨n, D, hO, _⟩ := hM2; exact hO.lt
  have hstart : BackI w w.heap.size w1.heap.size (w1.heap.size + 1) w2.heap.size [] (w2.alloc (.cells #[.pointer none, .slice none 0 0] 46)) := by
    have hb := laidNew w2 (.cells #[.pointer none, .slice none 0 0] 46)
    refine ⟨Lib.IsBuilderF.of (Lib.fresh_isBuilder 46 5 w2), (hM1'.below hb2').below hb, ?_, ?_, behind (behind (behind hb1 (laidNew w1 _)) hb2') hb⟩
    · exact (hb.block _ (by omega)).trans ((hb2'.block _ (by simp)).trans (heap_alloc_new w1 _))
    · obtain ⟨n, D, hO, r⟩ := hM2
      exact ⟨n, D, map_same hO (fun _ _ hm => hb.block _ (lt_of hm)), r⟩
  have HST := Lib.hid hstart

  clear hstart hM1 hM1' hM2 hb1 hb2 hb2' e1
  have eg : ∀ args w, (callFunc 19 args).run Try.prog w = .ok (.enter 19 args) w := enters_of Try.func19 (by kernel_rfl) rfl
  have HIF := Lib.hid (fun (r : ByteArray) (w' : World) (h : SignsAt w' w.heap.size) (hp : w'.cell? ⟨w1.heap.size, 0, none⟩ = some (.map (some w.heap.size))) => Try.strings_IndexFunc_grows 19 #[.pointer (some ⟨w1.heap.size, 0, none⟩)] eg isMark r w' (cuts_grows w.heap.size w1.heap.size w' h hp))
  clear eg
  go_loopw [0] (fun sv wr => ∃ (r : ByteArray) (acc : List UInt8), sv = .string r ∧ backL s.data.toList = (backL r.data.toList).map (acc ++ ·) ∧ acc.length + r.size ≤ s.size ∧ BackI w w.heap.size w1.heap.size (w1.heap.size + 1) w2.heap.size acc wr) (fun sv _ => lenS sv)
  case atStart => exact ⟨s, [], rfl, by simp, by simp, HST.out⟩
  case round =>
    clear HST
    obtain ⟨r, acc, rfl, hbk, hlen, hI⟩ := hrel
    have HB := Lib.hid hbk
    have HI := Lib.hid hI
    have hlt := hI.lt
    clear hbk hI
    have hF := HIF.out r wr HI.out.map HI.out.ptr
    rcases idx_mark r with ⟨hx, hno⟩ | ⟨q, hq, hx, hno, m, hm⟩
    · rw [hx] at hF
      have HN := Lib.hid (back_none hno)
      clear hx hno
      have hl1 : Hid ((Lib.byteCells acc).length + r.size ≤ 140737488355328) := Lib.hid (by rw [Lib.byteCells_length]; omega)
      go_wp2_with (first
        | (go_at_call 20; refine hF.mono ?_; rintro e w3 ⟨rfl, hb3⟩; have hz3 := hb3.size; have HI3 := Lib.hid (HI.out.below hb3 (by omega)))
        | (go_at_call 21; refine (writeString_c w2.heap.size w2.heap.size (Lib.byteCells acc) r _ HI3.out.bld hl1.out (by omega)).mono ?_; rintro e w4 ⟨rfl, hbd4, hb4, hk4⟩; rw [cells_cat] at hbd4; have HI4 := Lib.hid (HI3.out.wrote (by omega) (by omega) (by omega) (by omega) hbd4 hb4 hk4); have hz4 := hb4.size)
        | (go_at_call 22; refine (Try.Builder_String_any_k w2.heap.size w2.heap.size (acc ++ r.data.toList) _ HI4.out.bld (by omega)).mono ?_; rintro e w5 ⟨rfl, hbd5, hb5, hk5⟩; have HI5 := Lib.hid (HI4.out.wrote (by omega) (by omega) (by omega) (by omega) hbd5 hb5 hk5)))
      go_ret2
      refine ⟨?_, HI5.out.bel⟩
      rw [HB.out, HN.out]
      rfl
    · rw [hx] at hF
      obtain ⟨K, hK⟩ : ∃ K, (Lib.indexByte (r.data.toList.drop q) 59 + 1).toNat = K := ⟨_, rfl⟩
      obtain ⟨hT1, hat1, hat2⟩ := back_at hq hno hm hK
      have hir := index_range (r.data.toList.drop q) 59
      obtain ⟨T, hT⟩ : ∃ T, q + K = T := ⟨_, rfl⟩
      obtain ⟨tl, htl⟩ : ∃ tl, r.extract q r.size = tl := ⟨_, rfl⟩
      have hib : Lib.indexByte tl.data.toList 59 = (T : Int) - (q : Int) - 1 := by rw [← htl, extract_end]; omega
      have HIB := fun w' => (Try.strings_IndexByte tl 59 w').mono fun e w2 h => (⟨h.1.trans (by rw [show ((59 : Int).toNat.toUInt8) = 59 from rfl, hib]), h.2.symm⟩ : e = .returned (.int .i64 ((T : Int) - (q : Int) - 1)) ∧ w' = w2)
      rw [hT] at hT1 hat1 hat2
      have hqT : q ≤ T := by omega
      have HK : Hid (T = q + K) := Lib.hid hT.symm
      obtain ⟨cd, hcd⟩ : ∃ cd, r.extract q T = cd := ⟨_, rfl⟩
      rw [hcd] at hat1 hat2
      have hcz : cd.size ≤ maxLen := by rw [← hcd, ByteArray.size_extract]; unfold maxLen; omega
      have hw1 : IntKind.i64.wrap ((q : Int) + ((T : Int) - (q : Int) - 1)) = (T : Int) - 1 := by rw [IntKind.wrap_i64]; omega
      have hw2 : IntKind.i64.wrap ((T : Int) - 1 + 1) = (T : Int) := by rw [IntKind.wrap_i64]; omega
      have hi1 : (q : Int) ≤ (T : Int) := by omega
      have hi2 : (T : Int) ≤ (r.size : Int) := by omega
      have hi3 : (q : Int) ≤ (r.size : Int) := by omega
      have HA1 := Lib.hid hat1
      have HA2 := Lib.hid hat2
      clear hx hno hm hK hir hib hT hat1 hat2
      cases hsg : signOf cd.data.toList with
      | none =>
        have HN := Lib.hid (HA1.out hsg)
        go_wp2_with (first
          | (go_at_call 20; refine hF.mono ?_; rintro e w3 ⟨rfl, hb3⟩; have hz3 := hb3.size; have HI3 := Lib.hid (HI.out.below hb3 (by omega)))
          | (go_at_call 23; refine (HIB _).mono ?_; rintro e w4 ⟨rfl, rfl⟩)
          | (refine wpList_lookup_mark rfl _ _ rfl (w1.heap.size + 1) cd rfl rfl HI3.out.mrk hcz none hsg 0 false rfl rfl ?_))
        go_ret2
        refine ⟨?_, HI3.out.bel⟩
        rw [HB.out, HN.out]
        rfl
      | some d =>
        obtain ⟨hK0, hnx⟩ := HA2.out d hsg
        have hd := mark_low (signOf_mark hsg)
        obtain ⟨nx, hnxe⟩ : ∃ nx, r.extract T r.size = nx := ⟨_, rfl⟩
        have hnz : nx.size = r.size - T := by rw [← hnxe, ByteArray.size_extract, Nat.min_self]
        have HNZ := Lib.hid hnz
        rw [hnxe] at hnx
        obtain ⟨part, hpart⟩ : ∃ part, r.extract 0 q = part := ⟨_, rfl⟩
        have hpd : part.data.toList = r.data.toList.take q := by rw [← hpart, extract_two, List.drop_zero]
        have hpz : part.size = q := by rw [← hpart, ByteArray.size_extract]; omega
        have HPD := Lib.hid hpd
        have HNX := Lib.hid hnx
        have HPZ := Lib.hid hpz
        have hl1 : Hid ((Lib.byteCells acc).length + part.size ≤ 140737488355328) := Lib.hid (by rw [Lib.byteCells_length, hpz]; omega)
        have hl2 : Hid ((Lib.byteCells (acc ++ part.data.toList)).length + 4 ≤ 140737488355328) := Lib.hid (by rw [Lib.byteCells_length, List.length_append]; have e : part.data.toList.length = part.size := (by simp); omega)
        have HRL := Lib.hid (rune_low hd)
        have HDL := Lib.hid hd
        clear hpd hpz hnz hnx
        go_wp2_with (first
          | (go_at_call 20; refine hF.mono ?_; rintro e w3 ⟨rfl, hb3⟩; have hz3 := hb3.size; have HI3 := Lib.hid (HI.out.below hb3 (by omega)))
          | (go_at_call 23; refine (HIB _).mono ?_; rintro e w4 ⟨rfl, rfl⟩)
          | (refine wpList_lookup_mark rfl _ _ rfl (w1.heap.size + 1) cd rfl rfl HI3.out.mrk hcz (some d) hsg (d.toNat : Int) true rfl rfl ?_)
          | (go_at_call 21; refine (writeString_c w2.heap.size w2.heap.size (Lib.byteCells acc) part _ HI3.out.bld hl1.out (by omega)).mono ?_; rintro e w5 ⟨rfl, hbd5, hb5, hk5⟩; rw [cells_cat] at hbd5; have HI5 := Lib.hid (HI3.out.wrote (by omega) (by omega) (by omega) (by omega) hbd5 hb5 hk5); have hz5 := hb5.size)
          | (go_at_call 24; refine (writeRune_c w2.heap.size w2.heap.size (Lib.byteCells (acc ++ part.data.toList)) (d.toNat : Int) (by have := HDL.out; omega) (by have := HDL.out; omega) _ HI5.out.bld hl2.out (by omega)).mono ?_; rintro e w6 ⟨⟨v6, rfl⟩, hbd6, hb6, hk6⟩; rw [HRL.out, bytes_cat] at hbd6; have HI6 := Lib.hid (HI5.out.wrote (by omega) (by omega) (by omega) (by omega) hbd6 hb6 hk6)))
        go_roundw
        case rel =>
          refine ⟨nx, acc ++ part.data.toList ++ [d], rfl, ?_, ?_, HI6.out⟩
          · rw [HB.out, HNX.out, Option.map_map]
            congr 1
            funext x
            simp only [Function.comp, HPD.out, List.append_assoc, List.singleton_append]
          · have h0 := HK.out
            have h1 := HNZ.out
            have h2 : part.data.toList.length = part.size := by simp
            have h3 := HPZ.out
            simp only [List.length_append, List.length_singleton]
            omega
        case measure => have := HNZ.out; have := HK.out; simp [lenS]; omega
end Go.Proofs.Ytbhipobedijfbaa
