/- Merged: ReadC, TextL, HelpM, AliveM, AliveC, AliveW, SizeB. -/
import Derived.Test.YtnbnlehkljkabaaGreatDoorU31
import Derived.Test.YtnbnlehkljkabaaGreatDoorVKnownC
import Derived.Deep.RegionHeld3
import Derived.Test.YtnbnlehkljkabaaGreatDoorU34
import Derived.Laws.StructEq
import Derived.Test.YtnbnlehkljkabaaGreatDoorU4
namespace Go.Proofs.YtnbnlehkljkabaaGreatDoor
open Go.RowKit Go.Maps
set_option maxRecDepth 100000

/-! ### ahead.Read -/
structure ReadOut (W : World) (t : List Ln × List Dg × List (List UInt8) × List (List UInt8)) (e : Ending) (w' : World) : Prop where
  out : ∃ v1 v2 v3 v4, e = .returned (.tuple #[v1, v2, v3, v4]) ∧ w'.ownsRow W.heap.size 82 3 v1 t.1.length (lnCells t.1) ∧ w'.ownsRow W.heap.size 77 4 v2 t.2.1.length (dgCells t.2.1) ∧
    w'.ownsRow W.heap.size 9 1 v3 t.2.2.1.length (t.2.2.1.map strV) ∧ w'.ownsRow W.heap.size 9 1 v4 t.2.2.2.length (t.2.2.2.map strV)
  bel : Below W.heap.size W w'
def startR (attrs : List At) : Rd := ⟨if checkL attrs = true then attrs else [], [], [], [], [], [], 0, false⟩

set_option maxHeartbeats 8000000 in
theorem read_none (sv av : Value) (srcs attrs : List At) (nb : ByteArray) (w : World) (hS : Attrs w sv srcs) (hf : getL srcs nb = none) :
    Calls Tryz.prog 32 #[sv, av, .string nb] w (ReadOut w (readL srcs attrs nb.data.toList)) := by
  have hF := find_c sv srcs nb w hS
  rw [hf] at hF
  simp only [getV] at hF
  have hR : readL srcs attrs nb.data.toList = ([], [(nb.data.toList, 0, 1, nb.data.toList)], [], []) := by
    unfold readL; rw [findL_v, hf]; rfl
  rw [hR]
  clear hf hS hR
  go_enter Tryz.func32, Tryz.ntmps32
  go_wp2_with (go_at_call 24; refine hF.mono ?_; rintro e w2 ⟨rfl, hb2⟩)
  refine bodyPost_ret (v := .tuple #[.slice none 0 0, .slice (some ⟨w2.heap.size, 0, none⟩) 1 1, .slice none 0 0, .slice none 0 0]) (by simp [results, Tryz.results32, go_sem]) rfl ⟨⟨_, _, _, _, rfl, ⟨rfl, .inl ⟨rfl, rfl⟩⟩, ?_, ⟨rfl, .inl ⟨rfl, rfl⟩⟩, ⟨rfl, .inl ⟨rfl, rfl⟩⟩⟩, behind hb2 (laidNew _ _)⟩
  have hz := hb2.size
  refine ⟨rfl, .inr ⟨w2.heap.size, 1, _, rfl, hz, heap_alloc_new w2 _, Nat.le_refl _, by unfold maxLen; omega, rfl, ?_⟩⟩
  show [_, _, _, _] = [_, _, _, _]
  rw [bT_data]; rfl

set_option maxHeartbeats 8000000 in
theorem read_some (sv av : Value) (srcs attrs : List At) (nb tb : ByteArray) (w : World) (hS : Attrs w sv srcs) (hA : Attrs w av attrs) (hf : getL srcs nb = some tb) (hsrc : ∀ a ∈ srcs, TextOk a.2) (hval : ∀ a ∈ attrs, a.2.size ≤ 100000)
    (hlong : (readR srcs 17 [] nb.data.toList tb.data.toList (startR attrs)).long = false) (hone : (readR srcs 17 [] nb.data.toList tb.data.toList (startR attrs)).asked.length ≤ 1) :
    Calls Tryz.prog 32 #[sv, av, .string nb] w (ReadOut w (readL srcs attrs nb.data.toList)) := by
  obtain ⟨ps, csv, hsv⟩ : ∃ p c, sv = .slice p srcs.length c := by obtain ⟨p, c, e, _⟩ := hS; exact ⟨p, c, e⟩
  subst hsv
  have hF := find_c (.slice ps srcs.length csv) srcs nb w hS
  rw [hf] at hF
  simp only [getV] at hF
  have hT : TextOk tb := by obtain ⟨a, ha, e⟩ := get_in hf; rw [← e]; exact hsrc a ha
  have hR : readL srcs attrs nb.data.toList = ((readR srcs 17 [] nb.data.toList tb.data.toList (startR attrs)).lines, (readR srcs 17 [] nb.data.toList tb.data.toList (startR attrs)).diags, (readR srcs 17 [] nb.data.toList tb.data.toList (startR attrs)).files, (readR srcs 17 [] nb.data.toList tb.data.toList (startR attrs)).asked) := by
    unfold readL; rw [findL_v, hf]; rfl
  rw [hR]
  have hfit : Fit 0 0 0 (startR attrs) := ⟨fun a ha => (by
    unfold startR at ha
    simp only at ha
    split at ha
    · exact hval a ha
    · cases ha), Nat.le_refl _, Nat.le_refl _, Nat.le_refl _, by show 0 ≤ 16384; omega⟩
  have HS := Lib.hid hS
  have HSRC := Lib.hid hsrc
  have HFIT := Lib.hid hfit
  have HT := Lib.hid hT
  have HLONG := Lib.hid hlong
  obtain ⟨fin, hfin⟩ : ∃ fin, readR srcs 17 [] nb.data.toList tb.data.toList (startR attrs) = fin := ⟨_, rfl⟩
  have HFIN := Lib.hid hfin
  rw [hfin] at hone
  rw [hfin]
  have hKN := fun w2 (hb : Below w.heap.size w w2) => known_m av attrs w2 (hA.below hb)
  clear hf hS hR hsrc hfit hT hlong hfin hval hA
  go_enter Tryz.func32, Tryz.ntmps32
  go_wp2_with (first
    | (go_at_call 24; refine hF.mono ?_; rintro e w2 ⟨rfl, hb2⟩)
    | (go_at_call 102; refine (hKN _ hb2).mono ?_; rintro e w3 ⟨rfl, ⟨D, n, hm3, hn3, hD3⟩, hb3⟩)
    | (go_at_call 103; refine (anywhere_c w3).mono ?_; rintro e w4 ⟨rfl, hm4, hb4⟩)
    | (go_at_call 104; refine (inForce_c w4).mono ?_; rintro e w5 ⟨rfl, hm5, hb5⟩))
  obtain ⟨w6, hw6⟩ : ∃ w6, w5.alloc (.cells #[.slice ps srcs.length csv, .map (some w2.heap.size), .map (some w3.heap.size), .map (some w4.heap.size), .slice none 0 0, .int .i64 0, .slice none 0 0, .slice none 0 0, .slice none 0 0] 115) = w6 := ⟨_, rfl⟩
  rw [hw6]
  have b6 : Below w5.heap.size w5 w6 := by rw [← hw6]; exact laidNew _ _
  have k6 : w6.heap[w5.heap.size]? = some (.cells #[.slice ps srcs.length csv, .map (some w2.heap.size), .map (some w3.heap.size), .map (some w4.heap.size), .slice none 0 0, .int .i64 0, .slice none 0 0, .slice none 0 0, .slice none 0 0] 115 (0, 0)) := by rw [← hw6]; exact heap_new _ _
  clear hw6
  have nilRow : ∀ (e : TypeId) (z : Nat), w6.ownsRow w.heap.size e z (.slice none 0 0) 0 [] := fun e z => ⟨by simp, .inl ⟨rfl, rfl⟩⟩
  have z2 := hb2.size
  have z3 := hm3.lt
  have z4 := hm4.lt
  have z5 := hm5.lt
  have y3 := hb3.size
  have y4 := hb4.size
  have y5 := hb5.size
  have bA := behind (behind (behind (behind hb2 hb3) hb4) hb5) b6
  have hD := attL_is hD3 0
  have hRD : RdIs w w5.heap.size ⟨.slice ps srcs.length csv, w2.heap.size, w3.heap.size, w4.heap.size⟩ srcs ⟨.slice none 0 0, .slice none 0 0, .slice none 0 0, .slice none 0 0⟩ (Kof (startR attrs)) [] (startR attrs) w6 :=
    ⟨k6, ⟨D, n, keep_map hm3 ((behind (behind hb4 hb5) b6).block _ z3), by show n ≤ 100100 * 0 + 1000; omega, hD⟩,
      keep_map hm4 ((behind hb5 b6).block _ z4), keep_map hm5 (b6.block _ z5), nilRow _ _, nilRow _ _, nilRow _ _, nilRow _ _, .inl rfl, by show w3.heap.size ≠ w2.heap.size; omega, by show w4.heap.size ≠ w2.heap.size; omega, ⟨by omega, by show _ ≤ w2.heap.size; omega, by show _ ≤ w3.heap.size; omega, by show _ ≤ w4.heap.size; omega⟩, bA, HS.out⟩
  have hAL := all_m w w5.heap.size ⟨.slice ps srcs.length csv, w2.heap.size, w3.heap.size, w4.heap.size⟩ srcs HSRC.out _ (startR attrs) nb tb w6 hRD HFIT.out HT.out HLONG.out
  rw [HFIN.out] at hAL
  have HRD := Lib.hid hRD
  have HBA := Lib.hid bA
  clear hRD bA hD nilRow k6
  generalize w5.heap.size = R at *
  go_wp2_with (go_at_call 105; refine hAL.mono ?_; rintro e w7 ⟨rfl, x', hst⟩)
  have hrd := hst.rd
  obtain ⟨pl, cl, hlv⟩ := row_slice hrd.rln
  obtain ⟨pd, cd, hdv⟩ := row_slice hrd.rdg
  obtain ⟨pf, cf, hfv⟩ := row_slice hrd.rfl'
  have r6 : w7.cell? ⟨R, 6, none⟩ = some (.slice pl fin.lines.length cl) := hrd.cells 6 _ (by rw [← hlv]; rfl)
  have r7 : w7.cell? ⟨R, 7, none⟩ = some (.slice pd fin.diags.length cd) := hrd.cells 7 _ (by rw [← hdv]; rfl)
  have r8 : w7.cell? ⟨R, 8, none⟩ = some (.slice pf fin.files.length cf) := hrd.cells 8 _ (by rw [← hfv]; rfl)
  have r1 : w7.cell? ⟨R, 1, none⟩ = some (.map (some w2.heap.size)) := hrd.cells 1 _ rfl
  obtain ⟨D7, n7, hm7, -, hD7⟩ := hrd.map
  have hAK := asked_m w2.heap.size n7 D7 fin w7.drew (keep_map (w' := w7.drew) hm7 rfl) hD7 hone
  have hRl : R < w7.heap.size := heap_lt hrd.blk
  have HR7 := Lib.hid hrd
  have hl1 := hrd.rln
  have hl2 := hrd.rdg
  have hl3 := hrd.rfl'
  rw [hlv] at hl1
  rw [hdv] at hl2
  rw [hfv] at hl3
  have HL1 := Lib.hid hl1
  have HL2 := Lib.hid hl2
  have HL3 := Lib.hid hl3
  clear hrd hl1 hl2 hl3 hm7 hD7 hst
  go_region_held3 (fun w' => w'.cell? ⟨R, 6, none⟩ = some (.slice pl fin.lines.length cl) ∧ w'.cell? ⟨R, 7, none⟩ = some (.slice pd fin.diags.length cd) ∧ w'.cell? ⟨R, 8, none⟩ = some (.slice pf fin.files.length cf) ∧ w'.cell? ⟨R, 1, none⟩ = some (.map (some w2.heap.size)))
    (first
      | go_keep
      | (refine ⟨?_, ?_, ?_, ?_⟩ <;> first | assumption | (simp; assumption)))
    (first
      | (go_at_call 106; refine hAK.mono ?_; rintro e w8 ⟨v4, rfl, ha4, hb8⟩; have s6 := keep_cell hb8 r6; have s7 := keep_cell hb8 r7; have s8 := keep_cell hb8 r8; have s1 := keep_cell hb8 r1))
  have hb9 : Below w7.heap.size w7 w8 := behind (Below.refl _ _).drew hb8
  have ha5 := own_base ha4 (show w.heap.size ≤ w7.drew.heap.size from HR7.out.bel.size)
  go_wp2
  refine bodyPost_ret (v := .tuple #[.slice pl fin.lines.length cl, .slice pd fin.diags.length cd, .slice pf fin.files.length cf, v4]) (by simp [results, Tryz.results32, go_sem]) rfl ⟨⟨_, _, _, _, rfl, ?_, ?_, ?_, ha5⟩, behind HR7.out.bel hb9⟩
  · exact keep_row HL1.out (fun g hg => hb9.block g (HL1.out.lt g hg).2)
  · exact keep_row HL2.out (fun g hg => hb9.block g (HL2.out.lt g hg).2)
  · exact keep_row HL3.out (fun g hg => hb9.block g (HL3.out.lt g hg).2)
end Go.Proofs.YtnbnlehkljkabaaGreatDoor
namespace Go.Proofs.YtnbnlehkljkabaaGreatDoor
open Go.RowKit Go.Maps
set_option maxRecDepth 100000

/-! ### texts that may be read by these contracts -/
theorem cutW_subs (s : List UInt8) : ∀ c ∈ (cutW s).2, c ∈ s := by
  intro c hc
  unfold cutW trimL at hc
  simp only [List.mem_reverse] at hc
  have h1 := (List.dropWhile_sublist _).subset hc
  rw [List.mem_reverse] at h1
  exact (List.dropWhile_sublist _).subset ((List.dropWhile_sublist _).subset h1)
theorem cutOk_low {s : List UInt8} (_ : ∀ c ∈ s, c.toNat < 128) : CutOk (bT s) := trivial
/-- every text of at most 100000 bytes -/
theorem textOk_any {t : ByteArray} (hs : t.size ≤ 100000) : TextOk t := ⟨hs, fun _ _ _ => ⟨trivial, trivial⟩⟩
theorem textOk_low {t : List UInt8} (h : ∀ c ∈ t, c.toNat < 128) (hs : t.length ≤ 100000) : TextOk (bT t) := by
  refine ⟨by rw [bT_size]; exact hs, fun l hl _ => ?_⟩
  have h1 : ∀ c ∈ l, c.toNat < 128 := fun c hc => by
    rcases lines_of [] t l hl c hc with e | e
    · cases e
    · exact h c e
  exact ⟨cutOk_low h1, cutOk_low (fun c hc => h1 c (cutW_subs l c hc))⟩
/-- no line has a word -/
theorem textOk_plain {t : ByteArray} (h : ∀ c ∈ t.data.toList, ¬ c = 64) (hs : t.size ≤ 100000) : TextOk t := by
  refine ⟨hs, fun l hl h64 => ?_⟩
  exfalso
  cases l with
  | nil => cases h64
  | cons a l =>
    simp only [List.head?_cons, Option.some.injEq] at h64
    subst h64
    rcases lines_of [] t.data.toList _ hl 64 (List.mem_cons_self ..) with e | e
    · cases e
    · exact h 64 e rfl
theorem srcs1_ok : ∀ a ∈ srcs1, TextOk a.2 := by
  intro a ha
  rcases List.mem_cons.1 ha with rfl | ha
  · exact textOk_low (by decide) (by decide)
  · rcases List.mem_cons.1 ha with rfl | ha
    · exact textOk_low (by decide) (by decide)
    · cases ha
theorem srcs2_ok : ∀ a ∈ srcs2, TextOk a.2 := by
  intro a ha
  rcases List.mem_cons.1 ha with rfl | ha
  · exact textOk_low (by decide) (by decide)
  · cases ha
/-! ### the four Reads of alive -/
theorem get_find {srcs : List At} {n t : List UInt8} (h : findL srcs n = some t) : getL srcs (bT n) = some (bT t) := by
  unfold findL at h
  cases hg : getL srcs (bT n) with
  | none => rw [hg] at h; cases h
  | some v => rw [hg] at h; simp only [Option.map_some, Option.some.injEq] at h; rw [← h, bT_data]
theorem readL_some {srcs attrs : List At} {n t : List UInt8} (h : findL srcs n = some t) : readL srcs attrs n = ((readR srcs 17 [] n t (startR attrs)).lines, (readR srcs 17 [] n t (startR attrs)).diags, (readR srcs 17 [] n t (startR attrs)).files, (readR srcs 17 [] n t (startR attrs)).asked) := by
  unfold readL; rw [h]; rfl
/-- Read, where the whole of what it does is known -/
theorem read_is (sv av : Value) (srcs attrs : List At) (n t : List UInt8) (fin : Rd) (w : World) (hS : Attrs w sv srcs) (hA : Attrs w av attrs) (hf : findL srcs n = some t) (hsrc : ∀ a ∈ srcs, TextOk a.2) (hval : ∀ a ∈ attrs, a.2.size ≤ 100000)
    (hr : readR srcs 17 [] n t (startR attrs) = fin) (hl : fin.long = false) (h1 : fin.asked.length ≤ 1) :
    Calls Tryz.prog 32 #[sv, av, .string (bT n)] w (ReadOut w (fin.lines, fin.diags, fin.files, fin.asked)) := by
  have := read_some sv av srcs attrs (bT n) (bT t) w hS hA (get_find hf) hsrc hval (by show (readR srcs 17 [] n t _).long = false; rw [hr]; exact hl) (by show (readR srcs 17 [] n t _).asked.length ≤ 1; rw [hr]; exact h1)
  have e := readL_some (attrs := attrs) hf
  rw [hr] at e
  rw [← e]; exact this
theorem start_one : startR [(bT [120], bT [49])] = stR [(bT [120], bT [49])] [] [] [] 0 := by unfold startR; rw [if_pos (by decide)]; rfl
theorem start_none : startR [] = stR [] [] [] [] 0 := rfl
theorem alive_r1 (sv av : Value) (w : World) (hS : Attrs w sv srcs1) (hA : Attrs w av [(bT [120], bT [49])]) : Calls Tryz.prog 32 #[sv, av, .string (bT [109])] w (ReadOut w ([([109], 1, [97]), ([110], 1, [49]), ([109], 4, [98])], [], [[109], [110]], [[120]])) :=
  read_is sv av srcs1 _ [109] tM _ w hS hA find_m srcs1_ok (by decide) ((congrArg (readR srcs1 17 [] [109] tM) start_one).trans alive_one) rfl (by decide)
theorem alive_r2 (sv av : Value) (w : World) (hS : Attrs w sv srcs1) (hA : Attrs w av []) : Calls Tryz.prog 32 #[sv, av, .string (bT [109])] w (ReadOut w ([([109], 1, [97]), ([110], 1, [123, 120, 125]), ([109], 6, [99])], [], [[109], [110]], [[120]])) :=
  read_is sv av srcs1 _ [109] tM _ w hS hA find_m srcs1_ok (by simp) ((congrArg (readR srcs1 17 [] [109] tM) start_none).trans alive_two) rfl (by decide)
theorem alive_r3 (sv av : Value) (w : World) (hS : Attrs w sv srcs2) (hA : Attrs w av []) : Calls Tryz.prog 32 #[sv, av, .string (bT [109])] w (ReadOut w ([], [([109], 1, 2, [109]), ([109], 2, 3, [64, 102, 111, 111]), ([109], 3, 4, wEnd), ([109], 4, 4, [])], [[109]], [[120]])) :=
  read_is sv av srcs2 _ [109] tF _ w hS hA (by unfold srcs2; rw [find_cons, if_pos rfl]) srcs2_ok (by simp) ((congrArg (readR srcs2 17 [] [109] tF) start_none).trans alive_three) rfl (by decide)
theorem alive_r4 (sv av : Value) (w : World) (hS : Attrs w sv []) : Calls Tryz.prog 32 #[sv, av, .string (bT [107])] w (ReadOut w ([], [([107], 0, 1, [107])], [], [])) :=
  read_none sv av [] [] (bT [107]) w hS rfl
end Go.Proofs.YtnbnlehkljkabaaGreatDoor
namespace Go.Proofs.YtnbnlehkljkabaaGreatDoor
open Go.RowKit Go.Maps
set_option maxRecDepth 100000

/-! ### what the laws call of their own -/
set_option maxHeartbeats 1000000 in
theorem src_m (a b : ByteArray) (w : World) : Calls Tryz.prog 33 #[.string a, .string b] w fun e w' => e = .returned (.agg #[.string a, .string b]) ∧ Below w.heap.size w w' := by
  go_enter Tryz.func33, Tryz.ntmps33
  go_wp2
  (try simp only [Exit.inBlock, Exit.then])
  refine bodyPost_ret (v := .agg #[.string a, .string b]) ?_ rfl ⟨rfl, (Below.refl _ _).alloc (Nat.le_refl _) _⟩
  exact results_cell_row rfl _ _ w.heap.size 69 #[.string a, .string b] (0, 0) _ rfl (heap_alloc_new w _) Tryz.underlying69 rfl (by kernel_rfl)
def plB (c : UInt8) : Bool := !(((c.toNat : Int) == 64) || ((c.toNat : Int) == 123) || ((c.toNat : Int) == 92))
theorem plB_iff (c : UInt8) : plB c = true ↔ plainC c := by
  have h : ∀ n : Nat, n < 256 → (((c.toNat : Int) == (n : Int)) = true ↔ c = UInt8.ofNat n) := fun n hn => by
    rw [beq_iff_eq]
    constructor
    · intro e
      apply UInt8.toNat_inj.1
      rw [UInt8.toNat_ofNat']
      omega
    · rintro rfl
      rw [UInt8.toNat_ofNat']; omega
  have h1 : ((c.toNat : Int) == 64) = true ↔ c = 64 := h 64 (by omega)
  have h2 : ((c.toNat : Int) == 123) = true ↔ c = 123 := h 123 (by omega)
  have h3 : ((c.toNat : Int) == 92) = true ↔ c = 92 := h 92 (by omega)
  unfold plB plainC
  simp only [Bool.not_eq_true', Bool.or_eq_false_iff]
  constructor
  · rintro ⟨⟨a, b⟩, d⟩
    exact ⟨fun e => by (rw [h1.2 e] at a; cases a), fun e => by (rw [h2.2 e] at b; cases b), fun e => by (rw [h3.2 e] at d; cases d)⟩
  · rintro ⟨a, b, d⟩
    exact ⟨⟨Bool.eq_false_iff.2 (fun e => a (h1.1 e)), Bool.eq_false_iff.2 (fun e => b (h2.1 e))⟩, Bool.eq_false_iff.2 (fun e => d (h3.1 e))⟩
/-- neither words, nor braces, nor backslashes -/
def plT (s : List UInt8) : Bool := s.all plB
theorem plain_all (s : List UInt8) : plT s = true ↔ PlainL s := by
  unfold plT
  rw [List.all_eq_true]
  exact ⟨fun h c hc => (plB_iff c).1 (h c hc), fun h c hc => (plB_iff c).2 (h c hc)⟩

set_option maxHeartbeats 1000000 in
theorem plain_m (s : ByteArray) (w : World) (hs : s.size ≤ maxLen) : Calls Tryz.prog 31 #[.string s] w fun e w' => e = .returned (.bool (plT s.data.toList)) ∧ w = w' := by
  unfold maxLen at hs
  go_enter Tryz.func31, Tryz.ntmps31
  go_wp2
  go_loop [3] (fun i => ∃ k : Nat, k ≤ s.size ∧ i = .int .i64 k ∧ (s.data.toList.take k).all plB = true) (fun i => s.size - (intOf i).toNat)
  case atStart => exact ⟨0, by omega, rfl, by simp⟩
  case round =>
    obtain ⟨k, hk, rfl, ha⟩ := hrel
    have HA := Lib.hid ha
    clear ha
    by_cases hlt : k < s.size
    · have HY := Lib.hid (fun (h2 : plB s[k] = true) => all_take_succ s.data.toList plB k (by simpa using hlt) HA.out h2)
      have HN := Lib.hid (fun (h2 : plB s[k] = false) => (all_false s.data.toList plB k (by simpa using hlt) h2 : plT s.data.toList = false))
      cases h1 : ((s[k].toNat : Int) == 64) with
      | true =>
        go_wp2
        go_ret
        exact ⟨ret_bool (HN.out (by unfold plB; rw [h1]; rfl)).symm, rfl⟩
      | false =>
        cases h2 : ((s[k].toNat : Int) == 123) with
        | true =>
          go_wp2
          go_ret
          exact ⟨ret_bool (HN.out (by unfold plB; rw [h1, h2]; rfl)).symm, rfl⟩
        | false =>
          cases h3 : ((s[k].toNat : Int) == 92) with
          | true =>
            go_wp2
            go_ret
            exact ⟨ret_bool (HN.out (by unfold plB; rw [h1, h2, h3]; rfl)).symm, rfl⟩
          | false =>
            go_wp2
            go_round
            case rel => exact ⟨k + 1, by omega, by go_num, HY.out (by unfold plB; rw [h1, h2, h3]; rfl)⟩
            case measure => simp [intOf]; omega
    · have HE := Lib.hid (show s.data.toList.take k = s.data.toList from List.take_of_length_le (by simp; omega))
      go_wp2
      go_ret
      exact ⟨ret_bool (show true = plT s.data.toList by unfold plT; rw [← HE.out]; exact HA.out.symm), rfl⟩

theorem ln_at : ∀ (l : List Ln) (k : Nat) (x : Ln), l[k]? = some x → ∀ j, j < 3 → (lnCells l)[k * 3 + j]? = ([.string (bT x.1), .int .i64 (x.2.1 : Int), .string (bT x.2.2)] : List Value)[j]?
  | [], k, x, h, j, hj => by simp at h
  | a :: l, k, x, h, j, hj => by
    have e : lnCells (a :: l) = [.string (bT a.1), .int .i64 (a.2.1 : Int), .string (bT a.2.2)] ++ lnCells l := rfl
    rw [e]
    cases k with
    | zero =>
      simp only [List.getElem?_cons_zero, Option.some.injEq] at h
      subst h
      rw [List.getElem?_append_left (by simp; omega)]
      simp
    | succ k =>
      rw [List.getElem?_append_right (by simp; omega)]
      have h2 : l[k]? = some x := by simpa using h
      have := ln_at l k x h2 j hj
      rw [← this]
      congr 1
      simp; omega

set_option maxHeartbeats 1000000 in
theorem same_m (B B2 : Nat) (v wv : Value) (file : ByteArray) (ws : List (List UInt8)) (w : World) (h1 : w.ownsRow B 82 3 v (numL file.data.toList 1 ws).length (lnCells (numL file.data.toList 1 ws))) (h2 : w.ownsRow B2 9 1 wv ws.length (ws.map strV)) (hl : ws.length ≤ 1000000) :
    Calls Tryz.prog 34 #[v, .string file, wv] w fun e w' => e = .returned (.bool true) ∧ Below w.heap.size w w' := by
  rw [numL_length] at h1
  obtain ⟨p1, c1, rfl⟩ := row_slice h1
  obtain ⟨p2, c2, rfl⟩ := row_slice h2
  have hc : ∀ k (hk : k < ws.length), ∃ g1 g2, p1 = some ⟨g1, 0, none⟩ ∧ p2 = some ⟨g2, 0, none⟩ ∧ g1 < w.heap.size ∧ g2 < w.heap.size ∧ w.cell? ⟨g2, k, none⟩ = some (.string (bT ws[k])) ∧ w.cell? ⟨g1, k * 3, none⟩ = some (.string file) ∧ w.cell? ⟨g1, k * 3 + 1, none⟩ = some (.int .i64 ((k : Int) + 1)) ∧ w.cell? ⟨g1, k * 3 + 2, none⟩ = some (.string (bT ws[k])) := fun k hk => by
    obtain ⟨g1, d1, cur1, hv1, -, hb1, -⟩ := row_here h1 (by omega)
    obtain ⟨g2, d2, cur2, hv2, -, hb2, -⟩ := row_here h2 (by omega)
    simp only [Value.slice.injEq] at hv1 hv2
    obtain ⟨rfl, -, rfl⟩ := hv1
    obtain ⟨rfl, -, rfl⟩ := hv2
    have hx := numL_at file.data.toList 1 ws k hk
    refine ⟨g1, g2, rfl, rfl, heap_lt hb1, heap_lt hb2, row_cell h2 k _ (by rw [List.getElem?_map, List.getElem?_eq_getElem hk]; rfl), ?_, ?_, ?_⟩
    · exact row_cell h1 (k * 3 + 0) _ (by rw [ln_at _ _ _ hx 0 (by omega)]; show some (Value.string (bT file.data.toList)) = _; rw [bT_data])
    · exact row_cell h1 (k * 3 + 1) _ (by rw [ln_at _ _ _ hx 1 (by omega)]; show some (Value.int .i64 ((1 + k : Nat) : Int)) = _; congr 2; omega)
    · exact row_cell h1 (k * 3 + 2) _ (by rw [ln_at _ _ _ hx 2 (by omega)]; rfl)
  clear h1 h2
  go_enter Tryz.func34, Tryz.ntmps34
  go_wp2
  go_loopw [7] (fun i wr => ∃ k : Nat, k ≤ ws.length ∧ i = .int .i64 k ∧ Below w.heap.size w wr) (fun i _ => ws.length - (intOf i).toNat)
  case atStart => exact ⟨0, by omega, rfl, Below.refl _ _⟩
  case round =>
    obtain ⟨k, hk, rfl, hbel⟩ := hrel
    by_cases hlk : k < ws.length
    · obtain ⟨g1, g2, rfl, rfl, hg1, hg2, e0, e1, e2, e3⟩ := hc k hlk
      have e0 := (hbel.cell (p := ⟨g2, k, none⟩) hg2).trans e0
      have e1 := (hbel.cell (p := ⟨g1, k * 3, none⟩) hg1).trans e1
      have e2 := (hbel.cell (p := ⟨g1, k * 3 + 1, none⟩) hg1).trans e2
      have e3 := (hbel.cell (p := ⟨g1, k * 3 + 2, none⟩) hg1).trans e3
      have hw1 : IntKind.i64.wrap ((k : Int) + 1) = (k : Int) + 1 := by rw [IntKind.wrap_i64]; omega
      have hi1 : (0 : Int) ≤ (k : Int) := by omega
      have hi2 : (k : Int) < (ws.length : Int) := by omega
      clear hc
      go_wp2
      go_quiet (fail)
      go_wp2
      go_roundw
      case rel => exact ⟨k + 1, by omega, by go_num, below_drewN hbel _⟩
      case measure => simp [intOf]; omega
    · go_wp2
      go_ret
      exact ⟨rfl, hbel⟩
end Go.Proofs.YtnbnlehkljkabaaGreatDoor
namespace Go.Proofs.YtnbnlehkljkabaaGreatDoor
open Go.RowKit Go.Maps
set_option maxRecDepth 100000

/-! ### alive -/
theorem attrs_row {w : World} {base n : Nat} {e : TypeId} {v : Value} {l : List At} (h : w.ownsRow base e 2 v n (atCells l)) (hn : n = l.length) (hs : Sized l) (hm : l.length ≤ 9223372036854775807) : Attrs w v l := by
  subst hn
  obtain ⟨h1, ⟨rfl, h0⟩ | ⟨g, cap, cur, rfl, hb, hg, hn, hc, hcs, htk⟩⟩ := h
  · exact ⟨none, 0, by rw [h0], hm, ⟨hs, fun _ => rfl, by omega⟩, fun h => by omega⟩
  · refine ⟨some ⟨g, 0, none⟩, cap, rfl, hm, ⟨hs, (fun h => by cases h), hn⟩, fun _ => ⟨g, 0, rfl, (Array.getElem?_eq_some_iff.1 hg).1, fun i hi => ?_⟩⟩
    obtain ⟨e1, e2⟩ := atCells_at l i hi
    rw [← htk, List.getElem?_take] at e1 e2
    rw [if_pos (by omega)] at e1 e2
    rw [Nat.zero_add]
    simp only [World.cell?, hg]
    exact ⟨by simpa using e1, by simpa using e2⟩
theorem laid_row (w : World) (cs : Array Value) (e : TypeId) (n z : Nat) (hz : cs.size = n * z) (hn : n ≤ maxLen) : (w.alloc (.cells cs e)).ownsRow w.heap.size e z (.slice (some ⟨w.heap.size, 0, none⟩) n n) n cs.toList := by
  refine ⟨by simpa using hz, .inr ⟨w.heap.size, n, cs, rfl, Nat.le_refl _, heap_alloc_new w _, Nat.le_refl _, hn, hz, ?_⟩⟩
  exact List.take_of_length_le (by simp; omega)
theorem laid_attrs (w : World) (cs : Array Value) (e : TypeId) (l : List At) (h : cs.toList = atCells l) (hs : Sized l) (hn : l.length ≤ 1000) : Attrs (w.alloc (.cells cs e)) (.slice (some ⟨w.heap.size, 0, none⟩) l.length l.length) l := by
  have hz : cs.size = l.length * 2 := by
    have : cs.toList.length = (atCells l).length := by rw [h]
    simpa [atCells_length] using this
  have := laid_row w cs e l.length 2 hz (by unfold maxLen; omega)
  rw [h] at this
  exact attrs_row this rfl hs (by omega)
/-- what Read answers, with the places of what is not empty -/
theorem cells_of {w w' : World} {B n z : Nat} {e : TypeId} {v : Value} {xs : List Value} (h : w.ownsRow B e z v n xs) (h0 : 0 < n) (hb : Below w.heap.size w w') : ∃ g c, v = .slice (some ⟨g, 0, none⟩) n c ∧ g < w'.heap.size ∧ ∀ (i : Nat) (u : Value), xs[i]? = some u → w'.cell? ⟨g, i, none⟩ = some u := by
  obtain ⟨g, c, cur, rfl, -, hg, -⟩ := row_here h h0
  exact ⟨g, c, rfl, Nat.lt_of_lt_of_le (heap_lt hg) hb.size, fun i u hu => keep_cell hb (row_cell h i u hu)⟩
theorem sized_small {l : List At} (h : ∀ a ∈ l, a.1.size ≤ 1000 ∧ a.2.size ≤ 1000) : Sized l := fun a ha => by have := h a ha; exact ⟨by omega, by omega⟩

theorem sized_bT {a t : List UInt8} (h1 : a.length ≤ 1000) (h2 : t.length ≤ 1000) : (bT a).size ≤ 1000 ∧ (bT t).size ≤ 1000 := ⟨by rw [bT_size]; exact h1, by rw [bT_size]; exact h2⟩
theorem srcs1_sized : Sized srcs1 := sized_small (fun a ha => by
  rcases List.mem_cons.1 ha with rfl | ha
  · exact sized_bT (by decide) (by decide)
  · rcases List.mem_cons.1 ha with rfl | ha
    · exact sized_bT (by decide) (by decide)
    · cases ha)
theorem srcs2_sized : Sized srcs2 := sized_small (fun a ha => by
  rcases List.mem_cons.1 ha with rfl | ha
  · exact sized_bT (by decide) (by decide)
  · cases ha)
theorem one_sized : Sized [(bT [120], bT [49])] := sized_small (fun a ha => by
  rcases List.mem_cons.1 ha with rfl | ha
  · exact sized_bT (by decide) (by decide)
  · cases ha)
theorem srcs1_laid (w : World) : Attrs (w.alloc (.cells #[.string ⟨#[109]⟩, .string (bT tM), .string ⟨#[110]⟩, .string ⟨#[123, 120, 125]⟩] 69)) (.slice (some ⟨w.heap.size, 0, none⟩) 2 2) srcs1 := laid_attrs w _ _ srcs1 rfl srcs1_sized (by decide)
theorem srcs2_laid (w : World) : Attrs (w.alloc (.cells #[.string ⟨#[109]⟩, .string (bT tF)] 69)) (.slice (some ⟨w.heap.size, 0, none⟩) 1 1) srcs2 := laid_attrs w _ _ srcs2 rfl srcs2_sized (by decide)
theorem one_laid (w : World) (n : Nat) (hn : w.heap.size = n) : Attrs (w.alloc (.cells #[.string ⟨#[120]⟩, .string ⟨#[49]⟩] 84)) (.slice (some ⟨n, 0, none⟩) 1 1) [(bT [120], bT [49])] := by subst hn; exact laid_attrs w _ _ [(bT [120], bT [49])] rfl one_sized (by decide)
end Go.Proofs.YtnbnlehkljkabaaGreatDoor
namespace Go.Proofs.YtnbnlehkljkabaaGreatDoor
open Go.RowKit Go.Maps
set_option maxRecDepth 100000

/-! ### what alive reads of Read's answers -/
theorem row_all {w : World} {B n z : Nat} {e : TypeId} {v : Value} {xs : List Value} (h : w.ownsRow B e z v n xs) (h0 : 0 < n) : ∃ g c, v = .slice (some ⟨g, 0, none⟩) n c ∧ g < w.heap.size ∧ ∀ w', Below w.heap.size w w' → ∀ (i : Nat) (u : Value), xs[i]? = some u → w'.cell? ⟨g, i, none⟩ = some u := by
  obtain ⟨g, c, cur, rfl, -, hg, -⟩ := row_here h h0
  exact ⟨g, c, rfl, heap_lt hg, fun w' hb i u hu => keep_cell hb (row_cell h i u hu)⟩
theorem row_texts {w : World} {B n : Nat} {v : Value} {l : List (List UInt8)} (h : w.ownsRow B 9 1 v n (l.map strV)) (hn : n = l.length) (hl : l.length ≤ 1000000) : ∃ p c, v = .slice p n c ∧ ∀ w', Below w.heap.size w w' → Texts w' v l := by
  obtain ⟨p, c, rfl⟩ := row_slice h
  refine ⟨p, c, rfl, fun w' hb => ?_⟩
  subst hn
  refine ⟨p, c, rfl, by omega, fun h0 => ?_⟩
  obtain ⟨g, c', hv, -, hc⟩ := row_all h h0
  simp only [Value.slice.injEq] at hv
  obtain ⟨rfl, -, -⟩ := hv
  exact ⟨g, rfl, fun j hj => hc w' hb j _ (by rw [List.getElem?_map, List.getElem?_eq_getElem hj]; rfl)⟩
theorem cells_a {w : World} {B : Nat} {v : Value} (h : w.ownsRow B 82 3 v 3 (lnCells [([109], 1, [97]), ([110], 1, [49]), ([109], 4, [98])])) : ∃ g c, v = .slice (some ⟨g, 0, none⟩) 3 c ∧ ∀ w', Below w.heap.size w w' → w'.cell? ⟨g, 3, none⟩ = some (.string ⟨#[110]⟩) ∧ w'.cell? ⟨g, 4, none⟩ = some (.int .i64 1) ∧ w'.cell? ⟨g, 5, none⟩ = some (.string ⟨#[49]⟩) ∧ w'.cell? ⟨g, 6, none⟩ = some (.string ⟨#[109]⟩) ∧ w'.cell? ⟨g, 7, none⟩ = some (.int .i64 4) ∧ w'.cell? ⟨g, 8, none⟩ = some (.string ⟨#[98]⟩) := by
  obtain ⟨g, c, rfl, -, hc⟩ := row_all h (by decide)
  exact ⟨g, c, rfl, fun w' hb => ⟨hc w' hb 3 _ rfl, hc w' hb 4 _ rfl, hc w' hb 5 _ rfl, hc w' hb 6 _ rfl, hc w' hb 7 _ rfl, hc w' hb 8 _ rfl⟩⟩
theorem cells_x {w : World} {B : Nat} {v : Value} (h : w.ownsRow B 82 3 v 3 (lnCells [([109], 1, [97]), ([110], 1, [123, 120, 125]), ([109], 6, [99])])) : ∃ g c, v = .slice (some ⟨g, 0, none⟩) 3 c ∧ ∀ w', Below w.heap.size w w' → w'.cell? ⟨g, 8, none⟩ = some (.string ⟨#[99]⟩) := by
  obtain ⟨g, c, rfl, -, hc⟩ := row_all h (by decide)
  exact ⟨g, c, rfl, fun w' hb => hc w' hb 8 _ rfl⟩
theorem cells_y {w : World} {B : Nat} {v : Value} (h : w.ownsRow B 77 4 v 4 (dgCells [([109], 1, 2, [109]), ([109], 2, 3, [64, 102, 111, 111]), ([109], 3, 4, wEnd), ([109], 4, 4, [])])) : ∃ g c, v = .slice (some ⟨g, 0, none⟩) 4 c ∧ ∀ w', Below w.heap.size w w' → w'.cell? ⟨g, 0, none⟩ = some (.string ⟨#[109]⟩) ∧ w'.cell? ⟨g, 1, none⟩ = some (.int .i64 1) ∧ w'.cell? ⟨g, 2, none⟩ = some (.int .i64 2) ∧ w'.cell? ⟨g, 3, none⟩ = some (.string ⟨#[109]⟩) ∧ w'.cell? ⟨g, 6, none⟩ = some (.int .i64 3) ∧ w'.cell? ⟨g, 11, none⟩ = some (.string ⟨#[64, 101, 110, 100]⟩) ∧ w'.cell? ⟨g, 12, none⟩ = some (.string ⟨#[109]⟩) ∧ w'.cell? ⟨g, 13, none⟩ = some (.int .i64 4) ∧ w'.cell? ⟨g, 14, none⟩ = some (.int .i64 4) ∧ w'.cell? ⟨g, 15, none⟩ = some (.string ⟨#[]⟩) := by
  obtain ⟨g, c, rfl, -, hc⟩ := row_all h (by decide)
  exact ⟨g, c, rfl, fun w' hb => ⟨hc w' hb 0 _ rfl, hc w' hb 1 _ rfl, hc w' hb 2 _ rfl, hc w' hb 3 _ rfl, hc w' hb 6 _ rfl, hc w' hb 11 _ rfl, hc w' hb 12 _ rfl, hc w' hb 13 _ rfl, hc w' hb 14 _ rfl, hc w' hb 15 _ rfl⟩⟩
theorem cells_z {w : World} {B : Nat} {v : Value} (h : w.ownsRow B 77 4 v 1 (dgCells [([107], 0, 1, [107])])) : ∃ g c, v = .slice (some ⟨g, 0, none⟩) 1 c ∧ ∀ w', Below w.heap.size w w' → w'.cell? ⟨g, 0, none⟩ = some (.string ⟨#[107]⟩) ∧ w'.cell? ⟨g, 1, none⟩ = some (.int .i64 0) ∧ w'.cell? ⟨g, 2, none⟩ = some (.int .i64 1) ∧ w'.cell? ⟨g, 3, none⟩ = some (.string ⟨#[107]⟩) := by
  obtain ⟨g, c, rfl, -, hc⟩ := row_all h (by decide)
  exact ⟨g, c, rfl, fun w' hb => ⟨hc w' hb 0 _ rfl, hc w' hb 1 _ rfl, hc w' hb 2 _ rfl, hc w' hb 3 _ rfl⟩⟩
theorem lit_two (w : World) (a b : ByteArray) : Texts (w.alloc (.cells #[.string a, .string b] 9)) (.slice (some ⟨w.heap.size, 0, none⟩) 2 2) [a.data.toList, b.data.toList] := by
  refine ⟨_, _, rfl, by simp, fun _ => ⟨_, rfl, fun j hj => ?_⟩⟩
  rw [World.cell?_alloc_new]
  match j, hj with
  | 0, _ => show some (Value.string a) = some (Value.string (bT a.data.toList)); rw [bT_data]
  | 1, _ => show some (Value.string b) = some (Value.string (bT b.data.toList)); rw [bT_data]
theorem lit_one (w : World) (a : ByteArray) : Texts (w.alloc (.cells #[.string a] 9)) (.slice (some ⟨w.heap.size, 0, none⟩) 1 1) [a.data.toList] := by
  refine ⟨_, _, rfl, by simp, fun _ => ⟨_, rfl, fun j hj => ?_⟩⟩
  rw [World.cell?_alloc_new]
  match j, hj with
  | 0, _ => show some (Value.string a) = some (Value.string (bT a.data.toList)); rw [bT_data]
end Go.Proofs.YtnbnlehkljkabaaGreatDoor
namespace Go.Proofs.YtnbnlehkljkabaaGreatDoor
open Go.RowKit Go.Maps
set_option maxRecDepth 100000

set_option maxHeartbeats 8000000 in
theorem alive_m (w : World) : Calls Tryz.prog 29 #[] w fun e w' => e = .returned (.bool true) ∧ Below w.heap.size w w' := by
  have hM : (⟨#[97, 10, 64, 105, 110, 99, 108, 117, 100, 101, 32, 110, 10, 64, 105, 102, 32, 120, 10, 98, 10, 64, 101, 108, 115, 101, 10, 99, 10, 64, 101, 110, 100, 10]⟩ : ByteArray) = bT tM := by decide
  have hF : (⟨#[64, 105, 110, 99, 108, 117, 100, 101, 32, 109, 10, 64, 102, 111, 111, 10, 64, 101, 110, 100, 10, 64, 105, 102, 32, 120]⟩ : ByteArray) = bT tF := by decide
  have hMs := fun w => src_m ⟨#[109]⟩ (bT tM) w
  have hNs := fun w => src_m ⟨#[110]⟩ ⟨#[123, 120, 125]⟩ w
  have hFs := fun w => src_m ⟨#[109]⟩ (bT tF) w
  have h1 := fun sv av w hS hA => (alive_r1 sv av w hS hA : Calls Tryz.prog 32 #[sv, av, .string ⟨#[109]⟩] w _)
  have h2 := fun sv av w hS hA => (alive_r2 sv av w hS hA : Calls Tryz.prog 32 #[sv, av, .string ⟨#[109]⟩] w _)
  have h3 := fun sv av w hS hA => (alive_r3 sv av w hS hA : Calls Tryz.prog 32 #[sv, av, .string ⟨#[109]⟩] w _)
  have h4 := fun sv av w hS => (alive_r4 sv av w hS : Calls Tryz.prog 32 #[sv, av, .string ⟨#[107]⟩] w _)
  go_enter Tryz.func29, Tryz.ntmps29
  go_wp2_with (first
    | (go_at_call 33; refine (hMs _).mono ?_; rintro e w1 ⟨rfl, hb1⟩)
    | (go_at_call 33; refine (hNs _).mono ?_; rintro e w2 ⟨rfl, hb2⟩; have hS2 := (srcs1_laid w2).below (laidNew _ (.cells #[.string ⟨#[120]⟩, .string ⟨#[49]⟩] 84)); have hA := one_laid (w2.alloc (.cells #[.string ⟨#[109]⟩, .string (bT tM), .string ⟨#[110]⟩, .string ⟨#[123, 120, 125]⟩] 69)) (w2.heap.size + 1) (by simp))
    | (go_at_call 33; refine (hFs _).mono ?_; rintro e w5 ⟨rfl, hb5⟩; have hS5 := srcs2_laid w5)
    | (go_at_call 32; refine (h1 _ _ _ hS2 hA).mono ?_; rintro e w3 ⟨⟨a1, a2, a3, a4, rfl, ra1, ra2, ra3, ra4⟩, hb3⟩; have hS3 := hS2.below hb3; obtain ⟨ga1, ca1, rfl, fa1⟩ := cells_a ra1; obtain ⟨pa2, ca2, rfl⟩ := row_slice ra2; obtain ⟨pa3, ca3, rfl, fa3⟩ := row_texts (n := 2) (l := [[109], [110]]) ra3 rfl (by decide); obtain ⟨pa4, ca4, rfl, fa4⟩ := row_texts (n := 1) (l := [[120]]) ra4 rfl (by decide); have FA1 := Lib.hid fa1; have FA3 := Lib.hid fa3; have FA4 := Lib.hid fa4; clear ra1 ra2 ra3 ra4 hS2 hA fa1 fa3 fa4)
    | (go_at_call 32; refine (h2 _ _ _ hS3 (nil_attrs _)).mono ?_; rintro e w4 ⟨⟨x1, x2, x3, x4, rfl, rx1, -, -, -⟩, hb4⟩; obtain ⟨gx1, cx1, rfl, fx1⟩ := cells_x rx1; have FX1 := Lib.hid fx1; clear rx1 hS3 fx1)
    | (go_at_call 32; refine (h3 _ _ _ hS5 (nil_attrs _)).mono ?_; rintro e w6 ⟨⟨y1, y2, y3, y4, rfl, -, ry2, -, -⟩, hb6⟩; obtain ⟨gy2, cy2, rfl, fy2⟩ := cells_y ry2; have FY2 := Lib.hid fy2; clear ry2 hS5 fy2)
    | (go_at_call 32; refine (h4 _ _ _ (nil_attrs _)).mono ?_; rintro e w7 ⟨⟨z1, z2, z3, z4, rfl, -, rz2, rz3, -⟩, hb7⟩; obtain ⟨gz2, cz2, rfl, fz2⟩ := cells_z rz2; obtain ⟨pz3, cz3, rfl⟩ := row_slice rz3; have FZ2 := Lib.hid fz2; clear rz2 rz3 fz2; have b47 : Below w4.heap.size w4 w7 := behind (behind (behind hb5 (laidNew w5 _)) hb6) hb7; have b37 : Below w3.heap.size w3 w7 := behind hb4 b47; have b17 : Below w.heap.size w w7 := behind (behind (behind (behind (behind hb1 hb2) (laidNew w2 _)) (laidNew _ _)) hb3) b37; obtain ⟨a3c, a4c, a5c, a6c, a7c, a8c⟩ := FA1.out w7 b37; have x8c := FX1.out w7 b47; have T1 := FA3.out _ (behind b37 (laidNew w7 (.cells #[.string ⟨#[109]⟩, .string ⟨#[110]⟩] 9))); have T2 := lit_two w7 ⟨#[109]⟩ ⟨#[110]⟩; have HS1 := sameTexts_any _ _ _ _ _ T1 T2; have HB17 := Lib.hid b17; have HB67 := Lib.hid hb7; have HS2 := fun w8 (h : Below w7.heap.size w7 w8) => sameTexts_any _ _ _ _ _ (FA4.out _ (behind (behind b37 h) (laidNew w8 (.cells #[.string ⟨#[120]⟩] 9)))) (lit_one w8 ⟨#[120]⟩); clear b47 b37 b17 hb1 hb2 hb3 hb4 hb5 hb6 T1 T2 hMs hNs hFs h1 h2 h3 h4 hM hF)
    | (go_at_call 15; (with_reducible refine HS1.mono ?_); rintro e w8 ⟨rfl, q8, hw8⟩; have hb8 : Below w7.heap.size w7 w8 := (by rw [hw8]; exact below_drewN (laidNew w7 _) q8); clear hw8)
    | (go_at_call 15; (with_reducible refine (HS2 _ hb8).mono ?_); rintro e w9 ⟨rfl, q9, hw9⟩; have hb9 : Below w7.heap.size w7 w9 := (by rw [hw9]; exact behind hb8 (below_drewN (laidNew w8 _) q9)); clear hw9; obtain ⟨y0, y1c, y2c, y3c, y6c, y11c, y12c, y13c, y14c, y15c⟩ := FY2.out w9 (behind HB67.out hb9); obtain ⟨z0c, z1c, z2c, z3c⟩ := FZ2.out w9 hb9))
  go_ret
  exact ⟨rfl, behind HB17.out hb9⟩
end Go.Proofs.YtnbnlehkljkabaaGreatDoor
namespace Go.Proofs.YtnbnlehkljkabaaGreatDoor
open Go.RowKit Go.Maps
set_option maxRecDepth 100000

set_option maxHeartbeats 400000 in
/-- the size of attributes, however many there are -/
theorem attrsSize_all (v : Value) (l : List At) (w : World) (h : Attrs w v l) : Calls Tryz.prog 30 #[v] w fun e w' => ∃ N : Nat, e = .returned (.int .i64 (N : Int)) ∧ (N ≤ 1048576 → N = l.length + sumL l) ∧ ∃ q, w' = w.drewN q := by
  obtain ⟨p, cap, rfl, hl, ⟨hs, -⟩, hc⟩ := h
  go_enter Tryz.func30, Tryz.ntmps30
  go_wp2
  go_loopw [3, 4] (fun n i wr => ∃ k N q : Nat, k ≤ l.length ∧ i = .int .i64 k ∧ n = .int .i64 (N : Int) ∧ N = l.length + sumL (l.take k) ∧ wr = w.drewN q) (fun _ i _ => l.length - (intOf i).toNat)
  case atStart => exact ⟨0, l.length, 0, by omega, rfl, rfl, by simp [sumL], rfl⟩
  case round =>
    obtain ⟨k, N, q, hk, rfl, rfl, hN, rfl⟩ := hrel
    have HN := Lib.hid hN
    clear hN
    by_cases hlt : k < l.length
    · by_cases hmo : N ≤ 1048576
      · obtain ⟨b, o, rfl, hb, hcc⟩ := hc (by omega)
        obtain ⟨c1, c2⟩ := hcc k hlt
        obtain ⟨s1, s2⟩ := hs l[k] (List.getElem_mem hlt)
        have HS := Lib.hid (sumL_take l k hlt)
        clear hc hcc
        go_wp2
        go_quiet (fail)
        go_wp2
        refine ⟨⟨k + 1, N + l[k].1.size + l[k].2.size, _, by omega, by go_num, by go_num, ?_, rfl⟩, by simp [intOf]; omega⟩
        rw [HS.out, HN.out]; omega
      · go_wp2
        go_ret
        exact ⟨N, rfl, fun h => by omega, q, rfl⟩
    · have HE := Lib.hid (show l.take k = l from List.take_of_length_le (by omega))
      go_wp2
      go_ret
      exact ⟨N, rfl, fun _ => by rw [HN.out, HE.out], q, rfl⟩

/-- one source, laid -/
theorem src_laid (w : World) (n s : ByteArray) (hn : n.size ≤ 140737488351232) (hs : s.size ≤ 140737488351232) : Attrs (w.alloc (.cells #[.string n, .string s] 69)) (.slice (some ⟨w.heap.size, 0, none⟩) 1 1) [(n, s)] :=
  laid_attrs w _ _ [(n, s)] rfl (fun a ha => by rcases List.mem_cons.1 ha with rfl | ha; exact ⟨hn, hs⟩; cases ha) (by simp)
/-- Read of one plain source -/
theorem read_plain_m (sv av : Value) (attrs : List At) (n s : ByteArray) (w : World) (hS : Attrs w sv [(n, s)]) (hA : Attrs w av attrs) (hp : PlainL s.data.toList) (hs : s.size ≤ 10000) (hval : ∀ a ∈ attrs, a.2.size ≤ 100000) :
    Calls Tryz.prog 32 #[sv, av, .string n] w (ReadOut w (numL n.data.toList 1 (linesL s.data.toList), [], [n.data.toList], [])) := by
  have hlen : (linesL s.data.toList).length ≤ 10001 := by
    have := lines_len [] s.data.toList
    have e : s.data.toList.length = s.size := by simp
    unfold linesL; omega
  have hr := read_plain [(n, s)] 16 [] n.data.toList s.data.toList (startR attrs) hp rfl (by show 0 + _ ≤ 16384; omega)
  have hg : getL [(n, s)] n = some s := by
    have := find_one n.data.toList s.data.toList
    rw [bT_data, bT_data] at this
    have h2 := get_find this
    rw [bT_data, bT_data] at h2
    exact h2
  have h := read_some sv av [(n, s)] attrs n s w hS hA hg (fun a ha => by
    rcases List.mem_cons.1 ha with rfl | ha
    · exact textOk_plain (fun c hc e => (hp c hc).1 e) (by show s.size ≤ _; omega)
    · cases ha) hval (by rw [hr]; rfl) (by rw [hr]; exact Nat.zero_le _)
  have e := readL_plain attrs n.data.toList s.data.toList hp (by omega)
  rw [bT_data, bT_data] at e
  rw [e] at h
  exact h
end Go.Proofs.YtnbnlehkljkabaaGreatDoor
