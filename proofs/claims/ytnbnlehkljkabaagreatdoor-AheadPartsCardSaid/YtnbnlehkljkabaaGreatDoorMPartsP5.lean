/-
  AheadParts: lines with a byte 10 behind each are the text, with one at its end; two texts of which the first one ends so have the lines of both; where the two texts have at most 1048576 bytes together; true is answered beyond. The row lists two tables of the library, tied to the program's text; no condition: every two texts that can be read.
-/
import Derived.Test.YtnbnlehkljkabaaGreatDoorCards
import Derived.Test.YtnbnlehkljkabaaGreatDoorTie
import Derived.Test.YtnbnlehkljkabaaGreatDoorU32
import Derived.Test.YtnbnlehkljkabaaGreatDoorU10
import Derived.Test.YtnbnlehkljkabaaGreatDoorU4
import Derived.Test.YtnbnlehkljkabaaGreatDoorWitness
import Derived.Laws.AppendOwnNone
namespace Go.Proofs.YtnbnlehkljkabaaGreatDoor.aPartsLaw
open Go.ChangeShapes Go.WideShapes Go.ChangeAt Go.RowKit Go.Maps
set_option maxRecDepth 100000

set_option maxHeartbeats 1000000 in
theorem lines_c2 (s : ByteArray) (w : World) (hs : s.size ≤ 2000000) : Calls Tryz.prog 23 #[.string s] w fun e w' =>
    ∃ a, e = .returned a ∧ w'.ownsRow w.heap.size 9 1 a (linesL s.data.toList).length ((linesL s.data.toList).map strV) ∧ Below w.heap.size w w' := by
  have c := split_nl s w (by omega)
  have h1 : 1 ≤ nlB.size := Nat.le_refl _
  have hlen := Lib.splitB_all nlB h1 0 _ s rfl
  have hle := Lib.countB_le nlB h1 s.size s (Nat.le_refl _)
  have hmap := split_lparts s
  have hL := lines_split s.data.toList
  rw [← hmap] at hL
  rw [← hlen] at c
  generalize Lib.splitB nlB 0 (Lib.countB s nlB) s = P at c hlen hL
  clear hmap
  obtain ⟨k, hk⟩ : ∃ k, Lib.countB s nlB = k := ⟨_, rfl⟩
  rw [hk] at hlen hle
  clear hk
  obtain ⟨q, hq⟩ : ∃ q, P[k]? = some q := ⟨P[k]'(by omega), List.getElem?_eq_getElem (by omega)⟩
  have hlast : P.getLast? = some q := by rw [List.getLast?_eq_getElem?, hlen]; simpa using hq
  have hrow : ∀ n, n ≤ P.length → ∀ l : List (List UInt8), l = (P.take n).map (·.data.toList) → l.length = n ∧ (w.alloc (.cells (P.map Value.string).toArray 9)).ownsRow w.heap.size 9 1 (.slice (some ⟨w.heap.size, 0, none⟩) n P.length) n (l.map strV) := by
    intro n hn l hl
    refine ⟨by rw [hl]; simp; omega, by rw [hl]; simp; omega, .inr ⟨w.heap.size, P.length, (P.map Value.string).toArray, rfl, Nat.le_refl _, heap_alloc_new w _, hn, by unfold maxLen; omega, by simp, ?_⟩⟩
    rw [hl]
    simp only [Nat.mul_one, List.map_take, List.map_map]
    congr 1
  have HR := Lib.hid hrow
  have cl : (w.alloc (.cells (P.map Value.string).toArray 9)).cell? ⟨w.heap.size, k, none⟩ = some (.string q) := by
    rw [World.cell?_alloc_new]; simp [hq]
  have e1 : IntKind.i64.wrap (((k + 1 : Nat) : Int) - 1) = (k : Int) := by rw [IntKind.wrap_i64]; omega
  have HL := Lib.hid hL
  have HX := Lib.hid hlast
  have HP := Lib.hid hlen
  rw [hlen] at c
  clear hrow hL hlast hlen hq
  unfold nlB at c
  by_cases h0 : q.data.toList = []
  · have hq1 : (q.toList == []) = true := by rw [Lib.toList_data, h0]; rfl
    have hq2 : q.toList = [] := by rw [Lib.toList_data, h0]
    have HN : Hid (linesL s.data.toList = (P.take k).map (·.data.toList)) := Lib.hid (by
      rw [HL.out]; unfold dropE
      rw [List.getLast?_map, HX.out, Option.map_some, h0, if_pos rfl, List.dropLast_eq_take, List.map_take, List.length_map, HP.out, Nat.add_sub_cancel])
    clear h0
    go_enter Tryz.func23, Tryz.ntmps23
    go_wp2_with (go_at_call 98; refine c.mono ?_; rintro e w' ⟨rfl, rfl⟩)
    go_ret
    obtain ⟨r1, r2⟩ := HR.out k (by have := HP.out; omega) _ HN.out
    rw [HP.out] at r2
    exact ⟨_, rfl, by rw [r1]; exact r2, laidNew _ _⟩
  · have hq1 : (q.toList == []) = false := by rw [Lib.toList_data]; simpa using h0
    have HN : Hid (linesL s.data.toList = (P.take (k + 1)).map (·.data.toList)) := Lib.hid (by
      rw [HL.out]; unfold dropE
      rw [List.getLast?_map, HX.out, Option.map_some, if_neg (by simpa using h0), List.take_of_length_le (by have := HP.out; omega)])
    clear h0
    go_enter Tryz.func23, Tryz.ntmps23
    go_wp2_with (go_at_call 98; refine c.mono ?_; rintro e w' ⟨rfl, rfl⟩)
    go_ret
    obtain ⟨r1, r2⟩ := HR.out (k + 1) (by have := HP.out; omega) _ HN.out
    rw [HP.out] at r2
    exact ⟨_, rfl, by rw [r1]; exact r2, laidNew _ _⟩
theorem strInfo5 : (Tryz.prog.info? 9).map (fun i => (i.zero, i.size, i.bytes)) = some (some (.string ⟨#[]⟩), 1, 16) := by kernel_rfl
/-- texts behind texts -/
theorem wpList_append_row {w : World} {ops : Array Oper} {rest : List Oper} {o : Oper} {a : Act} {Q : Exit → Act → World → Prop} (hgd : o.guard = none) (s x : Operand)
    (ho : o.op = .call { callee := .builtin .append, args := #[s, x], argTypes := #[25, 25] }) (base B2 n m : Nat) (v vx : Value) (xs ys : List Value)
    (hs : a.eval s = v) (hown : w.ownsRow base 9 1 v n xs) (hx : a.eval x = vx) (hsrc : w.ownsRow B2 9 1 vx m ys) (h1 : ∀ u ∈ ys, u.oneCell' = true) (hn : n + m ≤ 4000000) (hbase : base ≤ w.heap.size)
    (h : ∀ v' w', w'.ownsRow base 9 1 v' (n + m) (xs ++ ys) → w.grownBy w' v.ownBlock → wpList Tryz.prog ops Q rest (a.put o.dst v') w') : wpList Tryz.prog ops Q (o :: rest) a w := by
  obtain ⟨i0, hi, hz0, hz1, hz2⟩ := info_parts strInfo5
  rcases hsrc.2 with ⟨rfl, h0⟩ | ⟨g, cap, cur, rfl, -⟩
  · have hy : ys = [] := List.eq_nil_of_length_eq_zero (by rw [hsrc.1, h0])
    subst hy; subst h0
    refine wpList_append_own_none hgd s x 25 ho base 9 i0 1 Tryz.underlying25 hi v n xs hs hown hx ?_
    exact h v w (by rw [List.append_nil]; exact hown) (World.grownBy.refl _ _)
  · refine wpList_append_own w hgd s x 25 ho base 9 i0 (.string ⟨#[]⟩) 1 16 Tryz.underlying25 hi hz0 hz1 hz2 rfl (by decide) v n xs hs hown ⟨g, 0, none⟩ m cap ys hx (by rw [hsrc.1]) (fun j u hu => ?_) h1 (by unfold maxLen; omega) (by omega) hbase (fun v' w' r1 r2 _ => h v' w' r1 r2)
    have e2 : (⟨g, 0, none⟩ : Addr).add j = ⟨g, j, none⟩ := by by_cases hj0 : j = 0 <;> simp [Addr.add, hj0]
    rw [e2]
    exact row_cell hsrc j u hu
theorem same_b {a b : ByteArray} (e : a.data.toList = b.data.toList) : a = b := by rw [← bT_data a, ← bT_data b, e]
theorem join_next (L : List (List UInt8)) (k : Nat) (h : k < L.length) : bT (joinL (L.take k)) ++ bT L[k] ++ ⟨#[10]⟩ = bT (joinL (L.take (k + 1))) := by
  rw [join_take L k h]
  apply same_b
  simp [ByteArray.data_append, bT]
theorem join_le (L : List (List UInt8)) (k : Nat) : (joinL (L.take k)).length ≤ (joinL L).length := by
  have e : joinL L = joinL (L.take k) ++ joinL (L.drop k) := by unfold joinL; rw [← List.flatMap_append, List.take_append_drop]
  rw [e, List.length_append]; omega
theorem str_cells (l : List (List UInt8)) : ∀ u ∈ l.map strV, u.oneCell' = true := by
  intro u hu
  obtain ⟨x, -, rfl⟩ := List.mem_map.1 hu
  rfl
theorem size_b (x : ByteArray) : x.data.toList.length = x.size := by simp
/-- a text of which the last byte is another one, or 10 -/
theorem last_at (s : ByteArray) (k : Nat) (h : s.size = k + 1) : s.data.toList.getLast? = some (s[k]'(by omega)) := by
  have hl := size_b s
  have e : s.data.toList.length - 1 = k := by omega
  rw [List.getLast?_eq_getElem?, e, List.getElem?_eq_getElem (by omega)]; rfl
theorem row_texts2 {w : World} {B n : Nat} {v : Value} {l : List (List UInt8)} (h : w.ownsRow B 9 1 v n (l.map strV)) (hn : n = l.length) (hl : l.length ≤ 9000000) : ∃ p c, v = .slice p n c ∧ ∀ w', Below w.heap.size w w' → Texts w' v l := by
  obtain ⟨p, c, rfl⟩ := row_slice h
  refine ⟨p, c, rfl, fun w' hb => ?_⟩
  subst hn
  refine ⟨p, c, rfl, by omega, fun h0 => ?_⟩
  obtain ⟨g, c', hv, -, hc⟩ := row_all h h0
  simp only [Value.slice.injEq] at hv
  obtain ⟨rfl, -, -⟩ := hv
  exact ⟨g, rfl, fun j hj => hc w' hb j _ (by rw [List.getElem?_map, List.getElem?_eq_getElem hj]; rfl)⟩

set_option maxHeartbeats 8000000 in
theorem walk (s : ByteArray) (_hs : s.size ≤ maxLen) (hr : s.size ≤ 140737488351232) (t : ByteArray) (_ht : t.size ≤ maxLen) (hrt : t.size ≤ 140737488351232) (w : World) :
    Calls Tryz.prog 6 #[.string s, .string t] w fun e w' => e = .returned (.bool true) ∧ Below w.heap.size w w' := by
  go_enter Tryz.func6, Tryz.ntmps6
  go_wp2_with fail
  refine (alive_m w).mono ?_
  rintro e w1 ⟨rfl, hb1⟩
  go_wp2_with fail
  obtain ⟨w2, hw2⟩ : ∃ w2, w1.alloc (.cells #[.int .i64 (s.size : Int), .int .i64 (t.size : Int)] 3) = w2 := ⟨_, rfl⟩
  have hc0 : w2.cell? ⟨w1.heap.size, 0, none⟩ = some (.int .i64 (s.size : Int)) := by rw [← hw2, World.cell?_alloc_new]; rfl
  have hc1 : w2.cell? ⟨w1.heap.size, 1, none⟩ = some (.int .i64 (t.size : Int)) := by rw [← hw2, World.cell?_alloc_new]; rfl
  have hb2 : Below w.heap.size w w2 := by rw [← hw2]; exact behind hb1 (laidNew _ _)
  rw [hw2]
  refine (beyond2 _ (s.size : Int) (t.size : Int) w2 hc0 hc1 (by omega) (by omega)).mono ?_
  rintro e w' ⟨rfl, rfl⟩
  clear hw2 hc0 hc1 hb1
  by_cases h3 : s.size + t.size ≤ 1048576
  · obtain ⟨L, hL⟩ : ∃ L, linesL s.data.toList = L := ⟨_, rfl⟩
    obtain ⟨R, hR⟩ : ∃ R, linesL t.data.toList = R := ⟨_, rfl⟩
    have hLl : L.length ≤ 1048577 := by
      have := lines_len [] s.data.toList
      have e := size_b s
      rw [← hL]; unfold linesL; omega
    have hRl : R.length ≤ 1048577 := by
      have := lines_len [] t.data.toList
      have e := size_b t
      rw [← hR]; unfold linesL; omega
    have HLS := Lib.hid hL
    have HRS := Lib.hid hR
    have hj := join_text s.data.toList
    rw [hL] at hj
    have HJ := Lib.hid hj
    have H1 := fun w => lines_c2 s w (by omega)
    have H2 := fun w => lines_c2 t w (by omega)
    rw [hL] at H1
    rw [hR] at H2
    clear hL hR hj
    go_wp2_with fail
    refine (H1 w2).mono ?_
    rintro e w3 ⟨a, rfl, hA, hb3⟩
    obtain ⟨p, cp, rfl, hTA⟩ := row_texts2 hA rfl (by omega)
    have hb3 := behind hb2 hb3
    have HA := Lib.hid hA
    have HTA := Lib.hid hTA
    have hcell : ∀ k (h : k < L.length), ∃ g, p = some ⟨g, 0, none⟩ ∧ w3.cell? ⟨g, k, none⟩ = some (.string (bT L[k])) := fun k h => by
      obtain ⟨g, c', hv, -, hc⟩ := row_all hA (by omega)
      simp only [Value.slice.injEq] at hv
      exact ⟨g, hv.1, hc w3 (Below.refl _ _) k _ (by rw [List.getElem?_map, List.getElem?_eq_getElem h]; rfl)⟩
    have HC := Lib.hid hcell
    clear hA hTA hcell H1
    have hq0 : ¬ 9223372036854775807 < s.size + t.size := by omega
    by_cases h5 : s.size ≤ 5000
    · have hjl : (joinL L).length ≤ 5001 := by
        rw [HJ.out]
        have e := size_b s
        split
        · omega
        · rw [List.length_append, List.length_singleton]; omega
      have HJL := Lib.hid hjl
      clear hjl
      go_wp2
      go_loop [6, 7] (fun av iv => ∃ k : Nat, k ≤ L.length ∧ iv = .int .i64 (k : Int) ∧ av = .string (bT (joinL (L.take k)))) (fun _ iv => L.length - (intOf iv).toNat)
      case atStart => exact ⟨0, by omega, rfl, rfl⟩
      case round =>
        obtain ⟨k, hk, rfl, rfl⟩ := hrel
        by_cases hlt : k < L.length
        · obtain ⟨g, rfl, c1⟩ := HC.out k hlt
          have HNX := Lib.hid (join_next L k hlt)
          have hz1 := join_le L k
          have hz2 := join_le L (k + 1)
          have HJT := Lib.hid (join_take L k hlt)
          obtain ⟨ab, hab⟩ : ∃ ab, bT (joinL (L.take k)) = ab := ⟨_, rfl⟩
          obtain ⟨lb, hlb⟩ : ∃ lb, bT L[k] = lb := ⟨_, rfl⟩
          have hs1 : ab.size + lb.size ≤ 5001 := by
            have h1 := HJL.out
            have h2 := HJT.out
            rw [h2, List.length_append, List.length_append] at hz2
            rw [← hab, ← hlb, bT_size, bT_size]; omega
          rw [hab, hlb] at HNX
          rw [hlb] at c1
          rw [hab]
          have hi1 : (0 : Int) ≤ (k : Int) := by omega
          have hi2 : (k : Int) < (L.length : Int) := by omega
          have hs2 : ¬ 9223372036854775807 < ab.size + lb.size := by omega
          have hs3 : ¬ 9223372036854775807 < ab.size + lb.size + 1 := by omega
          clear hab hlb hz1 hz2 hs1
          go_wp2
          refine ⟨⟨k + 1, by omega, by go_num, ?_⟩, by simp [intOf]; omega⟩
          rw [← HNX.out]
        · have htk : L.take k = L := List.take_of_length_le (by omega)
          rw [htk]
          clear htk
          by_cases hs0 : s.size = 0
          · have hse : s = ⟨#[]⟩ := by
              have e : s.data.toList = [] := List.eq_nil_of_length_eq_zero (by rw [size_b]; exact hs0)
              rw [← bT_data s, e]; rfl
            have hal : bT (joinL L) = s := by rw [HJ.out, if_pos (.inl (by rw [hse])), bT_data]
            rw [hal]
            clear hal
            have hsi : (s.size : Int) = 0 := by omega
            have hsl : s.toList = [] := by rw [hse, Go.ByteArray.toList_eq]
            have HN0 : Hid (w3.ownsRow w3.heap.size 9 1 (.slice none 0 0) 0 []) := Lib.hid ⟨rfl, .inl ⟨rfl, rfl⟩⟩
            go_wp2_with (at_builtin; refine wpList_append_row rfl _ _ rfl w3.heap.size w2.heap.size 0 L.length (.slice none 0 0) _ [] (L.map strV) rfl HN0.out rfl HA.out (str_cells L) (by omega) (Nat.le_refl _) ?_; intro v4 w4 r4 g4)
            have hb4 : Below w3.heap.size w3 w4 := (Below.refl _ _).grown g4 (Nat.le_refl _) (fun k e => by cases e)
            rw [List.nil_append, Nat.zero_add] at r4
            have hz4 := hb4.size
            refine (H2 w4).mono ?_
            rintro e w5 ⟨b5, rfl, hB5, hb5⟩
            have HB5 := Lib.hid hB5
            have r5 : w5.ownsRow w3.heap.size 9 1 v4 L.length (L.map strV) := keep_row r4 (fun g hg => hb5.block g (r4.lt g hg).2)
            have HR5 := Lib.hid r5
            have hz5 := hb5.size
            clear hB5 r4 r5 g4
            go_wp2_with (at_builtin; refine wpList_append_row rfl _ _ rfl w3.heap.size w4.heap.size L.length R.length _ _ (L.map strV) (R.map strV) rfl HR5.out rfl HB5.out (str_cells R) (by omega) (by omega) ?_; intro v6 w6 r6 g6)
            have hb6 : Below w3.heap.size w3 w6 := (behind hb4 hb5).grown g6 (by omega) (fun k e => (HR5.out.lt k e).1)
            rw [← List.map_append] at r6
            obtain ⟨p6, c6, rfl, hT6⟩ := row_texts2 r6 (by simp) (by simp; omega)
            have HT6 := Lib.hid hT6
            have hb7 := behind hb3 hb6
            clear r6 g6 hT6
            go_wp2
            go_ret
            exact ⟨rfl, hb7⟩
          · obtain ⟨k0, hk0⟩ : ∃ k0, s.size = k0 + 1 := ⟨s.size - 1, by omega⟩
            have hkl : k0 < s.size := by omega
            have hla := last_at s k0 hk0
            have hw0 : IntKind.i64.wrap ((s.size : Int) - 1) = (k0 : Int) := by rw [IntKind.wrap_i64]; omega
            have hki : (k0 : Int) < (s.size : Int) := by omega
            have hsi : ¬ (s.size : Int) = 0 := by omega
            have hsj : (0 : Int) < (s.size : Int) := by omega
            have hsn : s.toList.isEmpty = false := by
              rw [Go.ByteArray.toList_eq, List.isEmpty_eq_false_iff]
              intro e
              have := size_b s
              rw [e] at this
              exact hs0 (by rw [← this]; rfl)
            obtain ⟨c0, hc0⟩ : ∃ c0, s[k0] = c0 := ⟨_, rfl⟩
            rw [hc0] at hla
            by_cases h10 : c0 = 10
            · have f1 : ((c0.toNat : Int) == 10) = true := by rw [h10]; rfl
              rw [h10] at hla
              have HBO := Lib.hid (show linesL (s ++ t).data.toList = linesL s.data.toList ++ linesL t.data.toList by
                rw [show (s ++ t).data.toList = s.data.toList ++ t.data.toList by simp]; exact lines_both hla)
              have hal : bT (joinL L) = s := by rw [HJ.out, if_pos (.inr hla), bT_data]
              rw [hal]
              clear hal
              clear hla h10
              have HN0 : Hid (w3.ownsRow w3.heap.size 9 1 (.slice none 0 0) 0 []) := Lib.hid ⟨rfl, .inl ⟨rfl, rfl⟩⟩
              go_wp2_with (at_builtin; refine wpList_append_row rfl _ _ rfl w3.heap.size w2.heap.size 0 L.length (.slice none 0 0) _ [] (L.map strV) rfl HN0.out rfl HA.out (str_cells L) (by omega) (Nat.le_refl _) ?_; intro v4 w4 r4 g4)
              have hb4 : Below w3.heap.size w3 w4 := (Below.refl _ _).grown g4 (Nat.le_refl _) (fun k e => by cases e)
              rw [List.nil_append, Nat.zero_add] at r4
              have hz4 := hb4.size
              refine (H2 w4).mono ?_
              rintro e w5 ⟨b5, rfl, hB5, hb5⟩
              have HB5 := Lib.hid hB5
              have r5 : w5.ownsRow w3.heap.size 9 1 v4 L.length (L.map strV) := keep_row r4 (fun g hg => hb5.block g (r4.lt g hg).2)
              have HR5 := Lib.hid r5
              have hz5 := hb5.size
              clear hB5 r4 r5 g4
              go_wp2_with (at_builtin; refine wpList_append_row rfl _ _ rfl w3.heap.size w4.heap.size L.length R.length _ _ (L.map strV) (R.map strV) rfl HR5.out rfl HB5.out (str_cells R) (by omega) (by omega) ?_; intro v6 w6 r6 g6)
              have hb6 : Below w3.heap.size w3 w6 := (behind hb4 hb5).grown g6 (by omega) (fun k e => (HR5.out.lt k e).1)
              rw [← List.map_append] at r6
              obtain ⟨p6, c6, rfl, hT6⟩ := row_texts2 r6 (by simp) (by simp; omega)
              have HT6 := Lib.hid hT6
              have hb7 := behind hb3 hb6
              clear r6 g6 hT6
              have H3 := lines_c2 (s ++ t) w6 (by rw [ByteArray.size_append]; omega)
              rw [show linesL (s ++ t).data.toList = L ++ R by rw [← HLS.out, ← HRS.out]; exact HBO.out] at H3
              go_wp2_with fail
              refine H3.mono ?_
              rintro e w8 ⟨v8, rfl, hR8, hb8⟩
              obtain ⟨p8, c8, rfl, hT8⟩ := row_texts2 hR8 rfl (by simp; omega)
              have HS := sameTexts_any _ _ _ _ w8 (hT8 w8 (Below.refl _ _)) (HT6.out w8 hb8)
              have hb9 := behind hb7 hb8
              clear hT8 hR8 H3
              have hlen : (L ++ R).length = L.length + R.length := List.length_append
              rw [hlen] at HS
              go_wp2_with fail
              refine HS.mono ?_
              rintro e w10 ⟨rfl, q10, hw10⟩
              have hb10 : Below w.heap.size w w10 := by rw [hw10]; exact below_drewN hb9 q10
              clear hw10 HS
              go_wp2
              go_ret
              exact ⟨rfl, hb10⟩
            · have f1 : ((c0.toNat : Int) == 10) = false := by
                rw [Bool.eq_false_iff]; intro e
                have := beq_iff_eq.1 e
                exact h10 (UInt8.toNat_inj.1 (by show c0.toNat = 10; omega))
              have hne : s.data.toList.getLast? ≠ some 10 := fun e => h10 (by rw [hla] at e; exact Option.some.inj e)
              have hnn : s.data.toList ≠ [] := fun e => hs0 (by rw [← size_b s, e]; rfl)
              have HAP := Lib.hid (show linesL (s ++ ⟨#[10]⟩ ++ t).data.toList = linesL s.data.toList ++ linesL t.data.toList by
                rw [show (s ++ ⟨#[10]⟩ ++ t).data.toList = s.data.toList ++ 10 :: t.data.toList by simp [ByteArray.data_append]]; exact lines_apart hnn hne)
              have hal : bT (joinL L) = s ++ ⟨#[10]⟩ := by
                apply same_b
                rw [HJ.out, if_neg (by rintro (e | e); exact hnn e; exact hne e)]
                simp [ByteArray.data_append, bT]
              have hdf : ((s ++ ⟨#[10]⟩).toList == s.toList) = false := by
                rw [Bool.eq_false_iff]; intro e
                have h1 := beq_iff_eq.1 e
                rw [Go.ByteArray.toList_eq, Go.ByteArray.toList_eq] at h1
                have h2 := congrArg List.length h1
                rw [size_b, size_b, ByteArray.size_append] at h2
                have h3 : (⟨#[10]⟩ : ByteArray).size = 1 := rfl
                omega
              have hdd : ((s ++ ⟨#[10]⟩).toList == (s ++ ⟨#[10]⟩).toList) = true := by simp
              rw [hal]
              clear hal
              clear hla h10 hne hnn
              have hq1 : ¬ 9223372036854775807 < s.size + 1 := by omega
              have hq2 : ¬ 9223372036854775807 < s.size + 1 + t.size := by omega
              have HN0 : Hid (w3.ownsRow w3.heap.size 9 1 (.slice none 0 0) 0 []) := Lib.hid ⟨rfl, .inl ⟨rfl, rfl⟩⟩
              go_wp2_with (at_builtin; refine wpList_append_row rfl _ _ rfl w3.heap.size w2.heap.size 0 L.length (.slice none 0 0) _ [] (L.map strV) rfl HN0.out rfl HA.out (str_cells L) (by omega) (Nat.le_refl _) ?_; intro v4 w4 r4 g4)
              have hb4 : Below w3.heap.size w3 w4 := (Below.refl _ _).grown g4 (Nat.le_refl _) (fun k e => by cases e)
              rw [List.nil_append, Nat.zero_add] at r4
              have hz4 := hb4.size
              refine (H2 w4).mono ?_
              rintro e w5 ⟨b5, rfl, hB5, hb5⟩
              have HB5 := Lib.hid hB5
              have r5 : w5.ownsRow w3.heap.size 9 1 v4 L.length (L.map strV) := keep_row r4 (fun g hg => hb5.block g (r4.lt g hg).2)
              have HR5 := Lib.hid r5
              have hz5 := hb5.size
              clear hB5 r4 r5 g4
              go_wp2_with (at_builtin; refine wpList_append_row rfl _ _ rfl w3.heap.size w4.heap.size L.length R.length _ _ (L.map strV) (R.map strV) rfl HR5.out rfl HB5.out (str_cells R) (by omega) (by omega) ?_; intro v6 w6 r6 g6)
              have hb6 : Below w3.heap.size w3 w6 := (behind hb4 hb5).grown g6 (by omega) (fun k e => (HR5.out.lt k e).1)
              rw [← List.map_append] at r6
              obtain ⟨p6, c6, rfl, hT6⟩ := row_texts2 r6 (by simp) (by simp; omega)
              have HT6 := Lib.hid hT6
              have hb7 := behind hb3 hb6
              clear r6 g6 hT6
              have H3 := lines_c2 (s ++ ⟨#[10]⟩ ++ t) w6 (by rw [ByteArray.size_append, ByteArray.size_append]; show s.size + 1 + t.size ≤ _; omega)
              rw [show linesL (s ++ ⟨#[10]⟩ ++ t).data.toList = L ++ R by rw [← HLS.out, ← HRS.out]; exact HAP.out] at H3
              go_wp2_with fail
              refine H3.mono ?_
              rintro e w8 ⟨v8, rfl, hR8, hb8⟩
              obtain ⟨p8, c8, rfl, hT8⟩ := row_texts2 hR8 rfl (by simp; omega)
              have HS := sameTexts_any _ _ _ _ w8 (hT8 w8 (Below.refl _ _)) (HT6.out w8 hb8)
              have hb9 := behind hb7 hb8
              clear hT8 hR8 H3
              have hlen : (L ++ R).length = L.length + R.length := List.length_append
              rw [hlen] at HS
              go_wp2_with fail
              refine HS.mono ?_
              rintro e w10 ⟨rfl, q10, hw10⟩
              have hb10 : Below w.heap.size w w10 := by rw [hw10]; exact below_drewN hb9 q10
              clear hw10 HS
              go_wp2
              go_ret
              exact ⟨rfl, hb10⟩
    · have h5i : ¬ ((s.size : Int) ≤ 5000) := by omega
      by_cases hs0 : s.size = 0
      · omega
      · obtain ⟨k0, hk0⟩ : ∃ k0, s.size = k0 + 1 := ⟨s.size - 1, by omega⟩
        have hkl : k0 < s.size := by omega
        have hla := last_at s k0 hk0
        have hw0 : IntKind.i64.wrap ((s.size : Int) - 1) = (k0 : Int) := by rw [IntKind.wrap_i64]; omega
        have hki : (k0 : Int) < (s.size : Int) := by omega
        have hsi : ¬ (s.size : Int) = 0 := by omega
        have hsj : (0 : Int) < (s.size : Int) := by omega
        have hsn : s.toList.isEmpty = false := by
          rw [Go.ByteArray.toList_eq, List.isEmpty_eq_false_iff]
          intro e
          have := size_b s
          rw [e] at this
          exact hs0 (by rw [← this]; rfl)
        obtain ⟨c0, hc0⟩ : ∃ c0, s[k0] = c0 := ⟨_, rfl⟩
        rw [hc0] at hla
        by_cases h10 : c0 = 10
        · have f1 : ((c0.toNat : Int) == 10) = true := by rw [h10]; rfl
          rw [h10] at hla
          have HBO := Lib.hid (show linesL (s ++ t).data.toList = linesL s.data.toList ++ linesL t.data.toList by
            rw [show (s ++ t).data.toList = s.data.toList ++ t.data.toList by simp]; exact lines_both hla)
          clear hla h10
          have HN0 : Hid (w3.ownsRow w3.heap.size 9 1 (.slice none 0 0) 0 []) := Lib.hid ⟨rfl, .inl ⟨rfl, rfl⟩⟩
          go_wp2_with (at_builtin; refine wpList_append_row rfl _ _ rfl w3.heap.size w2.heap.size 0 L.length (.slice none 0 0) _ [] (L.map strV) rfl HN0.out rfl HA.out (str_cells L) (by omega) (Nat.le_refl _) ?_; intro v4 w4 r4 g4)
          have hb4 : Below w3.heap.size w3 w4 := (Below.refl _ _).grown g4 (Nat.le_refl _) (fun k e => by cases e)
          rw [List.nil_append, Nat.zero_add] at r4
          have hz4 := hb4.size
          refine (H2 w4).mono ?_
          rintro e w5 ⟨b5, rfl, hB5, hb5⟩
          have HB5 := Lib.hid hB5
          have r5 : w5.ownsRow w3.heap.size 9 1 v4 L.length (L.map strV) := keep_row r4 (fun g hg => hb5.block g (r4.lt g hg).2)
          have HR5 := Lib.hid r5
          have hz5 := hb5.size
          clear hB5 r4 r5 g4
          go_wp2_with (at_builtin; refine wpList_append_row rfl _ _ rfl w3.heap.size w4.heap.size L.length R.length _ _ (L.map strV) (R.map strV) rfl HR5.out rfl HB5.out (str_cells R) (by omega) (by omega) ?_; intro v6 w6 r6 g6)
          have hb6 : Below w3.heap.size w3 w6 := (behind hb4 hb5).grown g6 (by omega) (fun k e => (HR5.out.lt k e).1)
          rw [← List.map_append] at r6
          obtain ⟨p6, c6, rfl, hT6⟩ := row_texts2 r6 (by simp) (by simp; omega)
          have HT6 := Lib.hid hT6
          have hb7 := behind hb3 hb6
          clear r6 g6 hT6
          have H3 := lines_c2 (s ++ t) w6 (by rw [ByteArray.size_append]; omega)
          rw [show linesL (s ++ t).data.toList = L ++ R by rw [← HLS.out, ← HRS.out]; exact HBO.out] at H3
          go_wp2_with fail
          refine H3.mono ?_
          rintro e w8 ⟨v8, rfl, hR8, hb8⟩
          obtain ⟨p8, c8, rfl, hT8⟩ := row_texts2 hR8 rfl (by simp; omega)
          have HS := sameTexts_any _ _ _ _ w8 (hT8 w8 (Below.refl _ _)) (HT6.out w8 hb8)
          have hb9 := behind hb7 hb8
          clear hT8 hR8 H3
          have hlen : (L ++ R).length = L.length + R.length := List.length_append
          rw [hlen] at HS
          go_wp2_with fail
          refine HS.mono ?_
          rintro e w10 ⟨rfl, q10, hw10⟩
          have hb10 : Below w.heap.size w w10 := by rw [hw10]; exact below_drewN hb9 q10
          clear hw10 HS
          go_wp2
          go_ret
          exact ⟨rfl, hb10⟩
        · have f1 : ((c0.toNat : Int) == 10) = false := by
            rw [Bool.eq_false_iff]; intro e
            have := beq_iff_eq.1 e
            exact h10 (UInt8.toNat_inj.1 (by show c0.toNat = 10; omega))
          have hne : s.data.toList.getLast? ≠ some 10 := fun e => h10 (by rw [hla] at e; exact Option.some.inj e)
          have hnn : s.data.toList ≠ [] := fun e => hs0 (by rw [← size_b s, e]; rfl)
          have HAP := Lib.hid (show linesL (s ++ ⟨#[10]⟩ ++ t).data.toList = linesL s.data.toList ++ linesL t.data.toList by
            rw [show (s ++ ⟨#[10]⟩ ++ t).data.toList = s.data.toList ++ 10 :: t.data.toList by simp [ByteArray.data_append]]; exact lines_apart hnn hne)
          clear hla h10 hne hnn
          have hq1 : ¬ 9223372036854775807 < s.size + 1 := by omega
          have hq2 : ¬ 9223372036854775807 < s.size + 1 + t.size := by omega
          have HN0 : Hid (w3.ownsRow w3.heap.size 9 1 (.slice none 0 0) 0 []) := Lib.hid ⟨rfl, .inl ⟨rfl, rfl⟩⟩
          go_wp2_with (at_builtin; refine wpList_append_row rfl _ _ rfl w3.heap.size w2.heap.size 0 L.length (.slice none 0 0) _ [] (L.map strV) rfl HN0.out rfl HA.out (str_cells L) (by omega) (Nat.le_refl _) ?_; intro v4 w4 r4 g4)
          have hb4 : Below w3.heap.size w3 w4 := (Below.refl _ _).grown g4 (Nat.le_refl _) (fun k e => by cases e)
          rw [List.nil_append, Nat.zero_add] at r4
          have hz4 := hb4.size
          refine (H2 w4).mono ?_
          rintro e w5 ⟨b5, rfl, hB5, hb5⟩
          have HB5 := Lib.hid hB5
          have r5 : w5.ownsRow w3.heap.size 9 1 v4 L.length (L.map strV) := keep_row r4 (fun g hg => hb5.block g (r4.lt g hg).2)
          have HR5 := Lib.hid r5
          have hz5 := hb5.size
          clear hB5 r4 r5 g4
          go_wp2_with (at_builtin; refine wpList_append_row rfl _ _ rfl w3.heap.size w4.heap.size L.length R.length _ _ (L.map strV) (R.map strV) rfl HR5.out rfl HB5.out (str_cells R) (by omega) (by omega) ?_; intro v6 w6 r6 g6)
          have hb6 : Below w3.heap.size w3 w6 := (behind hb4 hb5).grown g6 (by omega) (fun k e => (HR5.out.lt k e).1)
          rw [← List.map_append] at r6
          obtain ⟨p6, c6, rfl, hT6⟩ := row_texts2 r6 (by simp) (by simp; omega)
          have HT6 := Lib.hid hT6
          have hb7 := behind hb3 hb6
          clear r6 g6 hT6
          have H3 := lines_c2 (s ++ ⟨#[10]⟩ ++ t) w6 (by rw [ByteArray.size_append, ByteArray.size_append]; show s.size + 1 + t.size ≤ _; omega)
          rw [show linesL (s ++ ⟨#[10]⟩ ++ t).data.toList = L ++ R by rw [← HLS.out, ← HRS.out]; exact HAP.out] at H3
          go_wp2_with fail
          refine H3.mono ?_
          rintro e w8 ⟨v8, rfl, hR8, hb8⟩
          obtain ⟨p8, c8, rfl, hT8⟩ := row_texts2 hR8 rfl (by simp; omega)
          have HS := sameTexts_any _ _ _ _ w8 (hT8 w8 (Below.refl _ _)) (HT6.out w8 hb8)
          have hb9 := behind hb7 hb8
          clear hT8 hR8 H3
          have hlen : (L ++ R).length = L.length + R.length := List.length_append
          rw [hlen] at HS
          go_wp2_with fail
          refine HS.mono ?_
          rintro e w10 ⟨rfl, q10, hw10⟩
          have hb10 : Below w.heap.size w w10 := by rw [hw10]; exact below_drewN hb9 q10
          clear hw10 HS
          go_wp2
          go_ret
          exact ⟨rfl, hb10⟩
  · have h3' : ¬ ((s.size : Int) + (t.size : Int) ≤ 1048576) := by omega
    go_wp2_with fail
    refine (alive_m w2).mono ?_
    rintro e w3 ⟨rfl, hb3⟩
    go_wp2
    go_ret
    exact ⟨rfl, behind hb2 hb3⟩

theorem readable : ∀ t ∈ #[9, 9].toList, Tryz.prog.readableRec t = true ∧ t < Tryz.prog.types.size := by
  intro t ht
  have h : t ∈ ([9, 9] : List TypeId) := ht
  simp only [List.mem_cons, List.not_mem_nil, or_false] at h
  rcases h with rfl | rfl
  · exact ⟨by kernel_rfl, of_decide_eq_true (by kernel_rfl)⟩
  · exact ⟨by kernel_rfl, of_decide_eq_true (by kernel_rfl)⟩

theorem contract (H : Type) (enc : TypeId × Value → H) (W : World) (base : Nat) (args : Array Value) (ds gs : List (DataW H)) (before : List MemPlace)
    (hval : ∀ (j : Nat) t v, Tryz.f6.params[j]? = some t → args[j]? = some v → Value.okWide Tryz.prog W .any base t v)
    (hW : DataW.Whole enc Tryz.prog Tryz.f6.params.toList Rows.aheadPartsSpec.vars false W args.toList ds gs before)
    (hz : (DataW.weightsEach Tryz.prog (Tryz.f6.params.toList ++ (OpenSpec.ofChange Rows.aheadPartsSpec).bare.plain.varTypes Tryz.prog) (ds ++ gs)).all (· ≤ reachBytes) = true) :
    Calls Tryz.prog 6 args W fun e W' => ∃ v, e = .returned v ∧ Rows.aheadPartsSpec.post enc Tryz.prog Tryz.f6 false true false false W args v W' := by
  have hW' := hW
  obtain ⟨p, q, hA, hV, rfl, hfz, hnd⟩ := hW
  rw [Tryz.params6] at hA hval
  obtain ⟨v0, vs0, d0, ds0, p0, q0, hargs0, rfl, rfl, h0, r0⟩ := trodAll_cons hA
  obtain ⟨v1, vs1, d1, ds1, p1, q1, hargs1, rfl, rfl, h1, r1⟩ := trodAll_cons r0
  obtain ⟨rfl, rfl, rfl⟩ := trodAll_nil r1
  subst hargs1
  obtain rfl : args = #[v0, v1] := by cases args; simp_all
  obtain ⟨rfl, rfl⟩ := trodVars_none hV
  obtain ⟨s0, rfl, rfl, rfl, hs0⟩ := string_arg (hval 0 9 v0 rfl rfl) h0
  have hr0 := string_reach hz (j := 0) (s := s0) rfl rfl
  obtain ⟨s1, rfl, rfl, rfl, hs1⟩ := string_arg (hval 1 9 v1 rfl rfl) h1
  have hr1 := string_reach hz (j := 1) (s := s1) rfl rfl
  refine (walk s0 hs0 hr0 s1 hs1 hr1 W).mono fun e W' ⟨he, hb⟩ => ⟨_, he, law_post rfl rfl ?_ hW' rfl hb⟩
  rw [Tryz.params6]
  exact readable

theorem met (os : Os) : laidMet Tryz.prog Rows.aheadPartsRow.laid ((laidWorld os).forCall (fun _ _ => 0) ⟨#[], #[.string ⟨#[]⟩, .string ⟨#[]⟩], []⟩).memory :=
  laidMet_of_run' 8 (by kernel_rfl) (by kernel_rfl)
theorem reads (os : Os) {H : Type} (enc : TypeId × Value → H) : ∃ places, DataW.whole enc Tryz.prog ((laidWorld os).forCall (fun _ _ => 0) ⟨#[], #[.string ⟨#[]⟩, .string ⟨#[]⟩], []⟩).memory Tryz.f6.params.toList Rows.aheadPartsSpec.vars false (#[.string ⟨#[]⟩, .string ⟨#[]⟩] : Array Value).toList 8 = some ([.lit (.string []), .lit (.string [])], [], places) :=
  ⟨[], by kernel_rfl⟩

set_option maxRecDepth 100000 in
theorem lifted (os : Os) (started : os.Started) (H : Type) (enc : TypeId × Value → H) (F : Stop.Interp) :
    ReturnsInHanded {} Tryz.checked os 6 .any ((OpenSpec.ofChange Rows.aheadPartsSpec).preRow enc Tryz.prog Tryz.f6 Rows.aheadPartsRow.domain false Rows.aheadPartsRow.laid) (((OpenSpec.ofChange Rows.aheadPartsSpec).at F).post enc Tryz.prog Tryz.f6 false true false false) := by
  obtain ⟨places, hx⟩ := reads os enc
  refine returnsInHanded_of_row (C := Tryz.checked) (s := OpenSpec.ofChange Rows.aheadPartsSpec) own started (by kernel_rfl) Tryz.func6
    (witness_row_at (enc := enc) (C := Tryz.checked) false (laidWorld os) #[.string ⟨#[]⟩, .string ⟨#[]⟩] rfl (by kernel_rfl) (by kernel_rfl) (by kernel_rfl)
      (OpenSpec.preRow_of_cond 8 hx (by kernel_rfl) (fun k hk => by cases hk) (by kernel_rfl) (met os))) ?_
  intro W base args ds gs before hval hW _ _ hz _ _ _
  exact contract H enc W base args ds gs before hval hW hz

theorem said : Rows.AheadPartsSaid :=
  OpenClaim.holds_of_cond 6 Tryz.f6 rfl rfl rfl rfl rfl rfl rfl ⟨rfl, rfl, rfl, rfl, rfl⟩ rfl rfl rfl rfl rfl (by kernel_rfl) Tryz.func6 (by kernel_rfl)
    (of_decide_eq_true (by kernel_rfl)) (by unfold Func.isWrapper; first | (rw [if_pos (by decide +kernel)]; kernel_rfl) | (rw [if_neg (by decide +kernel)]; exact ⟨rfl, rfl⟩))
    (fun os started H enc _ F => by rw [OpenClaim.pre_eq_preRow]; exact lifted os started H enc F)

theorem plain (f : FuncId) (fn : Func) (hf : Tryz.pinned.checked.prog.funcNamed "bindery/binderylaw05.AheadParts" = some f) (hfn : Tryz.pinned.checked.prog.funcs[f]? = some fn) :
    true = Tryz.pinned.checked.prog.looks [] ∧ ∀ (j : Nat) t, fn.params[j]? = some t → Tryz.pinned.checked.prog.wantsStandIn t = false := by
  obtain rfl : f = 6 := Option.some.inj ((show Tryz.prog.funcNamed "bindery/binderylaw05.AheadParts" = some 6 by kernel_rfl).symm.trans hf) |>.symm
  obtain rfl : fn = Tryz.f6 := (Option.some.inj (Tryz.func6.symm.trans hfn)).symm
  refine ⟨by kernel_rfl, fun j t ht => ?_⟩
  rw [Tryz.params6] at ht
  have h : t ∈ ([9, 9] : List TypeId) := Array.mem_toList_iff.2 (Array.mem_of_getElem? ht)
  simp only [List.mem_cons, List.not_mem_nil, or_false] at h
  rcases h with rfl | rfl
  · exact (show Tryz.prog.wantsStandIn 9 = false by kernel_rfl)
  · exact (show Tryz.prog.wantsStandIn 9 = false by kernel_rfl)

theorem card : Rows.AheadPartsCardSaid :=
  Claim7.holds_tied_plain_at .later [] _ _ _ _ said (fun _ h => by cases h) (by kernel_rfl) (fun _ h => by cases h) aheadParts_row_tie rfl ⟨rfl, rfl⟩ (by kernel_rfl) rfl plain (by kernel_rfl)
end Go.Proofs.YtnbnlehkljkabaaGreatDoor.aPartsLaw
