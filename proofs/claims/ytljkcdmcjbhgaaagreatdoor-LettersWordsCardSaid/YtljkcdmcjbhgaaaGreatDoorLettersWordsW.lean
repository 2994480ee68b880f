import Derived.Test.YtljkcdmcjbhgaaaGreatDoorApartW
import Derived.Test.YtljkcdmcjbhgaaaGreatDoorRefWords
namespace Go.Proofs.YtljkcdmcjbhgaaaGreatDoor
open Go.RowKit
set_option maxRecDepth 100000

theorem textsOf_any (base K : Nat) (n : Int) (p : Option Addr) (m c : Nat) (xs : List Value) (lp : Option Addr) (ln lc : Nat) (w : World) (hn : 0 ≤ n ∧ n ≤ 1000) (hm : m ≤ 1000) (hB : BookIs w K n p m c) (hbase : base ≤ w.heap.size)
    (hown : w.ownsRow base 56 3 (.slice p m c) m xs) (hK : (Value.slice p m c).ownBlock ≠ some K) :
    Calls Tryz.prog 8 #[.pointer (some ⟨K, 0, none⟩), .slice lp ln lc] w fun e w' => e = .returned (.tuple #[]) ∧ ∃ (p' : Option Addr) (c' : Nat), BookIs w' K (n + 1) p' (m + 1) c' ∧
      w'.ownsRow base 56 3 (.slice p' (m + 1) c') (m + 1) (xs ++ [.slice lp ln lc, nilS, .int .i64 (n + 1)]) ∧ KeptBut (fun b => b = K ∨ (Value.slice p m c).ownBlock = some b) w w' := by
  go_enter Tryz.func8, Tryz.ntmps8
  go_wp2_with (go_at_call 12; refine (keepText_any base K n p m c xs lp ln lc _ hn hm hB hbase hown hK).mono ?_; rintro e w' ⟨rfl, p', c', h1, h2, h3⟩)
  go_end0
  exact ⟨rfl, p', c', h1, h2, h3⟩

theorem texts_row {w : World} {base c : Nat} {p : Option Addr} {l : List (List UInt8)} (h : w.ownsRow base 9 1 (.slice p l.length c) l.length (l.map strV)) (hl : l.length ≤ 9223372036854775807) : Texts w (.slice p l.length c) l := by
  refine ⟨p, c, rfl, hl, fun h0 => ?_⟩
  rcases h.2 with ⟨_, e0⟩ | ⟨g, cap, cur, hv, _⟩
  · omega
  · cases hv
    refine ⟨g, rfl, fun j hj => ?_⟩
    rw [h.cellAt j (by omega)]
    simp [hj]

theorem wordsGo_len : ∀ (l cur : List UInt8), (wordsGo cur l).length ≤ cur.length + l.length
  | [], cur => by
    unfold wordsGo
    split
    · simp
    · rename_i h
      have : 0 < cur.length := List.length_pos_iff.2 h
      simp; omega
  | b :: l, cur => by
    unfold wordsGo
    have h1 := wordsGo_len l []
    have h2 := wordsGo_len l (cur ++ [b])
    simp only [List.length_append, List.length_cons, List.length_nil] at h1 h2 ⊢
    split
    · split
      · omega
      · rename_i h
        have : 0 < cur.length := List.length_pos_iff.2 h
        simp only [List.length_cons]; omega
    · omega
theorem wordsL_len (s : ByteArray) : (wordsL s.data.toList).length ≤ s.size := by
  have := wordsGo_len s.data.toList []
  simpa [wordsL] using this

theorem book_new (w : World) : BookIs (w.alloc (.cells #[.int .i64 0, nilS, nilS, nilS, nilS, nilS, nilS, nilS, nilS, nilS, nilS, nilS, nilS, nilS, nilS, nilS, nilS, nilS] 44)) w.heap.size 0 none 0 0 := by
  show (w.heap.push _)[w.heap.size]? = _
  rw [Array.getElem?_push_size]

theorem own_slice {A n c g : Nat} (h : (Value.slice (some ⟨A, 0, none⟩) n c).ownBlock = some g) : g = A := by
  injection h with e; exact e.symm

set_option maxHeartbeats 2000000 in
theorem law_any (s : ByteArray) (w : World) (hr : s.size ≤ 140737488351232) :
    Calls Tryz.prog 3 #[.string s] w fun e w' => e = .returned (.bool true) ∧ Below w.heap.size w w' := by
  go_enter Tryz.func3, Tryz.ntmps3
  go_wp2_with fail
  refine (beyond1 _ (s.size : Int) _ (by simp) (by omega)).mono ?_
  rintro e w' ⟨rfl, rfl⟩
  by_cases hbig : (1048576 : Int) < s.size
  · rw [decide_eq_true hbig]
    go_wp2
    go_ret
    exact ⟨rfl, (Below.refl _ _).alloc (Nat.le_refl _) _⟩
  · rw [decide_eq_false hbig]
    have hl := wordsL_len s
    have hsz : s.size ≤ 1048576 := by omega
    obtain ⟨w0, hw0⟩ : ∃ w0, w.alloc (.cells #[.int .i64 s.size] 3) = w0 := ⟨_, rfl⟩
    have hb0 : Below w.heap.size w w0 := by rw [← hw0]; exact (Below.refl _ _).alloc (Nat.le_refl _) _
    rw [hw0]
    clear hw0
    go_wp2_with fail
    refine (words_any s w0 (by omega)).mono ?_
    rintro e w1 ⟨A1, rfl, hA1, hr1, hb1⟩
    go_wp2_with fail
    refine (words_any s w1 (by omega)).mono ?_
    rintro e w2 ⟨A2, rfl, hA2, hr2, hb2⟩
    go_wp2_with fail
    refine (refWords_any s w2 (by omega)).mono ?_
    rintro e w3 ⟨p3, c3, rfl, hr3, hb3⟩
    go_wp2_with fail
    have k2 : KeptBut (fun _ => False) w1 w2 := KeptBut.below hb2
    have k3 : KeptBut (fun _ => False) w2 w3 := KeptBut.below hb3
    have ra3 := (k2.trans k3).row hr1 (fun _ _ h => h)
    have rb3 := k3.row hr2 (fun _ _ h => h)
    refine (sameTexts_any _ _ _ _ _ (texts_row ra3 (by omega)) (texts_row hr3 (by omega))).mono ?_
    rintro e w4 ⟨rfl, q, rfl⟩
    rw [decide_eq_true rfl]
    obtain ⟨w4, hw4⟩ : ∃ w4, w3.drewN q = w4 := ⟨_, rfl⟩
    rw [hw4]
    go_wp2_with fail
    obtain ⟨K, hK⟩ : ∃ K, w4.heap.size = K := ⟨_, rfl⟩
    obtain ⟨w5, hw5⟩ : ∃ w5, w4.alloc (.cells #[.int .i64 0, nilS, nilS, nilS, nilS, nilS, nilS, nilS, nilS, nilS, nilS, nilS, nilS, nilS, nilS, nilS, nilS, nilS] 44) = w5 := ⟨_, rfl⟩
    have hB5 : BookIs w5 K 0 none 0 0 := by rw [← hw5, ← hK]; exact book_new w4
    have k5 : KeptBut (fun _ => False) w3 w5 := by rw [← hw5, ← hw4]; exact ((KeptBut.refl _ _).drewN q).alloc _
    have hK3 : w3.heap.size = K := by rw [← hK, ← hw4]; rfl
    rw [hK, hw5]
    clear hw5 hw4 hK
    have s0 := hb0.size
    have s1 := hb1.size
    have s2 := hb2.size
    have s3 := hb3.size
    have s5 := k5.size
    refine (textsOf_any w0.heap.size K 0 none 0 0 [] _ _ _ w5 (by omega) (by omega) hB5 (by omega) ⟨rfl, .inl ⟨rfl, rfl⟩⟩ (by simp [Value.ownBlock])).mono ?_
    rintro e w6 ⟨rfl, p6, c6, hB6, hT6, k6⟩
    obtain ⟨g6, cap6, e6⟩ := ownsRow_succ hT6
    cases e6
    go_wp2_with fail
    have hT6K : (Value.slice (some ⟨g6, 0, none⟩) 1 c6).ownBlock ≠ some K := book_not_row hB6 (by decide) hT6
    have s6 := k6.size
    refine (textsOf_any w0.heap.size K 1 (some ⟨g6, 0, none⟩) 1 c6 _ _ _ _ w6 (by omega) (by omega) hB6 (by omega) hT6 hT6K).mono ?_
    rintro e w7 ⟨rfl, p7, c7, hB7, hT7, k7⟩
    obtain ⟨g7, cap7, e7⟩ := ownsRow_succ hT7
    cases e7
    have s7 := k7.size
    go_wp2_with fail
    have a1 := (hr1.lt A1 rfl).2
    have a3 := (ra3.lt A1 rfl).2
    have b3 := (rb3.lt A2 rfl).2
    have ra5 := k5.row ra3 (fun _ _ h => h)
    have rb5 := k5.row rb3 (fun _ _ h => h)
    have ra6 := k6.row ra5 (fun g hg h => by have e := own_slice hg; rcases h with h | h; omega; cases h)
    have rb6 := k6.row rb5 (fun g hg h => by have e := own_slice hg; rcases h with h | h; omega; cases h)
    have ra7 := k7.row ra6 (fun g hg h => by have e := own_slice hg; rcases h with h | h; omega; exact row_not_row (by decide) ra6 hT6 g hg h)
    have rb7 := k7.row rb6 (fun g hg h => by have e := own_slice hg; rcases h with h | h; omega; exact row_not_row (by decide) rb6 hT6 g hg h)
    have told : Told w7 w0.heap.size K 2 g7 c7 [⟨some ⟨A1, 0, none⟩, (wordsL s.data.toList).length, (wordsL s.data.toList).length, 1⟩, ⟨some ⟨A2, 0, none⟩, (wordsL s.data.toList).length, (wordsL s.data.toList).length, 2⟩] (fun _ => (wordsL s.data.toList).map strV) := {
      book := hB7
      texts := hT7
      low := by omega
      nu := fun i hi => by
        match i, hi with
        | 0, _ => show (1 : Nat) < 100; decide
        | 1, _ => show (2 : Nat) < 100; decide
      len := by show (2 : Nat) ≤ 1000; decide
      n := fun i hi => by
        match i, hi with
        | 0, _ => show (wordsL s.data.toList).length ≤ 4294967296; omega
        | 1, _ => show (wordsL s.data.toList).length ≤ 4294967296; omega
      row := fun i hi => by
        match i, hi with
        | 0, _ => exact ra7
        | 1, _ => exact row_mono rb7 s1
      ne := fun i j hi hj hij g hg hg' => by
        match i, hi, j, hj with
        | 0, _, 0, _ => exact hij rfl
        | 1, _, 1, _ => exact hij rfl
        | 0, _, 1, _ => have e1 := own_slice hg; have e2 := own_slice hg'; omega
        | 1, _, 0, _ => have e1 := own_slice hg; have e2 := own_slice hg'; omega }
    refine (apart_any told).mono ?_
    rintro e w8 ⟨rfl, k8⟩
    have g6l := (hT6.lt g6 rfl).1
    have g7l := (hT7.lt g7 rfl).1
    have kAll : KeptBut (fun b => w.heap.size ≤ b) w w8 := by
      have c1 : KeptBut (fun b => w.heap.size ≤ b) w w5 := (KeptBut.below hb0).trans ((KeptBut.below hb1).trans ((k2.mono fun _ h => h.elim).trans ((k3.mono fun _ h => h.elim).trans (k5.mono fun _ h => h.elim))))
      have c2 : KeptBut (fun b => w.heap.size ≤ b) w5 w6 := k6.mono fun b h => by
        rcases h with h | h
        · omega
        · cases h
      have c3 : KeptBut (fun b => w.heap.size ≤ b) w6 w7 := k7.mono fun b h => by
        rcases h with h | h
        · omega
        · have e := own_slice h; omega
      have c4 : KeptBut (fun b => w.heap.size ≤ b) w7 w8 := k8.mono fun b h => by
        rcases h with h | ⟨i, hi, h⟩
        · omega
        · match i, hi with
          | 0, _ => have e := own_slice h; omega
          | 1, _ => have e := own_slice h; omega
      exact c1.trans (c2.trans (c3.trans c4))
    go_wp2
    go_ret
    exact ⟨rfl, kAll.toBelow (Nat.le_refl _) (fun _ h => h)⟩
end Go.Proofs.YtljkcdmcjbhgaaaGreatDoor
