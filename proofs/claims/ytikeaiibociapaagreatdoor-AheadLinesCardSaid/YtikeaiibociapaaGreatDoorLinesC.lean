import Derived.Test.YtikeaiibociapaaGreatDoorSplit
import Derived.Test.YtikeaiibociapaaGreatDoorLinesL
import Derived.Test.YtikeaiibociapaaGreatDoorSameT
namespace Go.Proofs.YtikeaiibociapaaGreatDoor
open Go.RowKit

/-- the lparts of a text between its bytes 10 -/
def lparts : List UInt8 → List (List UInt8)
  | [] => [[]]
  | c :: l => if c = 10 then [] :: lparts l else (c :: (lparts l).headD []) :: (lparts l).tail

theorem lparts_nl (c : UInt8) (l : List UInt8) (h : c = 10) : lparts (c :: l) = [] :: lparts l := by rw [lparts, if_pos h]
theorem lparts_other (c : UInt8) (l : List UInt8) (h : ¬ c = 10) : lparts (c :: l) = (c :: (lparts l).headD []) :: (lparts l).tail := by rw [lparts, if_neg h]
theorem lparts_ne (l : List UInt8) : lparts l ≠ [] := by
  cases l with
  | nil => simp [lparts]
  | cons c l => unfold lparts; split <;> simp

theorem lparts_plain (l : List UInt8) (h : 10 ∉ l) : lparts l = [l] := by
  induction l with
  | nil => rfl
  | cons c l ih =>
    have h1 : ¬ c = 10 := fun e => h (by simp [e])
    have h2 := ih (fun hm => h (by simp [hm]))
    unfold lparts
    rw [if_neg h1, h2]; rfl

theorem lparts_cut (a b : List UInt8) : lparts (a ++ 10 :: b) = lparts a ++ lparts b := by
  induction a with
  | nil => simp [lparts]
  | cons c a ih =>
    rw [List.cons_append]
    by_cases h : c = 10
    · rw [lparts_nl _ _ h, lparts_nl _ _ h, ih, List.cons_append]
    · rw [lparts_other _ _ h, lparts_other _ _ h, ih]
      cases hp : lparts a with
      | nil => exact absurd hp (lparts_ne a)
      | cons p ps => rfl

theorem lparts_first (a b : List UInt8) (h : 10 ∉ a) : lparts (a ++ 10 :: b) = a :: lparts b := by rw [lparts_cut, lparts_plain a h]; rfl

theorem indexByte_nl (l : List UInt8) : (10 ∉ l ∧ Lib.indexByte l 10 = -1) ∨ ∃ a b : List UInt8, l = a ++ 10 :: b ∧ 10 ∉ a ∧ Lib.indexByte l 10 = (a.length : Int) := by
  induction l with
  | nil => left; simp [Lib.indexByte]
  | cons c l ih =>
    by_cases h : c = 10
    · right; exact ⟨[], l, by simp [h], by simp, by simp [Lib.indexByte, h]⟩
    · rcases ih with ⟨h1, h2⟩ | ⟨a, b, h1, h2, h3⟩
      · left
        refine ⟨by simp [h1]; exact fun e => h e.symm, ?_⟩
        simp [Lib.indexByte, h, h2]
      · right
        refine ⟨c :: a, b, by simp [h1], by simp [h2]; exact fun e => h e.symm, ?_⟩
        have hne : ¬ ((a.length : Int) = -1) := by omega
        simp [Lib.indexByte, h, h3, hne]

theorem splitK_lparts : ∀ (k : Nat) (l : List UInt8), l.count 10 = k → Lib.splitK [10] 0 k l = lparts l
  | 0, l, h => by
    rw [lparts_plain l (List.count_eq_zero.1 h)]; rfl
  | k + 1, l, h => by
    rcases indexByte_nl l with ⟨h1, h2⟩ | ⟨a, b, rfl, h2, h3⟩
    · rw [List.count_eq_zero_of_not_mem h1] at h; omega
    · have hi : Lib.index (a ++ 10 :: b) [10] = (a.length : Int) := by rw [Lib.index_one]; exact h3
      have hne : ¬ (Lib.index (a ++ 10 :: b) [10] == -1) = true := by rw [hi]; simp
      unfold Lib.splitK
      rw [if_neg hne, hi]
      have hc : b.count 10 = k := by
        rw [List.count_append, List.count_eq_zero_of_not_mem h2] at h
        simp at h; omega
      have e1 : (a ++ 10 :: b).take ((a.length : Int).toNat + 0) = a := by simp
      have e2 : (a ++ 10 :: b).drop ((a.length : Int).toNat + [(10 : UInt8)].length) = b := by
        have : (a.length : Int).toNat + [(10 : UInt8)].length = a.length + 1 := by simp
        rw [this, List.drop_append]; simp
      rw [e1, e2, splitK_lparts k b hc, lparts_first a b h2]

def nlB : ByteArray := ⟨#[10]⟩

theorem split_lparts (s : ByteArray) : (Lib.splitB nlB 0 (Lib.countB s nlB) s).map (·.data.toList) = lparts s.data.toList := by
  have hc : Lib.countB s nlB = s.data.toList.count 10 := Lib.count_one 10 _
  rw [Lib.splitB_data, hc]
  exact splitK_lparts _ _ rfl
/-- strings.genSplit at a byte 10: what it asks of strings.Index and strings.Count is had at one byte without any variable -/
theorem genSplit_nl (s : ByteArray) (w : World) (hs : s.size < 4294967281) :
    Calls Tryz.prog 146 #[.string s, .string nlB, .int .i64 0, .int .i64 (-1)] w fun e w' =>
      e = .returned (.slice (some ⟨w.heap.size, 0, none⟩) (Lib.countB s nlB + 1) (Lib.countB s nlB + 1)) ∧ w' = w.alloc (.cells ((Lib.splitB nlB 0 (Lib.countB s nlB) s).map Value.string).toArray 9) := by
  have h1 : 1 ≤ nlB.size := Nat.le_refl _
  have hle := Lib.countB_le nlB h1 s.size s (Nat.le_refl _)
  have hlen := Lib.splitB_all nlB h1 0 _ s rfl
  have c := Any.strings_genSplit_core Tryz.lays221 (by kernel_rfl) s nlB 0 (-1) (Lib.countB s nlB + 1) w hs h1 (Nat.zero_le _)
    (fun x c hx => by
      have := Tryz.strings_Index_one x 10 (w.alloc (.cells c 9))
      have e : Lib.indexByte x.data.toList 10 = Lib.indexB x nlB := (Lib.index_one _ 10).symm
      rw [e] at this; exact this)
    (by
      have := Tryz.strings_Count_one s 10 w
      have e : Lib.countByte s.data.toList 10 = Lib.countB s nlB := (Lib.count_one 10 _).symm
      rw [e] at this; exact this)
    (by decide) (by decide) (by rw [if_pos (by decide)]; omega)
  rw [Nat.add_sub_cancel, hlen] at c
  have e2 : Lib.cellsOf (Lib.splitB nlB 0 (Lib.countB s nlB) s) (Lib.countB s nlB + 1) = ((Lib.splitB nlB 0 (Lib.countB s nlB) s).map Value.string).toArray := by rw [← hlen]; exact Lib.cellsOf_full _
  rw [e2] at c
  exact c

set_option maxHeartbeats 400000 in
theorem split_nl (s : ByteArray) (w : World) (hs : s.size < 4294967281) :
    Calls Tryz.prog 98 #[.string s, .string nlB] w fun e w' =>
      e = .returned (.slice (some ⟨w.heap.size, 0, none⟩) (Lib.countB s nlB + 1) (Lib.countB s nlB + 1)) ∧ w' = w.alloc (.cells ((Lib.splitB nlB 0 (Lib.countB s nlB) s).map Value.string).toArray 9) := by
  have c := genSplit_nl s w hs
  unfold nlB at c ⊢
  go_enter Tryz.func98, Tryz.ntmps98
  go_wp2_with fail
  refine c.mono ?_
  rintro e w' ⟨rfl, rfl⟩
  go_wp2
  go_ret
  exact ⟨rfl, rfl⟩

/-- the last one falls, if it is empty -/
def dropE (l : List (List UInt8)) : List (List UInt8) := if l.getLast? = some [] then l.dropLast else l
theorem dropE_cons (x : List UInt8) {l : List (List UInt8)} (h : l ≠ []) : dropE (x :: l) = x :: dropE l := by
  unfold dropE
  cases l with
  | nil => exact absurd rfl h
  | cons y l =>
    rw [List.getLast?_cons_cons, List.dropLast_cons_cons]
    split <;> rfl
theorem lines_parts : ∀ (s cur : List UInt8), linesF cur s = dropE ((cur ++ (lparts s).headD []) :: (lparts s).tail)
  | [], cur => by
    unfold linesF dropE lparts
    cases cur with
    | nil => rfl
    | cons c cur => simp
  | c :: t, cur => by
    by_cases h : c = 10
    · rw [h, lines_end, lparts_nl 10 t rfl, lines_parts t []]
      simp only [List.headD_cons, List.append_nil, List.tail_cons, List.nil_append]
      rw [dropE_cons cur (lparts_ne t), headTail _ _ (lparts_ne t)]
    · rw [lines_more _ _ h, lparts_other _ _ h, lines_parts t (cur ++ [c])]
      simp
theorem lines_split (s : List UInt8) : linesL s = dropE (lparts s) := by
  unfold linesL
  rw [lines_parts s []]
  simp only [List.nil_append]
  rw [headTail _ _ (lparts_ne s)]

set_option maxHeartbeats 1000000 in
theorem lines_c (s : ByteArray) (w : World) (hs : s.size ≤ 1048576) : Calls Tryz.prog 23 #[.string s] w fun e w' =>
    ∃ a, e = .returned a ∧ w'.ownsRow w.heap.size 9 1 a (linesL s.data.toList).length ((linesL s.data.toList).map strV) ∧ Below w.heap.size w w' := by
  have c := split_nl s w (by omega)
  have h1 : 1 ≤ nlB.size := Nat.le_refl _
  have hlen := Lib.splitB_all nlB h1 0 _ s rfl
  have hle := Lib.countB_le nlB h1 s.size s (Nat.le_refl _)
  have hmap := split_lparts s
  have hL := lines_split s.data.toList
  rw [← hmap] at hL
  rw [← hlen] at c
  generalize Lib.splitB nlB 0 (Lib.countB s nlB) s = P at c hlen hL
  clear hmap
  obtain ⟨k, hk⟩ : ∃ k, Lib.countB s nlB = k := ⟨_, rfl⟩
  rw [hk] at hlen hle
  clear hk
  obtain ⟨q, hq⟩ : ∃ q, P[k]? = some q := ⟨P[k]'(by omega), List.getElem?_eq_getElem (by omega)⟩
  have hlast : P.getLast? = some q := by rw [List.getLast?_eq_getElem?, hlen]; simpa using hq
  have hrow : ∀ n, n ≤ P.length → ∀ l : List (List UInt8), l = (P.take n).map (·.data.toList) → l.length = n ∧ (w.alloc (.cells (P.map Value.string).toArray 9)).ownsRow w.heap.size 9 1 (.slice (some ⟨w.heap.size, 0, none⟩) n P.length) n (l.map strV) := by
    intro n hn l hl
    refine ⟨by rw [hl]; simp; omega, by rw [hl]; simp; omega, .inr ⟨w.heap.size, P.length, (P.map Value.string).toArray, rfl, Nat.le_refl _, heap_alloc_new w _, hn, by unfold maxLen; omega, by simp, ?_⟩⟩
    rw [hl]
    simp only [Nat.mul_one, List.map_take, List.map_map]
    congr 1
  have HR := Lib.hid hrow
  have cl : (w.alloc (.cells (P.map Value.string).toArray 9)).cell? ⟨w.heap.size, k, none⟩ = some (.string q) := by
    rw [World.cell?_alloc_new]; simp [hq]
  have e1 : IntKind.i64.wrap (((k + 1 : Nat) : Int) - 1) = (k : Int) := by rw [IntKind.wrap_i64]; omega
  have HL := Lib.hid hL
  have HX := Lib.hid hlast
  have HP := Lib.hid hlen
  rw [hlen] at c
  clear hrow hL hlast hlen hq
  unfold nlB at c
  by_cases h0 : q.data.toList = []
  · have hq1 : (q.toList == []) = true := by rw [Lib.toList_data, h0]; rfl
    have hq2 : q.toList = [] := by rw [Lib.toList_data, h0]
    have HN : Hid (linesL s.data.toList = (P.take k).map (·.data.toList)) := Lib.hid (by
      rw [HL.out]; unfold dropE
      rw [List.getLast?_map, HX.out, Option.map_some, h0, if_pos rfl, List.dropLast_eq_take, List.map_take, List.length_map, HP.out, Nat.add_sub_cancel])
    clear h0
    go_enter Tryz.func23, Tryz.ntmps23
    go_wp2_with (go_at_call 98; refine c.mono ?_; rintro e w' ⟨rfl, rfl⟩)
    go_ret
    obtain ⟨r1, r2⟩ := HR.out k (by have := HP.out; omega) _ HN.out
    rw [HP.out] at r2
    exact ⟨_, rfl, by rw [r1]; exact r2, laidNew _ _⟩
  · have hq1 : (q.toList == []) = false := by rw [Lib.toList_data]; simpa using h0
    have HN : Hid (linesL s.data.toList = (P.take (k + 1)).map (·.data.toList)) := Lib.hid (by
      rw [HL.out]; unfold dropE
      rw [List.getLast?_map, HX.out, Option.map_some, if_neg (by simpa using h0), List.take_of_length_le (by have := HP.out; omega)])
    clear h0
    go_enter Tryz.func23, Tryz.ntmps23
    go_wp2_with (go_at_call 98; refine c.mono ?_; rintro e w' ⟨rfl, rfl⟩)
    go_ret
    obtain ⟨r1, r2⟩ := HR.out (k + 1) (by have := HP.out; omega) _ HN.out
    rw [HP.out] at r2
    exact ⟨_, rfl, by rw [r1]; exact r2, laidNew _ _⟩
end Go.Proofs.YtikeaiibociapaaGreatDoor
