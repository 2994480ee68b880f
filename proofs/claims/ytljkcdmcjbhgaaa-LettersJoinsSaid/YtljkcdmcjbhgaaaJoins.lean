import Derived.Test.YtljkcdmcjbhgaaaAlive
import Derived.Test.YtljkcdmcjbhgaaaNamed
namespace Go.Proofs.Ytljkcdmcjbhgaaa
open Go.RowKit

theorem words_gap (g : UInt8) (hg : gapB g = true) : ∀ (l cur y : List UInt8), wordsGo cur (l ++ g :: y) = wordsGo cur l ++ wordsGo [] y
  | [], cur, y => by
    simp only [List.nil_append, wordsGo, hg, if_true]
    split <;> simp
  | b :: l, cur, y => by
    rw [List.cons_append, wordsGo, wordsGo]
    split
    · split
      · exact words_gap g hg l [] y
      · rw [words_gap g hg l [] y]; rfl
    · exact words_gap g hg l _ y

theorem words_skip : ∀ (g y : List UInt8), (∀ b ∈ g, gapB b = true) → wordsGo [] (g ++ y) = wordsGo [] y
  | [], _, _ => rfl
  | b :: g, y, h => by
    rw [List.cons_append, wordsGo, h b (by simp)]
    simp only [if_true]
    exact words_skip g y (fun c hc => h c (by simp [hc]))

/-- gaps between: the words of both -/
theorem words_between (a g b : List UInt8) (hne : g ≠ []) (hg : ∀ c ∈ g, gapB c = true) : wordsL (a ++ g ++ b) = wordsL a ++ wordsL b := by
  cases g with
  | nil => exact absurd rfl hne
  | cons c g =>
    unfold wordsL
    rw [List.append_assoc, List.cons_append, words_gap c (hg c (by simp)), words_skip g b (fun d hd => hg d (by simp [hd]))]

/-- a word: not empty, no gap in it -/
def Word (x : List UInt8) : Prop := x ≠ [] ∧ ∀ b ∈ x, gapB b = false

theorem go_words : ∀ (l cur : List UInt8), (∀ b ∈ cur, gapB b = false) → ∀ x ∈ wordsGo cur l, Word x
  | [], cur, hc, x, hx => by
    rw [wordsGo] at hx
    split at hx
    · simp at hx
    · rename_i hne
      simp at hx
      subst hx
      exact ⟨hne, hc⟩
  | b :: l, cur, hc, x, hx => by
    rw [wordsGo] at hx
    split at hx
    · split at hx
      · exact go_words l [] (by simp) x hx
      · rename_i hne
        rcases List.mem_cons.1 hx with rfl | hx
        · exact ⟨hne, hc⟩
        · exact go_words l [] (by simp) x hx
    · rename_i hb
      refine go_words l _ ?_ x hx
      intro c hcm
      rcases List.mem_append.1 hcm with h | h
      · exact hc c h
      · obtain rfl : c = b := by simpa using h
        simpa using hb
theorem words_word (l : List UInt8) : ∀ x ∈ wordsL l, Word x := go_words l [] (by simp)

theorem words_of_word (x : List UInt8) (h : Word x) : wordsL x = [x] := by
  unfold wordsL
  have := wordsGo_more x [] [] h.2
  rw [List.append_nil] at this
  rw [this, List.nil_append, wordsGo, if_neg h.1]

/-- words with a gap ahead of each -/
def joinL (g : List UInt8) (xs : List (List UInt8)) : List UInt8 := (xs.map fun x => g ++ x).flatten

theorem join_snoc (g : List UInt8) (xs : List (List UInt8)) (x : List UInt8) : joinL g (xs ++ [x]) = joinL g xs ++ g ++ x := by simp [joinL]

theorem words_join (g : List UInt8) (hne : g ≠ []) (hg : ∀ c ∈ g, gapB c = true) : ∀ xs : List (List UInt8), (∀ x ∈ xs, Word x) → wordsL (joinL g xs ++ g) = xs
  | [], _ => by
    have := words_between [] g [] hne hg
    simpa [joinL, wordsL, wordsGo] using this
  | x :: xs, h => by
    have e : joinL g (x :: xs) ++ g = ([] ++ g ++ x) ++ (joinL g xs ++ g) := by simp [joinL]
    have ih := words_join g hne hg xs (fun y hy => h y (by simp [hy]))
    cases xs with
    | nil =>
      have e2 : ([] ++ g ++ x) ++ (joinL g [] ++ g) = (([] ++ g ++ x) ++ g ++ []) := by simp [joinL]
      rw [e, e2, words_between _ _ _ hne hg, words_between _ _ _ hne hg, words_of_word x (h x (by simp))]
      simp [wordsL, wordsGo]
    | cons y ys =>
      have e3 : joinL g (y :: ys) ++ g = g ++ (y ++ (joinL g ys ++ g)) := by simp [joinL]
      have e4 : wordsL (y ++ (joinL g ys ++ g)) = y :: ys := by
        have h0 := words_between [] g (y ++ (joinL g ys ++ g)) hne hg
        rw [List.nil_append, ← e3, ih] at h0
        simpa [wordsL, wordsGo] using h0.symm
      rw [e, e3, ← List.append_assoc, words_between _ _ _ hne hg, words_between _ _ _ hne hg, words_of_word x (h x (by simp)), e4]
      simp [wordsL, wordsGo]

theorem go_sizes : ∀ (l cur : List UInt8), ((wordsGo cur l).map fun x => x.length + 1).sum ≤ cur.length + l.length + 1
  | [], cur => by rw [wordsGo]; split <;> simp
  | b :: l, cur => by
    rw [wordsGo]
    split
    · split
      · have := go_sizes l []; simp at this ⊢; omega
      · have := go_sizes l []; simp at this ⊢; omega
    · have := go_sizes l (cur ++ [b]); simp at this ⊢; omega
theorem len_le_sum : ∀ xs : List (List UInt8), xs.length ≤ (xs.map fun x => x.length + 1).sum
  | [] => by simp
  | x :: xs => by have := len_le_sum xs; simp at this ⊢; omega
theorem join_le (g : List UInt8) (hg : g.length ≤ 3) : ∀ xs : List (List UInt8), (joinL g xs).length ≤ 3 * (xs.map fun x => x.length + 1).sum
  | [] => by simp [joinL]
  | x :: xs => by
    have := join_le g hg xs
    have e : joinL g (x :: xs) = g ++ x ++ joinL g xs := by simp [joinL]
    rw [e]; simp at this ⊢; omega
theorem words_length (l : List UInt8) : (wordsL l).length ≤ l.length + 1 := by
  have h1 := go_sizes l []
  have h2 := len_le_sum (wordsGo [] l)
  unfold wordsL
  simp at h1 h2 ⊢; omega
theorem take_sum (xs : List (List UInt8)) (k : Nat) : ((xs.take k).map fun x => x.length + 1).sum ≤ (xs.map fun x => x.length + 1).sum := by
  conv => rhs; rw [← List.take_append_drop k xs, List.map_append, List.sum_append]
  omega
theorem join_words (g l : List UInt8) (hg : g.length ≤ 3) (k : Nat) : (joinL g ((wordsL l).take k)).length ≤ 3 * l.length + 3 := by
  have h1 := join_le g hg ((wordsL l).take k)
  have h2 := take_sum (wordsL l) k
  have h3 := go_sizes l []
  unfold wordsL at *
  simp at h3
  omega

/-- the cells of a slice of texts -/
def CellsT (w : World) (A : Nat) (l : List (List UInt8)) : Prop := ∀ j (h : j < l.length), w.cell? ⟨A, j, none⟩ = some (strV l[j])
theorem CellsT.kept {w w' : World} {A : Nat} {l : List (List UInt8)} (h : CellsT w A l) (hb : Below w.heap.size w w') : CellsT w' A l :=
  fun j hj => (hb.cell (p := ⟨A, j, none⟩) (cell_lt (h j hj))).trans (h j hj)
theorem CellsT.texts {w : World} {A cap : Nat} {l : List (List UInt8)} (h : CellsT w A l) (hl : l.length ≤ 9223372036854775807) : Texts w (.slice (some ⟨A, 0, none⟩) l.length cap) l :=
  ⟨_, _, rfl, hl, fun _ => ⟨A, rfl, h⟩⟩

theorem words_t (s : ByteArray) (w : World) (hs : s.size ≤ 4294967296) :
    Calls Try.prog 20 #[.string s] w fun e w' => ∃ A, e = .returned (.slice (some ⟨A, 0, none⟩) (wordsL s.data.toList).length (wordsL s.data.toList).length) ∧ CellsT w' A (wordsL s.data.toList) ∧ Below w.heap.size w w' := by
  refine (words_any s w hs).mono ?_
  rintro e w' ⟨A, rfl, _, hown, hb⟩
  refine ⟨A, rfl, fun j hj => ?_, hb⟩
  rw [hown.cellAt j (by omega)]
  simp [hj]
end Go.Proofs.Ytljkcdmcjbhgaaa
