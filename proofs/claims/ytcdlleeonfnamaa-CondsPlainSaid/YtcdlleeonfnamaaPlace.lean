import Derived.Test.YtcdlleeonfnamaaPut
namespace Go.Proofs.Ytcdlleeonfnamaa
open Go.RowKit

/-- is it of that name? -/
def isP (n : ByteArray) (a : At) : Bool := a.1.toList == n.toList
/-- is it not ahead of that name? -/
def geP (n : ByteArray) (a : At) : Bool := !Op.bytesLess a.1.toList n.toList
theorem idx_hit {α : Type} (p : α → Bool) (l : List α) (k : Nat) (h : k < l.length) (h1 : ∀ j (hj : j < k), p (l[j]'(Nat.lt_trans hj h)) = false) (h2 : p l[k] = true) : l.findIdx p = k := (List.findIdx_eq h).2 ⟨h2, fun j hj => h1 j hj⟩
theorem idx_end {α : Type} (p : α → Bool) (l : List α) (h1 : ∀ j (hj : j < l.length), p l[j] = false) : l.findIdx p = l.length := by
  rw [List.findIdx_eq_length]
  intro x hx
  obtain ⟨j, hj, rfl⟩ := List.getElem_of_mem hx
  exact h1 j hj
theorem idx_le {α : Type} (p : α → Bool) (l : List α) : l.findIdx p ≤ l.length := List.findIdx_le_length
theorem ne_of_less {a b : List UInt8} (h : Op.bytesLess a b = true) : ¬ a = b := by rintro rfl; rw [less_irrefl] at h; cases h

theorem get_idx : ∀ (l : List At) (n : ByteArray), (l.findIdx (isP n) = l.length → getL l n = none) ∧ (∀ h : l.findIdx (isP n) < l.length, getL l n = some l[l.findIdx (isP n)].2)
  | [], n => ⟨fun _ => rfl, fun h => by simp at h⟩
  | a :: l, n => by
    have ih := get_idx l n
    by_cases e : isP n a = true
    · have e0 : (a :: l).findIdx (isP n) = 0 := by rw [List.findIdx_cons, e]; rfl
      refine ⟨fun h => by rw [e0] at h; simp at h, fun h => ?_⟩
      rw [get_cons, show (a.1.toList == n.toList) = true from e, if_pos rfl]
      simp only [e0]; rfl
    · have e' : isP n a = false := by simpa using e
      have e0 : (a :: l).findIdx (isP n) = l.findIdx (isP n) + 1 := by rw [List.findIdx_cons, e']; rfl
      refine ⟨fun h => ?_, fun h => ?_⟩
      · rw [get_cons, show (a.1.toList == n.toList) = false from e', if_neg (by decide)]
        rw [e0] at h
        exact ih.1 (by simpa using h)
      · rw [get_cons, show (a.1.toList == n.toList) = false from e', if_neg (by decide)]
        have h' : l.findIdx (isP n) < l.length := by rw [e0] at h; simpa using h
        simp only [e0, List.getElem_cons_succ]
        exact ih.2 h'

theorem put_place (n : ByteArray) : ∀ {l : List At}, Rise l → l.take (l.findIdx (geP n)) = l.filter (ltP n) ∧
    (∀ h : l.findIdx (geP n) < l.length, isP n l[l.findIdx (geP n)] = true → l.drop (l.findIdx (geP n) + 1) = l.filter (gtP n)) ∧
    ((∀ h : l.findIdx (geP n) < l.length, isP n l[l.findIdx (geP n)] = false) → l.drop (l.findIdx (geP n)) = l.filter (gtP n))
  | [], _ => ⟨rfl, fun h => by simp at h, fun _ => rfl⟩
  | a :: l, h => by
    obtain ⟨h1, h2⟩ := List.pairwise_cons.1 h
    by_cases e : ltP n a = true
    · have hg : geP n a = false := by unfold geP; unfold ltP at e; rw [e]; rfl
      have hgt : gtP n a = false := less_asymm e
      have e0 : (a :: l).findIdx (geP n) = l.findIdx (geP n) + 1 := by rw [List.findIdx_cons, hg]; rfl
      obtain ⟨i1, i2, i3⟩ := put_place n h2
      refine ⟨?_, fun hl hp => ?_, fun hp => ?_⟩
      · rw [e0, List.take_succ_cons, i1, List.filter_cons_of_pos e]
      · rw [List.filter_cons_of_neg (by rw [hgt]; decide), e0, List.drop_succ_cons]
        have h' : l.findIdx (geP n) < l.length := by rw [e0] at hl; simpa using hl
        simp only [e0, List.getElem_cons_succ] at hp
        exact i2 h' hp
      · rw [List.filter_cons_of_neg (by rw [hgt]; decide), e0, List.drop_succ_cons]
        refine i3 (fun h' => ?_)
        have := hp (by rw [e0]; simpa using h')
        simp only [e0, List.getElem_cons_succ] at this
        exact this
    · have e' : ltP n a = false := by simpa using e
      have hg : geP n a = true := by unfold geP; unfold ltP at e'; rw [e']; rfl
      have e0 : (a :: l).findIdx (geP n) = 0 := by rw [List.findIdx_cons, hg]; rfl
      have hlt : ∀ x ∈ l, ltP n x = false := fun x hx => by
        cases hx' : ltP n x with
        | false => rfl
        | true => rw [show ltP n a = true from less_trans (h1 x hx) hx'] at e'; cases e'
      refine ⟨?_, fun hl hp => ?_, fun hp => ?_⟩
      · rw [e0, List.take_zero, List.filter_cons_of_neg (by rw [e']; decide), filter_none l _ hlt]
      · simp only [e0, List.getElem_cons_zero] at hp
        have ha : a.1.toList = n.toList := by simpa [isP] using hp
        have hga : gtP n a = false := by unfold gtP; rw [ha]; exact less_irrefl _
        rw [e0, List.filter_cons_of_neg (by rw [hga]; decide), filter_all l _ (fun x hx => by unfold gtP; rw [← ha]; exact h1 x hx)]
        rfl
      · have hp0 := hp (by rw [e0]; simp)
        simp only [e0, List.getElem_cons_zero] at hp0
        have hne : ¬ a.1.toList = n.toList := by simpa [isP] using hp0
        have hga : gtP n a = true := by
          cases hg2 : gtP n a with
          | true => rfl
          | false => exact absurd (less_total _ _ e' hg2) hne
        rw [e0, List.drop_zero, filter_all (a :: l) _ (fun x hx => by
          rcases List.mem_cons.1 hx with rfl | hx
          · exact hga
          · exact less_trans hga (h1 x hx))]

theorem cut_place (n : ByteArray) : ∀ {l : List At}, Rise l → l.take (l.findIdx (isP n)) ++ l.drop (min (l.findIdx (isP n) + 1) l.length) = cutL l n
  | [], _ => rfl
  | a :: l, h => by
    obtain ⟨h1, h2⟩ := List.pairwise_cons.1 h
    by_cases e : isP n a = true
    · have e0 : (a :: l).findIdx (isP n) = 0 := by rw [List.findIdx_cons, e]; rfl
      have ha : a.1.toList = n.toList := by simpa [isP] using e
      rw [e0, List.take_zero, List.nil_append, show min (0 + 1) (a :: l).length = 1 from by simp]
      unfold cutL
      rw [List.filter_cons_of_neg (by unfold neP; rw [ha]; simp), filter_all l _ (fun x hx => by
        unfold neP
        rw [Bool.not_eq_true', beq_eq_false_iff_ne]
        intro hx'
        exact ne_of_less (h1 x hx) (by rw [ha, hx']))]
      rfl
    · have e' : isP n a = false := by simpa using e
      have e0 : (a :: l).findIdx (isP n) = l.findIdx (isP n) + 1 := by rw [List.findIdx_cons, e']; rfl
      have ih := cut_place n h2
      rw [e0, List.take_succ_cons, show min (l.findIdx (isP n) + 1 + 1) (a :: l).length = min (l.findIdx (isP n) + 1) l.length + 1 from by simp, List.drop_succ_cons, List.cons_append, ih]
      unfold cutL
      rw [List.filter_cons_of_pos (by unfold neP; unfold isP at e'; rw [e']; rfl)]
end Go.Proofs.Ytcdlleeonfnamaa
