/- Merged: Put, Place. -/
import Derived.Test.YtbhlnemahhndoaaGreatDoorLess
import Derived.Test.YtbhlnemahhndoaaGreatDoorU3
namespace Go.Proofs.YtbhlnemahhndoaaGreatDoor
open Go.RowKit

def ltP (n : ByteArray) (a : At) : Bool := Op.bytesLess a.1.toList n.toList
def gtP (n : ByteArray) (a : At) : Bool := Op.bytesLess n.toList a.1.toList
def neP (n : ByteArray) (a : At) : Bool := !(a.1.toList == n.toList)
/-- attributes with one more, or another value -/
def putL (l : List At) (n v : ByteArray) : List At := l.filter (ltP n) ++ (n, v) :: l.filter (gtP n)
/-- attributes with one less -/
def cutL (l : List At) (n : ByteArray) : List At := l.filter (neP n)
/-- Set's error -/
def setE (l : List At) (n v : ByteArray) : Nat := if (checkL l && nameB n.data.toList && mayL v.data.toList) = true then (if (putL l n v).length ≤ 64 then 0 else 3) else 1
/-- Set's answer -/
def setL (l : List At) (n v : ByteArray) : List At := if setE l n v = 0 then putL l n v else []
/-- Unset's error -/
def cutE (l : List At) (n : ByteArray) : Nat := if (checkL l && nameB n.data.toList) = true then 0 else 1
/-- Unset's answer -/
def unsL (l : List At) (n : ByteArray) : List At := if cutE l n = 0 then cutL l n else []

theorem less_ne {a b : List UInt8} (h : Op.bytesLess a b = true) : (a == b) = false := by
  rw [beq_eq_false_iff_ne]; rintro rfl; rw [less_irrefl] at h; cases h
theorem less_ne' {a b : List UInt8} (h : Op.bytesLess a b = true) : (b == a) = false := by
  rw [beq_eq_false_iff_ne]; rintro rfl; rw [less_irrefl] at h; cases h
theorem less_asymm {a b : List UInt8} (h : Op.bytesLess a b = true) : Op.bytesLess b a = false := by
  cases e : Op.bytesLess b a
  · rfl
  · have := less_trans h e; rw [less_irrefl] at this; cases this

/-! ### the order -/
def Rise (l : List At) : Prop := l.Pairwise fun a b => Op.bytesLess a.1.toList b.1.toList = true
theorem rise_iff : ∀ l : List At, riseB l = true ↔ Rise l
  | [] => by simp [riseB, Rise]
  | [a] => by simp [riseB, Rise]
  | a :: b :: l => by
    have ih := rise_iff (b :: l)
    unfold Rise at ih ⊢
    simp only [riseB, Bool.and_eq_true, ih, lessA]
    rw [List.pairwise_cons (a := a)]
    constructor
    · rintro ⟨h1, h2⟩
      refine ⟨fun x hx => ?_, h2⟩
      rcases List.mem_cons.1 hx with rfl | hx
      · exact h1
      · exact less_trans h1 ((List.pairwise_cons.1 h2).1 x hx)
    · rintro ⟨h1, h2⟩
      exact ⟨h1 b (by simp), h2⟩
theorem check_parts {l : List At} (h : checkL l = true) : l.length ≤ 64 ∧ (∀ a ∈ l, attB a = true) ∧ Rise l := by
  unfold checkL at h
  simp only [Bool.and_eq_true, decide_eq_true_eq, List.all_eq_true] at h
  exact ⟨h.1.1, h.1.2, (rise_iff l).1 h.2⟩
theorem check_of {l : List At} (h1 : l.length ≤ 64) (h2 : ∀ a ∈ l, attB a = true) (h3 : Rise l) : checkL l = true :=
  check_yes h1 (List.all_eq_true.2 h2) ((rise_iff l).2 h3)

/-! ### what is got -/
theorem get_append (a b : List At) (m : ByteArray) : getL (a ++ b) m = (getL a m).or (getL b m) := by
  unfold getL
  rw [List.find?_append]
  cases List.find? (fun a => a.1.toList == m.toList) a <;> simp
theorem get_cons (a : At) (b : List At) (m : ByteArray) : getL (a :: b) m = if (a.1.toList == m.toList) = true then some a.2 else getL b m := by
  unfold getL
  rw [List.find?_cons]
  cases (a.1.toList == m.toList) <;> rfl
theorem get_filter_yes (l : List At) (p : At → Bool) (m : ByteArray) (h : ∀ a : At, (a.1.toList == m.toList) = true → p a = true) : getL (l.filter p) m = getL l m := by
  induction l with
  | nil => rfl
  | cons a l ih =>
    rw [get_cons]
    by_cases e : (a.1.toList == m.toList) = true
    · rw [List.filter_cons_of_pos (h a e), get_cons, if_pos e, if_pos e]
    · rw [if_neg e]
      by_cases hp : p a = true
      · rw [List.filter_cons_of_pos hp, get_cons, if_neg e, ih]
      · rw [List.filter_cons_of_neg hp, ih]
theorem get_filter_no (l : List At) (p : At → Bool) (m : ByteArray) (h : ∀ a : At, (a.1.toList == m.toList) = true → p a = false) : getL (l.filter p) m = none := by
  induction l with
  | nil => rfl
  | cons a l ih =>
    by_cases hp : p a = true
    · rw [List.filter_cons_of_pos hp, get_cons, if_neg (by intro e; rw [h a e] at hp; cases hp), ih]
    · rw [List.filter_cons_of_neg hp, ih]
theorem get_cut_same (l : List At) (n : ByteArray) : getL (cutL l n) n = none := get_filter_no l _ n (fun a e => by unfold neP; rw [e]; rfl)
theorem get_cut_other (l : List At) (n m : ByteArray) (h : ¬ m.toList = n.toList) : getL (cutL l n) m = getL l m :=
  get_filter_yes l _ m (fun a e => by
    rw [beq_iff_eq] at e
    unfold neP
    rw [e]
    simpa using h)
theorem get_put_same (l : List At) (n v : ByteArray) : getL (putL l n v) n = some v := by
  unfold putL
  rw [get_append, get_filter_no _ _ _ (fun a e => by rw [beq_iff_eq] at e; unfold ltP; rw [e]; exact less_irrefl _), get_cons, if_pos (by simp)]
  rfl
theorem get_put_other (l : List At) (n v m : ByteArray) (h : ¬ m.toList = n.toList) : getL (putL l n v) m = getL l m := by
  unfold putL
  rw [get_append, get_cons, if_neg (by simpa using fun e => h e.symm)]
  cases h1 : Op.bytesLess m.toList n.toList
  · have h2 : Op.bytesLess n.toList m.toList = true := by
      cases h2 : Op.bytesLess n.toList m.toList
      · exact absurd (less_total _ _ h1 h2) h
      · rfl
    rw [get_filter_no _ _ _ (fun a e => by rw [beq_iff_eq] at e; unfold ltP; rw [e]; exact h1), get_filter_yes _ _ _ (fun a e => by rw [beq_iff_eq] at e; unfold gtP; rw [e]; exact h2)]
    rfl
  · rw [get_filter_yes _ (ltP n) _ (fun a e => by rw [beq_iff_eq] at e; unfold ltP; rw [e]; exact h1), get_filter_no _ (gtP n) _ (fun a e => by rw [beq_iff_eq] at e; unfold gtP; rw [e]; exact less_asymm h1)]
    cases getL l m <;> rfl

/-! ### what may be -/
theorem check_cut {l : List At} (h : checkL l = true) (n : ByteArray) : checkL (cutL l n) = true := by
  obtain ⟨h1, h2, h3⟩ := check_parts h
  exact check_of (Nat.le_trans (List.length_filter_le _ _) h1) (fun a ha => h2 a (List.mem_filter.1 ha).1) (h3.filter _)
theorem rise_put {l : List At} (h3 : Rise l) (n v : ByteArray) : Rise (putL l n v) := by
  unfold putL Rise
  rw [List.pairwise_append]
  refine ⟨h3.filter _, ?_, ?_⟩
  · rw [List.pairwise_cons]
    exact ⟨fun x hx => (List.mem_filter.1 hx).2, h3.filter _⟩
  · intro a ha b hb
    have ha := (List.mem_filter.1 ha).2
    rcases List.mem_cons.1 hb with rfl | hb
    · exact ha
    · exact less_trans ha (List.mem_filter.1 hb).2
theorem check_put {l : List At} (h : checkL l = true) (n v : ByteArray) (hn : nameB n.data.toList = true) (hv : mayL v.data.toList = true) (hz : (putL l n v).length ≤ 64) : checkL (putL l n v) = true := by
  obtain ⟨h1, h2, h3⟩ := check_parts h
  refine check_of hz (fun a ha => ?_) (rise_put h3 n v)
  rcases List.mem_append.1 ha with ha | ha
  · exact h2 a (List.mem_filter.1 ha).1
  · rcases List.mem_cons.1 ha with rfl | ha
    · unfold attB; rw [hn, hv]; rfl
    · exact h2 a (List.mem_filter.1 ha).1
theorem put_length (l : List At) (n v : ByteArray) : (putL l n v).length ≤ l.length + 1 := by
  unfold putL
  rw [List.length_append, List.length_cons]
  have : ∀ l : List At, (l.filter (ltP n)).length + (l.filter (gtP n)).length ≤ l.length := by
    intro l
    induction l with
    | nil => simp
    | cons a l ih =>
      cases h1 : ltP n a
      · rw [List.filter_cons_of_neg (p := ltP n) (by rw [h1]; decide)]
        cases h2 : gtP n a
        · rw [List.filter_cons_of_neg (p := gtP n) (by rw [h2]; decide)]; simp; omega
        · rw [List.filter_cons_of_pos (p := gtP n) h2]; simp; omega
      · rw [List.filter_cons_of_pos (p := ltP n) h1, List.filter_cons_of_neg (p := gtP n) (by unfold gtP; rw [less_asymm h1]; decide)]; simp; omega
  have := this l
  omega

/-! ### again -/
theorem filter_none (l : List At) (p : At → Bool) (h : ∀ a ∈ l, p a = false) : l.filter p = [] := List.filter_eq_nil_iff.2 (fun a ha => by rw [h a ha]; decide)
theorem filter_all (l : List At) (p : At → Bool) (h : ∀ a ∈ l, p a = true) : l.filter p = l := List.filter_eq_self.2 h
theorem put_put (l : List At) (n v u : ByteArray) : putL (putL l n v) n u = putL l n u := by
  have e1 : (putL l n v).filter (ltP n) = l.filter (ltP n) := by
    unfold putL
    rw [List.filter_append, filter_all _ _ (fun a ha => (List.mem_filter.1 ha).2), filter_none (_ :: _) _ ?_, List.append_nil]
    intro a ha
    rcases List.mem_cons.1 ha with rfl | ha
    · exact less_irrefl _
    · exact less_asymm (List.mem_filter.1 ha).2
  have e2 : (putL l n v).filter (gtP n) = l.filter (gtP n) := by
    unfold putL
    rw [List.filter_append, filter_none (l.filter (ltP n)) (gtP n) (fun a ha => less_asymm (List.mem_filter.1 ha).2), List.filter_cons_of_neg (p := gtP n) (by unfold gtP; rw [less_irrefl]; decide), filter_all _ _ (fun a ha => (List.mem_filter.1 ha).2), List.nil_append]
  show (putL l n v).filter (ltP n) ++ (n, u) :: (putL l n v).filter (gtP n) = _
  rw [e1, e2]
  rfl
theorem cut_sorted {l : List At} (n : ByteArray) : Rise l → cutL l n = l.filter (ltP n) ++ l.filter (gtP n) := by
  induction l with
  | nil => intro _; rfl
  | cons a l ih =>
    intro h
    obtain ⟨h1, h2⟩ := List.pairwise_cons.1 h
    have ih := ih h2
    unfold cutL at ih ⊢
    cases e1 : ltP n a
    · cases e2 : gtP n a
      · have e := less_total _ _ e1 e2
        rw [List.filter_cons_of_neg (p := neP n) (by unfold neP; rw [e]; simp), List.filter_cons_of_neg (p := ltP n) (by rw [e1]; decide), List.filter_cons_of_neg (p := gtP n) (by rw [e2]; decide), ih]
      · rw [List.filter_cons_of_pos (p := neP n) (by unfold neP; rw [less_ne' e2]; rfl), List.filter_cons_of_neg (p := ltP n) (by rw [e1]; decide), List.filter_cons_of_pos (p := gtP n) e2, ih]
        rw [filter_none l (ltP n) (fun b hb => less_asymm (less_trans e2 (h1 b hb)))]
        rfl
    · rw [List.filter_cons_of_pos (p := neP n) (by unfold neP; rw [less_ne e1]; rfl), List.filter_cons_of_pos (p := ltP n) e1, List.filter_cons_of_neg (p := gtP n) (by unfold gtP; rw [less_asymm e1]; decide), ih]
      rfl
theorem cut_put {l : List At} (h : Rise l) (n v : ByteArray) : cutL (putL l n v) n = cutL l n := by
  rw [cut_sorted n h]
  unfold cutL putL
  rw [List.filter_append, filter_all (l.filter (ltP n)) (neP n) (fun a ha => by unfold neP; rw [less_ne (List.mem_filter.1 ha).2]; rfl), List.filter_cons_of_neg (p := neP n) (by unfold neP; simp), filter_all (l.filter (gtP n)) (neP n) (fun a ha => by unfold neP; rw [less_ne' (List.mem_filter.1 ha).2]; rfl)]
end Go.Proofs.YtbhlnemahhndoaaGreatDoor
namespace Go.Proofs.YtbhlnemahhndoaaGreatDoor
open Go.RowKit

/-- is it of that name? -/
def isP (n : ByteArray) (a : At) : Bool := a.1.toList == n.toList
/-- is it not ahead of that name? -/
def geP (n : ByteArray) (a : At) : Bool := !Op.bytesLess a.1.toList n.toList
theorem idx_hit {α : Type} (p : α → Bool) (l : List α) (k : Nat) (h : k < l.length) (h1 : ∀ j (hj : j < k), p (l[j]'(Nat.lt_trans hj h)) = false) (h2 : p l[k] = true) : l.findIdx p = k := (List.findIdx_eq h).2 ⟨h2, fun j hj => h1 j hj⟩
theorem idx_end {α : Type} (p : α → Bool) (l : List α) (h1 : ∀ j (hj : j < l.length), p l[j] = false) : l.findIdx p = l.length := by
  rw [List.findIdx_eq_length]
  intro x hx
  obtain ⟨j, hj, rfl⟩ := List.getElem_of_mem hx
  exact h1 j hj
theorem idx_le {α : Type} (p : α → Bool) (l : List α) : l.findIdx p ≤ l.length := List.findIdx_le_length
theorem ne_of_less {a b : List UInt8} (h : Op.bytesLess a b = true) : ¬ a = b := by rintro rfl; rw [less_irrefl] at h; cases h

theorem get_idx : ∀ (l : List At) (n : ByteArray), (l.findIdx (isP n) = l.length → getL l n = none) ∧ (∀ h : l.findIdx (isP n) < l.length, getL l n = some l[l.findIdx (isP n)].2)
  | [], n => ⟨fun _ => rfl, fun h => by simp at h⟩
  | a :: l, n => by
    have ih := get_idx l n
    by_cases e : isP n a = true
    · have e0 : (a :: l).findIdx (isP n) = 0 := by rw [List.findIdx_cons, e]; rfl
      refine ⟨fun h => by rw [e0] at h; simp at h, fun h => ?_⟩
      rw [get_cons, show (a.1.toList == n.toList) = true from e, if_pos rfl]
      simp only [e0]; rfl
    · have e' : isP n a = false := by simpa using e
      have e0 : (a :: l).findIdx (isP n) = l.findIdx (isP n) + 1 := by rw [List.findIdx_cons, e']; rfl
      refine ⟨fun h => ?_, fun h => ?_⟩
      · rw [get_cons, show (a.1.toList == n.toList) = false from e', if_neg (by decide)]
        rw [e0] at h
        exact ih.1 (by simpa using h)
      · rw [get_cons, show (a.1.toList == n.toList) = false from e', if_neg (by decide)]
        have h' : l.findIdx (isP n) < l.length := by rw [e0] at h; simpa using h
        simp only [e0, List.getElem_cons_succ]
        exact ih.2 h'

theorem put_place (n : ByteArray) : ∀ {l : List At}, Rise l → l.take (l.findIdx (geP n)) = l.filter (ltP n) ∧
    (∀ h : l.findIdx (geP n) < l.length, isP n l[l.findIdx (geP n)] = true → l.drop (l.findIdx (geP n) + 1) = l.filter (gtP n)) ∧
    ((∀ h : l.findIdx (geP n) < l.length, isP n l[l.findIdx (geP n)] = false) → l.drop (l.findIdx (geP n)) = l.filter (gtP n))
  | [], _ => ⟨rfl, fun h => by simp at h, fun _ => rfl⟩
  | a :: l, h => by
    obtain ⟨h1, h2⟩ := List.pairwise_cons.1 h
    by_cases e : ltP n a = true
    · have hg : geP n a = false := by unfold geP; unfold ltP at e; rw [e]; rfl
      have hgt : gtP n a = false := less_asymm e
      have e0 : (a :: l).findIdx (geP n) = l.findIdx (geP n) + 1 := by rw [List.findIdx_cons, hg]; rfl
      obtain ⟨i1, i2, i3⟩ := put_place n h2
      refine ⟨?_, fun hl hp => ?_, fun hp => ?_⟩
      · rw [e0, List.take_succ_cons, i1, List.filter_cons_of_pos e]
      · rw [List.filter_cons_of_neg (by rw [hgt]; decide), e0, List.drop_succ_cons]
        have h' : l.findIdx (geP n) < l.length := by rw [e0] at hl; simpa using hl
        simp only [e0, List.getElem_cons_succ] at hp
        exact i2 h' hp
      · rw [List.filter_cons_of_neg (by rw [hgt]; decide), e0, List.drop_succ_cons]
        refine i3 (fun h' => ?_)
        have := hp (by rw [e0]; simpa using h')
        simp only [e0, List.getElem_cons_succ] at this
        exact this
    · have e' : ltP n a = false := by simpa using e
      have hg : geP n a = true := by unfold geP; unfold ltP at e'; rw [e']; rfl
      have e0 : (a :: l).findIdx (geP n) = 0 := by rw [List.findIdx_cons, hg]; rfl
      have hlt : ∀ x ∈ l, ltP n x = false := fun x hx => by
        cases hx' : ltP n x with
        | false => rfl
        | true => rw [show ltP n a = true from less_trans (h1 x hx) hx'] at e'; cases e'
      refine ⟨?_, fun hl hp => ?_, fun hp => ?_⟩
      · rw [e0, List.take_zero, List.filter_cons_of_neg (by rw [e']; decide), filter_none l _ hlt]
      · simp only [e0, List.getElem_cons_zero] at hp
        have ha : a.1.toList = n.toList := by simpa [isP] using hp
        have hga : gtP n a = false := by unfold gtP; rw [ha]; exact less_irrefl _
        rw [e0, List.filter_cons_of_neg (by rw [hga]; decide), filter_all l _ (fun x hx => by unfold gtP; rw [← ha]; exact h1 x hx)]
        rfl
      · have hp0 := hp (by rw [e0]; simp)
        simp only [e0, List.getElem_cons_zero] at hp0
        have hne : ¬ a.1.toList = n.toList := by simpa [isP] using hp0
        have hga : gtP n a = true := by
          cases hg2 : gtP n a with
          | true => rfl
          | false => exact absurd (less_total _ _ e' hg2) hne
        rw [e0, List.drop_zero, filter_all (a :: l) _ (fun x hx => by
          rcases List.mem_cons.1 hx with rfl | hx
          · exact hga
          · exact less_trans hga (h1 x hx))]

theorem cut_place (n : ByteArray) : ∀ {l : List At}, Rise l → l.take (l.findIdx (isP n)) ++ l.drop (min (l.findIdx (isP n) + 1) l.length) = cutL l n
  | [], _ => rfl
  | a :: l, h => by
    obtain ⟨h1, h2⟩ := List.pairwise_cons.1 h
    by_cases e : isP n a = true
    · have e0 : (a :: l).findIdx (isP n) = 0 := by rw [List.findIdx_cons, e]; rfl
      have ha : a.1.toList = n.toList := by simpa [isP] using e
      rw [e0, List.take_zero, List.nil_append, show min (0 + 1) (a :: l).length = 1 from by simp]
      unfold cutL
      rw [List.filter_cons_of_neg (by unfold neP; rw [ha]; simp), filter_all l _ (fun x hx => by
        unfold neP
        rw [Bool.not_eq_true', beq_eq_false_iff_ne]
        intro hx'
        exact ne_of_less (h1 x hx) (by rw [ha, hx']))]
      rfl
    · have e' : isP n a = false := by simpa using e
      have e0 : (a :: l).findIdx (isP n) = l.findIdx (isP n) + 1 := by rw [List.findIdx_cons, e']; rfl
      have ih := cut_place n h2
      rw [e0, List.take_succ_cons, show min (l.findIdx (isP n) + 1 + 1) (a :: l).length = min (l.findIdx (isP n) + 1) l.length + 1 from by simp, List.drop_succ_cons, List.cons_append, ih]
      unfold cutL
      rw [List.filter_cons_of_pos (by unfold neP; unfold isP at e'; rw [e']; rfl)]
end Go.Proofs.YtbhlnemahhndoaaGreatDoor
