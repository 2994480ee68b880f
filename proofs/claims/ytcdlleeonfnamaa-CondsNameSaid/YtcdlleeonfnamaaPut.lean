import Derived.Test.YtcdlleeonfnamaaLess
import Derived.Test.YtcdlleeonfnamaaCheckL
namespace Go.Proofs.Ytcdlleeonfnamaa
open Go.RowKit

def ltP (n : ByteArray) (a : At) : Bool := Op.bytesLess a.1.toList n.toList
def gtP (n : ByteArray) (a : At) : Bool := Op.bytesLess n.toList a.1.toList
def neP (n : ByteArray) (a : At) : Bool := !(a.1.toList == n.toList)
/-- attributes with one more, or another value -/
def putL (l : List At) (n v : ByteArray) : List At := l.filter (ltP n) ++ (n, v) :: l.filter (gtP n)
/-- attributes with one less -/
def cutL (l : List At) (n : ByteArray) : List At := l.filter (neP n)
/-- Set's error -/
def setE (l : List At) (n v : ByteArray) : Nat := if (checkL l && nameB n.data.toList && mayL v.data.toList) = true then (if (putL l n v).length ≤ 64 then 0 else 3) else 1
/-- Set's answer -/
def setL (l : List At) (n v : ByteArray) : List At := if setE l n v = 0 then putL l n v else []
/-- Unset's error -/
def cutE (l : List At) (n : ByteArray) : Nat := if (checkL l && nameB n.data.toList) = true then 0 else 1
/-- Unset's answer -/
def unsL (l : List At) (n : ByteArray) : List At := if cutE l n = 0 then cutL l n else []

theorem less_ne {a b : List UInt8} (h : Op.bytesLess a b = true) : (a == b) = false := by
  rw [beq_eq_false_iff_ne]; rintro rfl; rw [less_irrefl] at h; cases h
theorem less_ne' {a b : List UInt8} (h : Op.bytesLess a b = true) : (b == a) = false := by
  rw [beq_eq_false_iff_ne]; rintro rfl; rw [less_irrefl] at h; cases h
theorem less_asymm {a b : List UInt8} (h : Op.bytesLess a b = true) : Op.bytesLess b a = false := by
  cases e : Op.bytesLess b a
  · rfl
  · have := less_trans h e; rw [less_irrefl] at this; cases this

/-! ### the order -/
def Rise (l : List At) : Prop := l.Pairwise fun a b => Op.bytesLess a.1.toList b.1.toList = true
theorem rise_iff : ∀ l : List At, riseB l = true ↔ Rise l
  | [] => by simp [riseB, Rise]
  | [a] => by simp [riseB, Rise]
  | a :: b :: l => by
    have ih := rise_iff (b :: l)
    unfold Rise at ih ⊢
    simp only [riseB, Bool.and_eq_true, ih, lessA]
    rw [List.pairwise_cons (a := a)]
    constructor
    · rintro ⟨h1, h2⟩
      refine ⟨fun x hx => ?_, h2⟩
      rcases List.mem_cons.1 hx with rfl | hx
      · exact h1
      · exact less_trans h1 ((List.pairwise_cons.1 h2).1 x hx)
    · rintro ⟨h1, h2⟩
      exact ⟨h1 b (by simp), h2⟩
theorem check_parts {l : List At} (h : checkL l = true) : l.length ≤ 64 ∧ (∀ a ∈ l, attB a = true) ∧ Rise l := by
  unfold checkL at h
  simp only [Bool.and_eq_true, decide_eq_true_eq, List.all_eq_true] at h
  exact ⟨h.1.1, h.1.2, (rise_iff l).1 h.2⟩
theorem check_of {l : List At} (h1 : l.length ≤ 64) (h2 : ∀ a ∈ l, attB a = true) (h3 : Rise l) : checkL l = true :=
  check_yes h1 (List.all_eq_true.2 h2) ((rise_iff l).2 h3)

/-! ### what is got -/
theorem get_append (a b : List At) (m : ByteArray) : getL (a ++ b) m = (getL a m).or (getL b m) := by
  unfold getL
  rw [List.find?_append]
  cases List.find? (fun a => a.1.toList == m.toList) a <;> simp
theorem get_cons (a : At) (b : List At) (m : ByteArray) : getL (a :: b) m = if (a.1.toList == m.toList) = true then some a.2 else getL b m := by
  unfold getL
  rw [List.find?_cons]
  cases (a.1.toList == m.toList) <;> rfl
theorem get_filter_yes (l : List At) (p : At → Bool) (m : ByteArray) (h : ∀ a : At, (a.1.toList == m.toList) = true → p a = true) : getL (l.filter p) m = getL l m := by
  induction l with
  | nil => rfl
  | cons a l ih =>
    rw [get_cons]
    by_cases e : (a.1.toList == m.toList) = true
    · rw [List.filter_cons_of_pos (h a e), get_cons, if_pos e, if_pos e]
    · rw [if_neg e]
      by_cases hp : p a = true
      · rw [List.filter_cons_of_pos hp, get_cons, if_neg e, ih]
      · rw [List.filter_cons_of_neg hp, ih]
theorem get_filter_no (l : List At) (p : At → Bool) (m : ByteArray) (h : ∀ a : At, (a.1.toList == m.toList) = true → p a = false) : getL (l.filter p) m = none := by
  induction l with
  | nil => rfl
  | cons a l ih =>
    by_cases hp : p a = true
    · rw [List.filter_cons_of_pos hp, get_cons, if_neg (by intro e; rw [h a e] at hp; cases hp), ih]
    · rw [List.filter_cons_of_neg hp, ih]
theorem get_cut_same (l : List At) (n : ByteArray) : getL (cutL l n) n = none := get_filter_no l _ n (fun a e => by unfold neP; rw [e]; rfl)
theorem get_cut_other (l : List At) (n m : ByteArray) (h : ¬ m.toList = n.toList) : getL (cutL l n) m = getL l m :=
  get_filter_yes l _ m (fun a e => by
    rw [beq_iff_eq] at e
    unfold neP
    rw [e]
    simpa using h)
theorem get_put_same (l : List At) (n v : ByteArray) : getL (putL l n v) n = some v := by
  unfold putL
  rw [get_append, get_filter_no _ _ _ (fun a e => by rw [beq_iff_eq] at e; unfold ltP; rw [e]; exact less_irrefl _), get_cons, if_pos (by simp)]
  rfl
theorem get_put_other (l : List At) (n v m : ByteArray) (h : ¬ m.toList = n.toList) : getL (putL l n v) m = getL l m := by
  unfold putL
  rw [get_append, get_cons, if_neg (by simpa using fun e => h e.symm)]
  cases h1 : Op.bytesLess m.toList n.toList
  · have h2 : Op.bytesLess n.toList m.toList = true := by
      cases h2 : Op.bytesLess n.toList m.toList
      · exact absurd (less_total _ _ h1 h2) h
      · rfl
    rw [get_filter_no _ _ _ (fun a e => by rw [beq_iff_eq] at e; unfold ltP; rw [e]; exact h1), get_filter_yes _ _ _ (fun a e => by rw [beq_iff_eq] at e; unfold gtP; rw [e]; exact h2)]
    rfl
  · rw [get_filter_yes _ (ltP n) _ (fun a e => by rw [beq_iff_eq] at e; unfold ltP; rw [e]; exact h1), get_filter_no _ (gtP n) _ (fun a e => by rw [beq_iff_eq] at e; unfold gtP; rw [e]; exact less_asymm h1)]
    cases getL l m <;> rfl

/-! ### what may be -/
theorem check_cut {l : List At} (h : checkL l = true) (n : ByteArray) : checkL (cutL l n) = true := by
  obtain ⟨h1, h2, h3⟩ := check_parts h
  exact check_of (Nat.le_trans (List.length_filter_le _ _) h1) (fun a ha => h2 a (List.mem_filter.1 ha).1) (h3.filter _)
theorem rise_put {l : List At} (h3 : Rise l) (n v : ByteArray) : Rise (putL l n v) := by
  unfold putL Rise
  rw [List.pairwise_append]
  refine ⟨h3.filter _, ?_, ?_⟩
  · rw [List.pairwise_cons]
    exact ⟨fun x hx => (List.mem_filter.1 hx).2, h3.filter _⟩
  · intro a ha b hb
    have ha := (List.mem_filter.1 ha).2
    rcases List.mem_cons.1 hb with rfl | hb
    · exact ha
    · exact less_trans ha (List.mem_filter.1 hb).2
theorem check_put {l : List At} (h : checkL l = true) (n v : ByteArray) (hn : nameB n.data.toList = true) (hv : mayL v.data.toList = true) (hz : (putL l n v).length ≤ 64) : checkL (putL l n v) = true := by
  obtain ⟨h1, h2, h3⟩ := check_parts h
  refine check_of hz (fun a ha => ?_) (rise_put h3 n v)
  rcases List.mem_append.1 ha with ha | ha
  · exact h2 a (List.mem_filter.1 ha).1
  · rcases List.mem_cons.1 ha with rfl | ha
    · unfold attB; rw [hn, hv]; rfl
    · exact h2 a (List.mem_filter.1 ha).1
theorem put_length (l : List At) (n v : ByteArray) : (putL l n v).length ≤ l.length + 1 := by
  unfold putL
  rw [List.length_append, List.length_cons]
  have : ∀ l : List At, (l.filter (ltP n)).length + (l.filter (gtP n)).length ≤ l.length := by
    intro l
    induction l with
    | nil => simp
    | cons a l ih =>
      cases h1 : ltP n a
      · rw [List.filter_cons_of_neg (p := ltP n) (by rw [h1]; decide)]
        cases h2 : gtP n a
        · rw [List.filter_cons_of_neg (p := gtP n) (by rw [h2]; decide)]; simp; omega
        · rw [List.filter_cons_of_pos (p := gtP n) h2]; simp; omega
      · rw [List.filter_cons_of_pos (p := ltP n) h1, List.filter_cons_of_neg (p := gtP n) (by unfold gtP; rw [less_asymm h1]; decide)]; simp; omega
  have := this l
  omega

/-! ### again -/
theorem filter_none (l : List At) (p : At → Bool) (h : ∀ a ∈ l, p a = false) : l.filter p = [] := List.filter_eq_nil_iff.2 (fun a ha => by rw [h a ha]; decide)
theorem filter_all (l : List At) (p : At → Bool) (h : ∀ a ∈ l, p a = true) : l.filter p = l := List.filter_eq_self.2 h
theorem put_put (l : List At) (n v u : ByteArray) : putL (putL l n v) n u = putL l n u := by
  have e1 : (putL l n v).filter (ltP n) = l.filter (ltP n) := by
    unfold putL
    rw [List.filter_append, filter_all _ _ (fun a ha => (List.mem_filter.1 ha).2), filter_none (_ :: _) _ ?_, List.append_nil]
    intro a ha
    rcases List.mem_cons.1 ha with rfl | ha
    · exact less_irrefl _
    · exact less_asymm (List.mem_filter.1 ha).2
  have e2 : (putL l n v).filter (gtP n) = l.filter (gtP n) := by
    unfold putL
    rw [List.filter_append, filter_none (l.filter (ltP n)) (gtP n) (fun a ha => less_asymm (List.mem_filter.1 ha).2), List.filter_cons_of_neg (p := gtP n) (by unfold gtP; rw [less_irrefl]; decide), filter_all _ _ (fun a ha => (List.mem_filter.1 ha).2), List.nil_append]
  show (putL l n v).filter (ltP n) ++ (n, u) :: (putL l n v).filter (gtP n) = _
  rw [e1, e2]
  rfl
theorem cut_sorted {l : List At} (n : ByteArray) : Rise l → cutL l n = l.filter (ltP n) ++ l.filter (gtP n) := by
  induction l with
  | nil => intro _; rfl
  | cons a l ih =>
    intro h
    obtain ⟨h1, h2⟩ := List.pairwise_cons.1 h
    have ih := ih h2
    unfold cutL at ih ⊢
    cases e1 : ltP n a
    · cases e2 : gtP n a
      · have e := less_total _ _ e1 e2
        rw [List.filter_cons_of_neg (p := neP n) (by unfold neP; rw [e]; simp), List.filter_cons_of_neg (p := ltP n) (by rw [e1]; decide), List.filter_cons_of_neg (p := gtP n) (by rw [e2]; decide), ih]
      · rw [List.filter_cons_of_pos (p := neP n) (by unfold neP; rw [less_ne' e2]; rfl), List.filter_cons_of_neg (p := ltP n) (by rw [e1]; decide), List.filter_cons_of_pos (p := gtP n) e2, ih]
        rw [filter_none l (ltP n) (fun b hb => less_asymm (less_trans e2 (h1 b hb)))]
        rfl
    · rw [List.filter_cons_of_pos (p := neP n) (by unfold neP; rw [less_ne e1]; rfl), List.filter_cons_of_pos (p := ltP n) e1, List.filter_cons_of_neg (p := gtP n) (by unfold gtP; rw [less_asymm e1]; decide), ih]
      rfl
theorem cut_put {l : List At} (h : Rise l) (n v : ByteArray) : cutL (putL l n v) n = cutL l n := by
  rw [cut_sorted n h]
  unfold cutL putL
  rw [List.filter_append, filter_all (l.filter (ltP n)) (neP n) (fun a ha => by unfold neP; rw [less_ne (List.mem_filter.1 ha).2]; rfl), List.filter_cons_of_neg (p := neP n) (by unfold neP; simp), filter_all (l.filter (gtP n)) (neP n) (fun a ha => by unfold neP; rw [less_ne' (List.mem_filter.1 ha).2]; rfl)]
end Go.Proofs.Ytcdlleeonfnamaa
