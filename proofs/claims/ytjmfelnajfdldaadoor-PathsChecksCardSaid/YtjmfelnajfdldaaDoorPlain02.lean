import Derived.Test.YtjmfelnajfdldaaDoorParts
import Derived.Test.YtjmfelnajfdldaaDoorChange
namespace Go.Proofs.YtjmfelnajfdldaaDoor
open Go.RowKit

theorem nm_dot {c : UInt8} (h : nmB c = true) : ¬ c = 46 := by
  intro e; subst e; revert h; decide
theorem name_dot (l : List UInt8) (h : nameB l = true) : 46 ∉ l := by
  unfold nameB at h
  simp only [Bool.and_eq_true, decide_eq_true_eq] at h
  intro hm
  exact nm_dot (List.all_eq_true.1 h.2 _ hm) rfl
theorem name_len (l : List UInt8) (h : nameB l = true) : l.length ≤ 60 := by
  unfold nameB at h
  simp only [Bool.and_eq_true, decide_eq_true_eq] at h
  exact h.1.1.2
theorem name_nil : nameB [] = false := rfl
theorem name_check (l : List UInt8) (h : nameB l = true) : checkB l = true := by
  rw [checkB_short l (name_len l h), parts_plain l (name_dot l h)]
  simpa using h

theorem all_app (a b : List (List UInt8)) : (a ++ b).all nameB = (a.all nameB && b.all nameB) := List.all_append
theorem parts_join (a b : List UInt8) : (parts (a ++ 46 :: b)).all nameB = ((parts a).all nameB && (parts b).all nameB) := by rw [parts_cut, all_app]
theorem check_join (a b : List UInt8) : checkB (a ++ 46 :: b) = (checkB a && checkB b && decide (a.length + b.length < 60)) := by
  by_cases h : a.length + b.length < 60
  · rw [checkB_short _ (by simp; omega), checkB_short a (by omega), checkB_short b (by omega), parts_join, decide_eq_true h, Bool.and_true]
  · rw [checkB_long _ (by simp; omega), decide_eq_false h, Bool.and_false]
theorem check_of_parts (l : List UInt8) (h : (parts l).all nameB = false) : checkB l = false := by
  unfold checkB; rw [h, Bool.and_false]
theorem check_after (a : List UInt8) : checkB (a ++ [46]) = false := by
  apply check_of_parts; rw [parts_join]; simp [parts, name_nil]
theorem check_before (a : List UInt8) : checkB (46 :: a) = false := by
  apply check_of_parts; rw [parts_dot _ _ rfl]; simp [name_nil]
theorem check_twice (a b : List UInt8) : checkB (a ++ 46 :: 46 :: b) = false := by
  apply check_of_parts; rw [parts_join, parts_dot _ _ rfl]; simp [name_nil]

theorem parts_mem (l : List UInt8) : ∀ c ∈ l, c = 46 ∨ ∃ p ∈ parts l, c ∈ p := by
  induction l with
  | nil => simp
  | cons d l ih =>
    intro c hc
    by_cases h : d = 46
    · rw [parts_dot _ _ h]
      rcases List.mem_cons.1 hc with rfl | hc
      · exact .inl h
      · rcases ih c hc with h1 | ⟨p, hp, hcp⟩
        · exact .inl h1
        · exact .inr ⟨p, by simp [hp], hcp⟩
    · rw [parts_other _ _ h]
      rcases List.mem_cons.1 hc with rfl | hc
      · exact .inr ⟨_, List.mem_cons_self, by simp⟩
      · rcases ih c hc with h1 | ⟨p, hp, hcp⟩
        · exact .inl h1
        · right
          cases hq : parts l with
          | nil => exact absurd hq (parts_ne l)
          | cons q qs =>
            rw [hq] at hp
            rcases List.mem_cons.1 hp with rfl | hp
            · exact ⟨_, List.mem_cons_self, by simp [hcp]⟩
            · exact ⟨p, by simp [hp], hcp⟩

theorem check_parts (l : List UInt8) (h : checkB l = true) : l.length ≤ 60 ∧ (parts l).all nameB = true := by
  unfold checkB at h
  simpa using h

theorem check_bytes (l : List UInt8) (h : checkB l = true) (c : UInt8) (hc : c ∈ l) : c = 46 ∨ nmB c = true := by
  rcases parts_mem l c hc with h1 | ⟨p, hp, hcp⟩
  · exact .inl h1
  · have h2 := List.all_eq_true.1 (check_parts l h).2 p hp
    unfold nameB at h2
    simp only [Bool.and_eq_true, decide_eq_true_eq] at h2
    exact .inr (List.all_eq_true.1 h2.2 c hcp)

theorem check_head (l : List UInt8) (h : checkB l = true) : ∃ c r, l = c :: r ∧ isL (c.toNat : Int) = true := by
  have h2 := (check_parts l h).2
  cases l with
  | nil => simp [parts, name_nil] at h2
  | cons c r =>
    refine ⟨c, r, rfl, ?_⟩
    by_cases hc : c = 46
    · rw [parts_dot _ _ hc] at h2; simp [name_nil] at h2
    · rw [parts_other _ _ hc] at h2
      simp only [List.all_cons, Bool.and_eq_true] at h2
      have h3 := h2.1
      unfold nameB at h3
      simp only [Bool.and_eq_true, decide_eq_true_eq] at h3
      exact h3.1.2

theorem low_dot (c : UInt8) : lowB c = 46 ↔ c = 46 := by
  have h := lowB_toNat c
  have e46 : (46 : UInt8).toNat = 46 := rfl
  constructor
  · intro e
    rw [e] at h
    unfold lowN at h
    apply UInt8.toNat_inj.1
    split at h <;> omega
  · intro e; subst e; decide
theorem parts_low (l : List UInt8) : parts (lowL l) = (parts l).map lowL := by
  unfold lowL
  induction l with
  | nil => rfl
  | cons c l ih =>
    rw [List.map_cons]
    by_cases h : c = 46
    · rw [parts_dot _ _ h, parts_dot _ _ ((low_dot c).2 h), ih]; rfl
    · rw [parts_other _ _ h, parts_other _ _ (fun e => h ((low_dot c).1 e)), ih]
      cases hp : parts l with
      | nil => exact absurd hp (parts_ne l)
      | cons p ps => rfl

theorem isL_low (c : UInt8) : isL ((lowB c).toNat : Int) = isL (c.toNat : Int) := by
  rw [lowB_toNat, Bool.eq_iff_iff]
  unfold lowN isL
  simp only [Bool.or_eq_true, decide_eq_true_eq]
  split <;> omega
theorem nm_low (c : UInt8) : nmB (lowB c) = nmB c := by
  unfold nmB
  rw [lowB_toNat, Bool.eq_iff_iff]
  unfold lowN isA isL isD
  simp only [Bool.or_eq_true, decide_eq_true_eq]
  split <;> omega
theorem name_low (l : List UInt8) (h : nameB l = true) : nameB (lowL l) = true := by
  unfold nameB at *
  simp only [Bool.and_eq_true, decide_eq_true_eq] at *
  obtain ⟨⟨⟨h1, h2⟩, h3⟩, h4⟩ := h
  have hlen : (lowL l).length = l.length := by simp [lowL]
  refine ⟨⟨⟨by omega, by omega⟩, ?_⟩, ?_⟩
  · cases l with
    | nil => simp at h1
    | cons c l => simpa [lowL, isL_low] using h3
  · unfold lowL
    rw [List.all_map]
    simpa [Function.comp_def, nm_low] using h4
theorem check_low (l : List UInt8) (h : checkB l = true) : checkB (lowL l) = true := by
  obtain ⟨h1, h2⟩ := check_parts l h
  rw [checkB_short _ (by simp [lowL]; exact h1), parts_low, List.all_map]
  rw [List.all_eq_true] at h2 ⊢
  intro p hp
  exact name_low p (h2 p hp)

/-- '.html' -/
def html : List UInt8 := [104, 116, 109, 108]
theorem name_html : nameB html = true := by decide
theorem check_page (a : List UInt8) (h : checkB a = true) : checkB (a ++ 46 :: html) = decide (a.length + 5 ≤ 60) := by
  rw [check_join, h, name_check html name_html]
  have : html.length = 4 := rfl
  rw [this, Bool.and_self, Bool.true_and, decide_eq_decide]
  omega

theorem cat_data (a b : ByteArray) : (a ++ b).data.toList = a.data.toList ++ b.data.toList := by
  rw [ByteArray.data_append]; simp
theorem cat_size (a b : ByteArray) : (a ++ b).size = a.size + b.size := ByteArray.size_append
theorem data_inj {a b : ByteArray} (h : a.data.toList = b.data.toList) : a = b := by
  apply ByteArray.ext; exact Array.toList_inj.1 h
theorem cat_right (a b c : ByteArray) (h : a ++ c = b ++ c) : a = b := by
  have := congrArg (fun x : ByteArray => x.data.toList) h
  simp only [cat_data] at this
  exact data_inj (List.append_cancel_right this)
theorem cat_left (a b c : ByteArray) (h : c ++ a = c ++ b) : a = b := by
  have := congrArg (fun x : ByteArray => x.data.toList) h
  simp only [cat_data] at this
  exact data_inj (List.append_cancel_left this)
end Go.Proofs.YtjmfelnajfdldaaDoor
