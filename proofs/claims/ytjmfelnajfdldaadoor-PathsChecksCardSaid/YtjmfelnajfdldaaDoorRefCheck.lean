import Derived.Test.YtjmfelnajfdldaaDoorRefName
import Derived.Test.YtjmfelnajfdldaaDoorParts
namespace Go.Proofs.YtjmfelnajfdldaaDoor
open Go.RowKit

/-- where the document's own walk stands: all parts ahead of place f are names, and none of the bytes from f to k is a point -/
def Mid (l : List UInt8) (f k : Nat) : Prop :=
  (k ≤ l.length ∧ f ≤ k ∧ (parts l).all nameB = (parts (l.drop f)).all nameB ∧ 46 ∉ (l.take k).drop f) ∨ (k = l.length + 1 ∧ (parts l).all nameB = true)

theorem mid_zero (l : List UInt8) : Mid l 0 0 := .inl ⟨by omega, by omega, rfl, by simp⟩
theorem mid_in {l : List UInt8} {f k : Nat} (h : Mid l f k) (hk : k ≤ l.length) : f ≤ k ∧ (parts l).all nameB = (parts (l.drop f)).all nameB ∧ 46 ∉ (l.take k).drop f := by
  rcases h with ⟨_, h⟩ | ⟨h, _⟩
  · exact h
  · omega
theorem mid_out {l : List UInt8} {f k : Nat} (h : Mid l f k) (hk : ¬ k ≤ l.length) : (parts l).all nameB = true := by
  rcases h with ⟨h, _⟩ | ⟨_, h⟩
  · omega
  · exact h
theorem drop_cut (l : List UInt8) (f k : Nat) (hf : f ≤ k) (hk : k < l.length) : l.drop f = (l.take k).drop f ++ l[k] :: l.drop (k + 1) := by
  have e : l = l.take k ++ l[k] :: l.drop (k + 1) := by rw [← List.drop_eq_getElem_cons hk, List.take_append_drop]
  have h2 : (l.take k).length = k := by rw [List.length_take]; omega
  have h3 : (l.take k ++ l[k] :: l.drop (k + 1)).drop f = (l.take k).drop f ++ l[k] :: l.drop (k + 1) := by
    rw [List.drop_append, h2, Nat.sub_eq_zero_of_le hf]; rfl
  rw [← h3]
  exact congrArg (List.drop f) e
theorem mid_other {l : List UInt8} {f k : Nat} (h : Mid l f k) (hk : k < l.length) (hc : ¬ l[k] = 46) : Mid l f (k + 1) := by
  obtain ⟨h1, h2, h3⟩ := mid_in h (by omega)
  refine .inl ⟨hk, by omega, h2, ?_⟩
  rw [List.take_succ_eq_append_getElem hk, List.drop_append]
  simp only [List.mem_append, not_or]
  refine ⟨h3, fun hm => ?_⟩
  have := List.mem_of_mem_drop hm
  simp at this
  exact hc this.symm
theorem mid_end {l : List UInt8} {f k : Nat} (h : Mid l f k) (hk : k = l.length) : (parts l).all nameB = nameB ((l.take k).drop f) := by
  obtain ⟨h1, h2, h3⟩ := mid_in h (by omega)
  rw [List.take_of_length_le (by omega)] at h3 ⊢
  rw [h2, parts_plain _ h3]; simp
theorem mid_dot {l : List UInt8} {f k : Nat} (h : Mid l f k) (hk : k < l.length) (hc : l[k] = 46) : (parts l).all nameB = (nameB ((l.take k).drop f) && (parts (l.drop (k + 1))).all nameB) := by
  obtain ⟨h1, h2, h3⟩ := mid_in h (by omega)
  rw [h2, drop_cut l f k h1 hk, hc, parts_first _ _ h3]; simp
theorem mid_end_next {l : List UInt8} {f k : Nat} (h : Mid l f k) (hk : k = l.length) (hn : nameB ((l.take k).drop f) = true) : Mid l (k + 1) (k + 1) :=
  .inr ⟨by omega, by rw [mid_end h hk, hn]⟩
theorem mid_dot_next {l : List UInt8} {f k : Nat} (h : Mid l f k) (hk : k < l.length) (hc : l[k] = 46) (hn : nameB ((l.take k).drop f) = true) : Mid l (k + 1) (k + 1) :=
  .inl ⟨hk, by omega, by rw [mid_dot h hk hc, hn]; rfl, by rw [List.drop_of_length_le (by rw [List.length_take]; omega)]; simp⟩
theorem mid_end_false {l : List UInt8} {f k : Nat} (h : Mid l f k) (hk : k = l.length) (hn : nameB ((l.take k).drop f) = false) : (parts l).all nameB = false := by
  rw [mid_end h hk, hn]
theorem mid_dot_false {l : List UInt8} {f k : Nat} (h : Mid l f k) (hk : k < l.length) (hc : l[k] = 46) (hn : nameB ((l.take k).drop f) = false) : (parts l).all nameB = false := by
  rw [mid_dot h hk hc, hn]; rfl

theorem refName_c (s : ByteArray) (r : Bool) (w : World) (hs : s.size ≤ maxLen) (h : nameB s.data.toList = r) :
    Calls Tryd.prog 17 #[.string s] w fun e w' => e = .returned (.bool r) ∧ w = w' := by subst h; exact refName_any s w hs

theorem extract_list (s : ByteArray) (f k : Nat) : (s.extract f k).data.toList = (s.data.toList.take k).drop f := by
  rw [Lib.extract_data, List.drop_take]

set_option maxHeartbeats 1000000 in
theorem refCheck_any (s : ByteArray) (w : World) :
    Calls Tryd.prog 9 #[.string s] w fun e w' => e = .returned (.bool (checkB s.data.toList)) ∧ w = w' := by
  have hz : s.data.toList.length = s.size := by simp
  by_cases h60 : s.size ≤ 60
  · have HF := Lib.hid (checkB_short s.data.toList (by omega))
    have HZ := Lib.hid hz
    clear hz
    go_enter Tryd.func9, Tryd.ntmps9
    go_wp2
    go_loop [3, 4] (fun a i => ∃ f k : Nat, f ≤ k ∧ k ≤ s.size + 1 ∧ a = .int .i64 f ∧ i = .int .i64 k ∧ Mid s.data.toList f k) (fun _ i => s.size + 1 - (intOf i).toNat)
    case atStart => exact ⟨0, 0, by omega, by omega, rfl, rfl, mid_zero _⟩
    case round =>
      obtain ⟨f, k, hfk, hk, rfl, rfl, hm⟩ := hrel
      have HM := Lib.hid hm
      clear hm
      by_cases hle : k ≤ s.size
      · have HX : Hid ((s.extract f k).size ≤ maxLen) := by exact Lib.hid (by rw [ByteArray.size_extract]; unfold maxLen; omega)
        by_cases hlt : k < s.size
        · by_cases hc : s[k]'hlt = 46
          · have hcn : (((s[k]'hlt).toNat : Int) == 46) = true := by rw [hc]; rfl
            have hlt' : k < s.data.toList.length := by rw [HZ.out]; exact hlt
            have hc' : s.data.toList[k] = 46 := hc
            have HEF := Lib.hid (fun hn => mid_dot_false HM.out hlt' hc' hn)
            have HET := Lib.hid (fun hn => mid_dot_next HM.out hlt' hc' hn)
            clear hc hc' hlt'
            have hki : ((k : Int) == (s.size : Int)) = false := by rw [beq_eq_false_iff_ne]; omega
            cases hn : nameB ((s.data.toList.take k).drop f)
            · have HN : Hid (nameB (s.extract f k).data.toList = false) := by exact Lib.hid (by rw [extract_list]; exact hn)
              have HE := Lib.hid (HEF.out hn)
              clear hn
              go_wp2_with fail
              refine (refName_c (s.extract f k) false _ HX.out HN.out).mono ?_
              rintro e w' ⟨rfl, rfl⟩
              go_wp2
              go_ret
              exact ⟨ret_bool (by rw [HF.out, HE.out]), rfl⟩
            · have HN : Hid (nameB (s.extract f k).data.toList = true) := by exact Lib.hid (by rw [extract_list]; exact hn)
              have HE := Lib.hid (HET.out hn)
              clear hn
              go_wp2_with fail
              refine (refName_c (s.extract f k) true _ HX.out HN.out).mono ?_
              rintro e w' ⟨rfl, rfl⟩
              go_wp2
              go_round
              case rel => exact ⟨k + 1, k + 1, by omega, by omega, by go_num, by go_num, HE.out⟩
              case measure => simp [intOf]; omega
          · have HE : Hid (Mid s.data.toList f (k + 1)) := by exact Lib.hid (mid_other HM.out (by rw [HZ.out]; exact hlt) hc)
            have hcn : (((s[k]'hlt).toNat : Int) == 46) = false := by
              rw [beq_eq_false_iff_ne]; intro h; exact hc (UInt8.toNat_inj.1 (by have : (46 : UInt8).toNat = 46 := rfl; omega))
            have hki : ((k : Int) == (s.size : Int)) = false := by rw [beq_eq_false_iff_ne]; omega
            clear hc
            go_wp2
            go_round
            case rel => exact ⟨f, k + 1, by omega, by omega, rfl, by go_num, HE.out⟩
            case measure => simp [intOf]; omega
        · have hks : k = s.data.toList.length := by rw [HZ.out]; omega
          have hki : ((k : Int) == (s.size : Int)) = true := by rw [beq_iff_eq]; omega
          have HKS := Lib.hid hks
          clear hks
          cases hn : nameB ((s.data.toList.take k).drop f)
          · have HN : Hid (nameB (s.extract f k).data.toList = false) := by exact Lib.hid (by rw [extract_list]; exact hn)
            have HE := Lib.hid (mid_end_false HM.out HKS.out hn)
            clear hn
            go_wp2_with fail
            refine (refName_c (s.extract f k) false _ HX.out HN.out).mono ?_
            rintro e w' ⟨rfl, rfl⟩
            go_wp2
            go_ret
            exact ⟨ret_bool (by rw [HF.out, HE.out]), rfl⟩
          · have HN : Hid (nameB (s.extract f k).data.toList = true) := by exact Lib.hid (by rw [extract_list]; exact hn)
            have HE := Lib.hid (mid_end_next HM.out HKS.out hn)
            clear hn
            go_wp2_with fail
            refine (refName_c (s.extract f k) true _ HX.out HN.out).mono ?_
            rintro e w' ⟨rfl, rfl⟩
            go_wp2
            go_round
            case rel => exact ⟨k + 1, k + 1, by omega, by omega, by go_num, by go_num, HE.out⟩
            case measure => simp [intOf]; omega
      · have HE := Lib.hid (mid_out HM.out (by rw [HZ.out]; omega))
        go_wp2
        go_ret
        exact ⟨ret_bool (by rw [HF.out, HE.out]), rfl⟩
  · have HF := Lib.hid (checkB_long s.data.toList (by omega))
    clear hz
    go_enter Tryd.func9, Tryd.ntmps9
    go_wp2
    go_ret
    exact ⟨ret_bool HF.out.symm, rfl⟩
end Go.Proofs.YtjmfelnajfdldaaDoor
