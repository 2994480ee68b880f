import Derived.Test.YtljkcdmcjbhgaaaGreatDoorGrowW
namespace Go.Proofs.YtljkcdmcjbhgaaaGreatDoor
open Go.RowKit
set_option maxRecDepth 100000

/-- the words from k on, the one from f being read -/
def wordsRest (L : List UInt8) (f k : Nat) : List (List UInt8) := if k ≤ L.length then wordsGo (cutL L f k) (L.drop k) else []

theorem wordsRest_gap (L : List UInt8) (f k : Nat) (hk : k ≤ L.length) (hg : ∀ h : k < L.length, gapB L[k] = true) :
    wordsRest L f k = (if f < k then [cutL L f k] else []) ++ wordsRest L (k + 1) (k + 1) := by
  have hl := cutL_length L f k hk
  have e0 : (cutL L f k = []) ↔ ¬ f < k := by rw [← List.length_eq_zero_iff, hl]; omega
  have e1 : cutL L (k + 1) (k + 1) = [] := by simp [cutL]
  unfold wordsRest
  rw [if_pos hk]
  by_cases h : k < L.length
  · rw [if_pos (show k + 1 ≤ L.length by omega), e1, List.drop_eq_getElem_cons h, wordsGo, hg h, if_pos rfl]
    by_cases hf : f < k
    · rw [if_neg (fun e => e0.1 e hf), if_pos hf]; rfl
    · rw [if_pos (e0.2 hf), if_neg hf]; rfl
  · rw [if_neg (show ¬ k + 1 ≤ L.length by omega), List.drop_eq_nil_of_le (by omega), wordsGo]
    by_cases hf : f < k
    · rw [if_neg (fun e => e0.1 e hf), if_pos hf]; rfl
    · rw [if_pos (e0.2 hf), if_neg hf]; rfl

theorem wordsRest_go (L : List UInt8) (f k : Nat) (h : k < L.length) (hf : f ≤ k) (hg : gapB L[k] = false) : wordsRest L f k = wordsRest L f (k + 1) := by
  unfold wordsRest
  rw [if_pos (by omega), if_pos (by omega), List.drop_eq_getElem_cons h, wordsGo, hg, ← cutL_grow L f k 1 hf]
  simp only [Bool.false_eq_true, if_false]
  congr 2
  rw [List.drop_eq_getElem_cons h]; rfl

theorem wordsRest_done (L : List UInt8) (f k : Nat) (h : L.length < k) : wordsRest L f k = [] := by
  unfold wordsRest; rw [if_neg (by omega)]

theorem words_start (L : List UInt8) : wordsL L = [] ++ wordsRest L 0 0 := by
  unfold wordsRest wordsL; simp [cutL]

theorem strV_cut (s : ByteArray) (f k : Nat) : Value.string (s.extract f k) = strV (cutL s.data.toList f k) := by
  unfold strV cutL
  congr 1
  apply data_inj
  simp

/-- what the own function for words answers -/
def WordsPost (s : ByteArray) (w : World) (e : Ending) (w' : World) : Prop :=
  ∃ p c, e = .returned (.slice p (wordsL s.data.toList).length c) ∧
      w'.ownsRow w.heap.size 9 1 (.slice p (wordsL s.data.toList).length c) (wordsL s.data.toList).length ((wordsL s.data.toList).map strV) ∧ Below w.heap.size w w'

theorem words_post {s : ByteArray} {w w' : World} {acc : List (List UInt8)} {f k : Nat} {p : Option Addr} {c : Nat} (h : wordsL s.data.toList = acc ++ wordsRest s.data.toList f k) (hk : s.size < k)
    (hr : w'.ownsRow w.heap.size 9 1 (.slice p acc.length c) acc.length (acc.map strV)) (hb : Below w.heap.size w w') : WordsPost s w (.returned (.slice p acc.length c)) w' := by
  rw [wordsRest_done _ _ _ (by simpa using hk), List.append_nil] at h
  subst h
  exact ⟨p, c, rfl, hr, hb⟩

set_option maxHeartbeats 4000000 in
theorem refWords_any (s : ByteArray) (w : World) (hs : s.size ≤ 4294967296) : Calls Tryz.prog 7 #[.string s] w (WordsPost s w) := by
  have hz : s.data.toList.length = s.size := by simp
  obtain ⟨i0, hi, hz0, hz1, hz2⟩ := info_parts info9
  go_enter Tryz.func7, Tryz.ntmps7
  go_wp2
  go_loopw [3, 4, 5] (fun l fr i wr => ∃ (k f : Nat) (acc : List (List UInt8)) (p : Option Addr) (c : Nat), k ≤ s.size + 1 ∧ f ≤ k ∧ i = .int .i64 k ∧ fr = .int .i64 f ∧ l = .slice p acc.length c ∧ acc.length ≤ k ∧
    wr.ownsRow w.heap.size 9 1 (.slice p acc.length c) acc.length (acc.map strV) ∧ Below w.heap.size w wr ∧ wordsL s.data.toList = acc ++ wordsRest s.data.toList f k) (fun _ _ i _ => s.size + 1 - (intOf i).toNat)
  case atStart => exact ⟨0, 0, [], none, 0, by omega, by omega, rfl, rfl, rfl, by simp, ⟨rfl, .inl ⟨rfl, rfl⟩⟩, Below.refl _ _, words_start _⟩
  case round =>
    obtain ⟨k, f, acc, p, c, hk, hf, rfl, rfl, rfl, hak, hrow, hb, hacc⟩ := hrel
    have hbs := hb.size
    by_cases hle : k ≤ s.size
    · have HA := Lib.hid hacc
      clear hacc
      by_cases hlt : k < s.size
      · by_cases hg : gapB s[k] = true
        · have HS := Lib.hid (wordsRest_gap s.data.toList f k (by omega) (fun _ => hg))
          have h3 : s[k].toNat = 32 ∨ s[k].toNat = 9 ∨ s[k].toNat = 10 := by simpa [gapB, or_assoc] using hg
          have hE : ((s[k].toNat : Int) != 32) = false ∨ (((s[k].toNat : Int) != 32) = true ∧ ((s[k].toNat : Int) != 9) = false) ∨ (((s[k].toNat : Int) != 32) = true ∧ ((s[k].toNat : Int) != 9) = true ∧ ((s[k].toNat : Int) != 10) = false) := by simp; omega
          clear hg h3
          rcases hE with e1 | ⟨e1, e2⟩ | ⟨e1, e2, e3⟩
          all_goals
            by_cases hfk : f < k
            · go_wp2_with (at_builtin; refine wpList_append_own _ rfl _ _ 23 rfl w.heap.size 9 i0 (.string ⟨#[]⟩) 1 16 Tryz.underlying23 hi hz0 hz1 hz2 rfl (by decide) _ _ _ rfl (hrow.alloc _) ⟨wr.heap.size, 0, none⟩ 1 1 [.string (s.extract f k)] rfl rfl (cell_one_new _ _ _) (by simp [Value.oneCell']) (by unfold maxLen; omega) (by omega) (by simp; omega) ?_; intro v' w2 hown2 hgrow2 _)
              all_goals
                try (exfalso; omega)
              all_goals
                obtain ⟨g', cap', rfl⟩ := ownsRow_succ hown2
                go_roundw
                case rel => exact ⟨k + 1, k + 1, acc ++ [cutL s.data.toList f k], some ⟨g', 0, none⟩, cap', by omega, by omega, by go_num, by go_num, by simp, by simp; omega, by simpa [strV_cut] using hown2, (hb.alloc hbs _).grown hgrow2 (by simp; omega) (fun k hk => (hrow.lt k hk).1), by rw [HA.out, HS.out, if_pos hfk, List.append_assoc]⟩
                case measure => simp [intOf]; omega
            · go_wp2
              all_goals
                try (exfalso; omega)
              all_goals
                go_roundw
                case rel => exact ⟨k + 1, k + 1, acc, p, c, by omega, by omega, by go_num, by go_num, rfl, by omega, hrow, hb, by rw [HA.out, HS.out, if_neg hfk]; rfl⟩
                case measure => simp [intOf]; omega
        · have HN := Lib.hid (wordsRest_go s.data.toList f k (by omega) hf (Bool.eq_false_iff.2 hg))
          have h3 : s[k].toNat ≠ 32 ∧ s[k].toNat ≠ 9 ∧ s[k].toNat ≠ 10 := by simpa [gapB, and_assoc] using hg
          obtain ⟨n1, n2, n3⟩ := h3
          have e1 : ((s[k].toNat : Int) != 32) = true := by simp; omega
          have e2 : ((s[k].toNat : Int) != 9) = true := by simp; omega
          have e3 : ((s[k].toNat : Int) != 10) = true := by simp; omega
          clear hg n1 n2 n3
          go_wp2
          all_goals
            go_roundw
            case rel => exact ⟨k + 1, f, acc, p, c, by omega, by omega, by go_num, rfl, rfl, by omega, hrow, hb, by rw [HA.out, HN.out]⟩
            case measure => simp [intOf]; omega
      · have HS := Lib.hid (wordsRest_gap s.data.toList f k (by omega) (fun h => absurd h (by omega)))
        by_cases hfk : f < k
        · go_wp2_with (at_builtin; refine wpList_append_own _ rfl _ _ 23 rfl w.heap.size 9 i0 (.string ⟨#[]⟩) 1 16 Tryz.underlying23 hi hz0 hz1 hz2 rfl (by decide) _ _ _ rfl (hrow.alloc _) ⟨wr.heap.size, 0, none⟩ 1 1 [.string (s.extract f k)] rfl rfl (cell_one_new _ _ _) (by simp [Value.oneCell']) (by unfold maxLen; omega) (by omega) (by simp; omega) ?_; intro v' w2 hown2 hgrow2 _)
          all_goals
            obtain ⟨g', cap', rfl⟩ := ownsRow_succ hown2
            go_roundw
            case rel => exact ⟨k + 1, k + 1, acc ++ [cutL s.data.toList f k], some ⟨g', 0, none⟩, cap', by omega, by omega, by go_num, by go_num, by simp, by simp; omega, by simpa [strV_cut] using hown2, (hb.alloc hbs _).grown hgrow2 (by simp; omega) (fun k hk => (hrow.lt k hk).1), by rw [HA.out, HS.out, if_pos hfk, List.append_assoc]⟩
            case measure => simp [intOf]; omega
        · go_wp2
          all_goals
            go_roundw
            case rel => exact ⟨k + 1, k + 1, acc, p, c, by omega, by omega, by go_num, by go_num, rfl, by omega, hrow, hb, by rw [HA.out, HS.out, if_neg hfk]; rfl⟩
            case measure => simp [intOf]; omega
    · go_wp2
      go_ret
      exact words_post hacc (by omega) hrow hb
end Go.Proofs.YtljkcdmcjbhgaaaGreatDoor
