import Derived.Test.YtljkcdmcjbhgaaaGreatDoorShelf
import Derived.Test.YtljkcdmcjbhgaaaGreatDoorWords
import Derived.Test.YtljkcdmcjbhgaaaGreatDoorBeyond
namespace Go.Proofs.YtljkcdmcjbhgaaaGreatDoor
set_option maxRecDepth 100000
open Go.RowKit Go.Shelf

/-- a text as a value -/
def strV (l : List UInt8) : Value := .string ⟨l.toArray⟩

theorem strV_data (t : ByteArray) : strV t.data.toList = .string t := by unfold strV; rfl

theorem gap_at (w : World) : PredAt Tryz.prog 11 #[] encR gapR w := fun W r _ => by
  unfold FnGives encR
  by_cases h1 : r = 32
  · subst h1
    go_enter Tryz.func11, Tryz.ntmps11
    go_wp2
    go_ret
    exact ⟨rfl, 0, rfl⟩
  · by_cases h2 : r = 9
    · subst h2
      go_enter Tryz.func11, Tryz.ntmps11
      go_wp2
      go_ret
      exact ⟨rfl, 0, rfl⟩
    · by_cases h3 : r = 10
      · subst h3
        go_enter Tryz.func11, Tryz.ntmps11
        go_wp2
        go_ret
        exact ⟨rfl, 0, rfl⟩
      · have e1 : ((r : Int) == 32) = false := by simp; omega
        have e2 : ((r : Int) == 9) = false := by simp; omega
        have e3 : ((r : Int) == 10) = false := by simp; omega
        have hg : false = gapR r := by simp [gapR, h1, h2, h3]
        have HG := Lib.hid hg
        clear hg
        go_enter Tryz.func11, Tryz.ntmps11
        go_wp2
        go_ret
        exact ⟨ret_bool HG.out, 0, rfl⟩

theorem words_any (s : ByteArray) (w : World) (hs : s.size ≤ 4294967296) :
    Calls Tryz.prog 5 #[.string s] w fun e w' => ∃ A, e = .returned (.slice (some ⟨A, 0, none⟩) (wordsL s.data.toList).length (wordsL s.data.toList).length) ∧ w.heap.size ≤ A ∧
      w'.ownsRow w.heap.size 9 1 (.slice (some ⟨A, 0, none⟩) (wordsL s.data.toList).length (wordsL s.data.toList).length) (wordsL s.data.toList).length ((wordsL s.data.toList).map strV) ∧ Below w.heap.size w w' := by
  have hm : (Lib.goFieldsP gapR s).map Value.string = (wordsL s.data.toList).map strV := by
    rw [← fields_words, List.map_map]
    apply List.map_congr_left
    intro t _
    exact (strV_data t).symm
  have hl : (Lib.goFieldsP gapR s).length = (wordsL s.data.toList).length := by rw [← fields_words, List.length_map]
  have HM := Lib.hid hm
  have HL := Lib.hid hl
  clear hm hl
  go_enter Tryz.func5, Tryz.ntmps5
  go_wp2_with fail
  refine (Tryz.strings_FieldsFunc 11 #[] (enters_of Tryz.func11 (by kernel_rfl) rfl) gapR s w hs (gap_at w)).mono ?_
  rintro e w1 ⟨A, rfl, hA, hown, hb⟩
  rw [HL.out] at hown ⊢
  rw [HM.out] at hown
  go_wp2
  go_ret
  exact ⟨A, rfl, hA, hown, hb⟩
end Go.Proofs.YtljkcdmcjbhgaaaGreatDoor
