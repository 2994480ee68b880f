import Derived.Test.YtbhipobedijfbaaEscG
import Derived.Laws.IdiomStrings
import Derived.Lib.AppendStr
import Derived.WalkSpells
namespace Go.Proofs.Ytbhipobedijfbaa
open Go.RowKit Go.Maps
set_option maxRecDepth 100000

/-! ### the document's own answer: what stands for a byte -/
def stB (c : UInt8) : ByteArray := bT ((markL c).getD [])
theorem byte_eq (c : UInt8) (n : Nat) (hn : n < 256) : ((c.toNat : Int) == (n : Int)) = decide (c = UInt8.ofNat n) := by
  rw [Bool.eq_iff_iff, beq_iff_eq, decide_eq_true_eq]
  constructor
  · intro e
    apply UInt8.toNat_inj.1
    rw [UInt8.toNat_ofNat']; omega
  · rintro rfl
    rw [UInt8.toNat_ofNat']; omega

set_option maxHeartbeats 2000000 in
theorem stands_c (c : UInt8) (w : World) : Calls Try.prog 25 #[.int .u8 (c.toNat : Int)] w fun e w' => e = .returned (.string (stB c)) ∧ w = w' := by
  have h1 := byte_eq c 38 (by omega)
  have h2 := byte_eq c 60 (by omega)
  have h3 := byte_eq c 62 (by omega)
  have h4 := byte_eq c 34 (by omega)
  have h5 := byte_eq c 39 (by omega)
  by_cases e1 : c = 38
  · subst e1
    go_enter Try.func25, Try.ntmps25
    go_wp2
    go_ret
    exact ⟨rfl, rfl⟩
  by_cases e2 : c = 60
  · subst e2
    go_enter Try.func25, Try.ntmps25
    go_wp2
    go_ret
    exact ⟨rfl, rfl⟩
  by_cases e3 : c = 62
  · subst e3
    go_enter Try.func25, Try.ntmps25
    go_wp2
    go_ret
    exact ⟨rfl, rfl⟩
  by_cases e4 : c = 34
  · subst e4
    go_enter Try.func25, Try.ntmps25
    go_wp2
    go_ret
    exact ⟨rfl, rfl⟩
  by_cases e5 : c = 39
  · subst e5
    go_enter Try.func25, Try.ntmps25
    go_wp2
    go_ret
    exact ⟨rfl, rfl⟩
  have f1 : ((c.toNat : Int) == 38) = false := h1.trans (decide_eq_false e1)
  have f2 : ((c.toNat : Int) == 60) = false := h2.trans (decide_eq_false e2)
  have f3 : ((c.toNat : Int) == 62) = false := h3.trans (decide_eq_false e3)
  have f4 : ((c.toNat : Int) == 34) = false := h4.trans (decide_eq_false e4)
  have f5 : ((c.toNat : Int) == 39) = false := h5.trans (decide_eq_false e5)
  have hm : stB c = ⟨#[]⟩ := by
    unfold stB markL
    rw [if_neg e1, if_neg e2, if_neg e3, if_neg e4, if_neg e5]; rfl
  have HM := Lib.hid hm
  clear h1 h2 h3 h4 h5 e1 e2 e3 e4 e5 hm
  go_enter Try.func25, Try.ntmps25
  go_wp2
  go_ret
  exact ⟨by rw [HM.out]; rfl, rfl⟩

/-! ### a row of bytes, as a text -/
theorem conv_row (w : World) (B n : Nat) (v : Value) (l : List UInt8) (h : w.ownsRow B 5 1 v n (Lib.byteCells l)) : (convert 44 9 v).run Try.prog w = .ok (.string (bT l)) w := by
  have hl : (Lib.byteCells l).length = n * 1 := h.1
  rw [Lib.byteCells_length, Nat.mul_one] at hl
  rcases h.2 with ⟨rfl, h0⟩ | ⟨g, cap, cur, rfl, -, hg, -, -, -, ht⟩
  · have : l = [] := List.eq_nil_of_length_eq_zero (by omega)
    subst this
    rfl
  · subst hl
    refine run_convert_bytes_back (P := Try.prog) w 44 9 5 ⟨g, 0, none⟩ cap l Try.underlying44 Try.underlying5 Try.underlying9 (fun j hj => ?_)
    have e1 : (Lib.byteCells l)[j]? = some (.int .u8 ((l[j]).toNat : Int)) := by unfold Lib.byteCells; rw [List.getElem?_map, List.getElem?_eq_getElem hj]; rfl
    have e2 : (⟨g, 0, none⟩ : Addr).add j = ⟨g, j, none⟩ := by by_cases hj0 : j = 0 <;> simp [Addr.add, hj0]
    rw [e2]
    simp only [World.cell?, hg]
    rw [← ht, List.getElem?_take] at e1
    split at e1
    · simpa using e1
    · cases e1
end Go.Proofs.Ytbhipobedijfbaa
