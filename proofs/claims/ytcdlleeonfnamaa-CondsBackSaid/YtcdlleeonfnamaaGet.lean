import Derived.Test.YtcdlleeonfnamaaFind
namespace Go.Proofs.Ytcdlleeonfnamaa
open Go.RowKit
set_option maxRecDepth 100000

theorem named_c (n : ByteArray) (w : World) : Calls Try.prog 26 #[.string n] w fun e w' => e = .returned (.func (Fn.func 37) #[] #[.pointer (some ⟨w.heap.size, 0, none⟩)]) ∧ w' = w.alloc (.cells #[.string n] 9) := by
  go_enter Try.func26, Try.ntmps26
  go_wp2
  go_ret
  exact ⟨rfl, rfl⟩

set_option maxHeartbeats 1000000 in
theorem get_any (v : Value) (l : List At) (n : ByteArray) (w : World) (h : Attrs w v l) : Calls Try.prog 15 #[v, .string n] w fun e w' => e = .returned (getV (getL l n)) ∧ Below w.heap.size w w' := by
  have hF := find_named v l n w.heap.size (w.alloc (.cells #[.string n] 9)) (h.below (laidNew _ _)) (by rw [World.cell?_alloc_new]; rfl) (by simp)
  obtain ⟨g1, g2⟩ := get_idx l n
  have hle := idx_le (isP n) l
  obtain ⟨p, cap, rfl, hl, -, hc⟩ := h
  by_cases hlt : l.findIdx (isP n) < l.length
  · obtain ⟨k, hlt, hk, hg⟩ : ∃ (k : Nat) (h : k < l.length), l.findIdx (isP n) = k ∧ getL l n = some l[k].2 := ⟨_, hlt, rfl, g2 hlt⟩
    have HG := Lib.hid hg
    rw [hk] at hF
    obtain ⟨b, o, rfl, hb, hcc⟩ := hc (by omega)
    obtain ⟨-, c2⟩ := hcc k hlt
    have hne : ((k : Int) == (l.length : Int)) = false := by simp; omega
    clear g1 g2 hk hle hc hcc hg
    go_enter Try.func15, Try.ntmps15
    go_wp2_with (first | (go_at_call 26; refine (named_c _ _).mono ?_; rintro e w2 ⟨rfl, rfl⟩) | (go_at_call 23; refine hF.mono ?_; rintro e w3 ⟨rfl, hb3⟩; have c3 := ((behind (laidNew w _) hb3).cell (p := ⟨b, o + k * 2 + 1, none⟩) hb).trans c2))
    go_ret2
    exact ⟨ret_v (get_some HG.out), behind (laidNew _ _) hb3⟩
  · have HG : Hid (getL l n = none) := Lib.hid (g1 (by omega))
    have hk2 : l.findIdx (isP n) = l.length := by omega
    rw [hk2] at hF
    clear g1 g2 hle hc hlt hk2
    go_enter Try.func15, Try.ntmps15
    go_wp2_with (first | (go_at_call 26; refine (named_c _ _).mono ?_; rintro e w2 ⟨rfl, rfl⟩) | (go_at_call 23; refine hF.mono ?_; rintro e w3 ⟨rfl, hb3⟩))
    go_ret2
    exact ⟨ret_v (get_none HG.out), behind (laidNew _ _) hb3⟩
end Go.Proofs.Ytcdlleeonfnamaa
