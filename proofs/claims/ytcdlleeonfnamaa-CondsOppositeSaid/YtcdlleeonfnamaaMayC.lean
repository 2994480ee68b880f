import Derived.Test.YtcdlleeonfnamaaFind
import Derived.Test.YtcdlleeonfnamaaMay
import Derived.Test.YtcdlleeonfnamaaCheckL
import Derived.IntWalk
import Derived.Lib.ConvBytes
namespace Go.Proofs.Ytcdlleeonfnamaa
open Go.RowKit
set_option maxRecDepth 100000

/-- a byte that a value may not have -/
def ctlB (c : UInt8) : Bool := !okB c
theorem control_c (c : UInt8) (w : World) : Calls Try.prog 47 #[.int .u8 c.toNat] w fun e w' => e = .returned (.bool (ctlB c)) ∧ w = w' := by
  by_cases h1 : (c.toNat : Int) < 32
  · have HF : Hid (ctlB c = true) := Lib.hid (by simp [ctlB, okB]; omega)
    go_enter Try.func47, Try.ntmps47
    go_wp2
    go_ret
    exact ⟨ret_bool HF.out.symm, rfl⟩
  · by_cases h2 : (c.toNat : Int) = 127
    · have HF : Hid (ctlB c = true) := Lib.hid (by simp [ctlB, okB]; omega)
      have e : ((c.toNat : Int) == 127) = true := by simp [h2]
      clear h2
      go_enter Try.func47, Try.ntmps47
      go_wp2
      go_ret
      exact ⟨ret_bool HF.out.symm, rfl⟩
    · have HF : Hid (ctlB c = false) := Lib.hid (by simp [ctlB, okB]; omega)
      have e : ((c.toNat : Int) == 127) = false := by simpa using h2
      clear h2
      go_enter Try.func47, Try.ntmps47
      go_wp2
      go_ret
      exact ⟨ret_bool HF.out.symm, rfl⟩
/-- cells of a row of bytes, that may be written -/
def BytesIn (w : World) (b : Nat) (l : List UInt8) : Prop := ∀ j, j < l.length → w.cell? ⟨b, j, none⟩ = some (.int .u8 ((l.getD j 0).toNat : Int)) ∧ w.frozen? ⟨b, j, none⟩ = false

/-- '[]byte(s)' lays a new row -/
theorem conv_bytes (w : World) (s : ByteArray) : ∃ (c : Nat) (w1 : World), (convert 9 58 (.string s)).run Try.prog w = .ok (.slice (some ⟨w.heap.size, 0, none⟩) s.size c) w1 ∧
    Below w.heap.size w w1 ∧ BytesIn w1 w.heap.size s.data.toList ∧ w1.heap.size = w.heap.size + 1 := by
  refine ⟨_, _, run_bytes_of_string (P := Try.prog) w 9 58 5 s Try.underlying9 Try.underlying58 Try.underlying5, ?_, ?_, ?_⟩
  · exact ((Below.refl _ _).drew).alloc (Nat.le_refl _) _
  · intro j hj
    have hj' : j < s.data.size := by simpa using hj
    refine ⟨?_, ?_⟩
    · have e := World.cell?_alloc_mark w.drew (bytesRow s (grownCap w s.size 0 5)) 5 ((bytesRow s (grownCap w s.size 0 5)).size, (bytesRow s (grownCap w s.size 0 5)).size + 1) j
      refine Eq.trans e ?_
      rw [bytesRow_at s _ j hj']
      simp [List.getD, Array.getElem?_eq_getElem hj']
    · have e := World.frozen?_alloc_mark w.drew (bytesRow s (grownCap w s.size 0 5)) 5 (bytesRow s (grownCap w s.size 0 5)).size ((bytesRow s (grownCap w s.size 0 5)).size + 1) j
      refine Eq.trans e ?_
      have hz : (bytesRow s (grownCap w s.size 0 5)).size = s.data.size + (grownCap w s.size 0 5 - s.size) := by unfold bytesRow; rw [Array.size_append, Array.size_map, Array.size_replicate]
      have : ¬ (bytesRow s (grownCap w s.size 0 5)).size ≤ j := by omega
      rw [decide_eq_false this]; rfl
  · simp

theorem bytes_at {w : World} {b : Nat} {s : ByteArray} (h : BytesIn w b s.data.toList) (k : Nat) (hk : k < s.size) : w.cell? ⟨b, k, none⟩ = some (.int .u8 (s[k].toNat : Int)) := by
  have e := (h k (by simpa using hk)).1
  rw [e]
  simp [List.getD, Array.getElem?_eq_getElem (show k < s.data.size from hk)]
  rfl

set_option maxHeartbeats 1000000 in
theorem find_control (s : ByteArray) (b c : Nat) (w : World) (hs : s.size ≤ 1024) (hB : BytesIn w b s.data.toList) :
    Calls Try.prog 46 #[.slice (some ⟨b, 0, none⟩) s.size c, .func (Fn.func 47) #[] #[]] w fun e w' => e = .returned (.int .i64 ((s.data.toList.findIdx ctlB : Nat) : Int)) ∧ w = w' := by
  have hz : s.data.toList.length = s.size := by simp
  have HZ := Lib.hid hz
  clear hz
  go_enter Try.func46, Try.ntmps46
  go_wp2
  go_loop [9] (fun i => ∃ k : Nat, k ≤ s.size ∧ i = .int .i64 k ∧ (∀ j (hj : j < k) (hl : j < s.data.toList.length), ctlB s.data.toList[j] = false)) (fun i => s.size - (intOf i).toNat)
  case atStart => exact ⟨0, by omega, rfl, fun j hj => by omega⟩
  case round =>
    obtain ⟨k, hk, rfl, ha⟩ := hrel
    have HA := Lib.hid ha
    clear ha
    by_cases hlk : k < s.size
    · have c1 := bytes_at hB k hlk
      have hC := fun w => control_c s[k] w
      have hkl : k < s.data.toList.length := by simpa using hlk
      have hsk : s.data.toList[k] = s[k] := by simp; rfl
      cases hp : ctlB s[k] with
      | true =>
        have HF : Hid (s.data.toList.findIdx ctlB = k) := Lib.hid (idx_hit _ _ k hkl (fun j hj => HA.out j hj (by omega)) (by rw [hsk]; exact hp))
        rw [hp] at hC
        clear hp hsk hkl
        go_wp2_with (go_at_call 47; refine (hC _).mono ?_; rintro e w2 ⟨rfl, rfl⟩)
        go_ret
        exact ⟨ret_at HF.out, rfl⟩
      | false =>
        have HN : Hid (∀ j (hj : j < k + 1) (hl : j < s.data.toList.length), ctlB s.data.toList[j] = false) := Lib.hid (fun j hj hl => by
          by_cases e : j = k
          · subst e; rw [hsk]; exact hp
          · exact HA.out j (by omega) hl)
        rw [hp] at hC
        clear hp hsk hkl
        go_wp2_with (go_at_call 47; refine (hC _).mono ?_; rintro e w2 ⟨rfl, rfl⟩)
        go_round
        case rel => exact ⟨k + 1, by omega, by go_num, HN.out⟩
        case measure => simp [intOf]; omega
    · have HE : Hid (s.data.toList.findIdx ctlB = s.size) := Lib.hid (by rw [idx_end _ _ (fun j hj => HA.out j (by rw [HZ.out] at hj; omega) hj)]; exact HZ.out)
      go_wp2
      go_ret
      exact ⟨ret_at HE.out, rfl⟩

theorem all_idx (l : List UInt8) : (l.findIdx ctlB = l.length → l.all okB = true) ∧ (l.findIdx ctlB < l.length → l.all okB = false) := by
  refine ⟨fun h => ?_, fun h => ?_⟩
  · rw [List.findIdx_eq_length] at h
    rw [List.all_eq_true]
    intro x hx
    have := h x hx
    unfold ctlB at this
    simpa using this
  · have h2 : ctlB l[l.findIdx ctlB] = true := List.findIdx_getElem (w := h)
    have hm := List.getElem_mem h
    generalize l[l.findIdx ctlB] = x at h2 hm
    rw [List.all_eq_false]
    exact ⟨x, hm, by unfold ctlB at h2; simpa using h2⟩

set_option maxHeartbeats 1000000 in
theorem mayValue_c (s : ByteArray) (w : World) (hs : s.size ≤ 9223372036854775807) : Calls Try.prog 35 #[.string s] w fun e w' => e = .returned (.bool (mayL s.data.toList)) ∧ Below w.heap.size w w' := by
  have hz : s.data.toList.length = s.size := by simp
  by_cases h1 : s.size ≤ 1024
  · obtain ⟨c, w1, hrun, hbel, hB, -⟩ := conv_bytes w s
    have hF := find_control s w.heap.size c w1 h1 hB
    obtain ⟨a1, a2⟩ := all_idx s.data.toList
    have hle := idx_le ctlB s.data.toList
    rw [hz] at a1 a2 hle
    obtain ⟨k, hk⟩ : ∃ k : Nat, s.data.toList.findIdx ctlB = k := ⟨_, rfl⟩
    rw [hk] at a1 a2 hle hF
    by_cases hks : k = s.size
    · have HF : Hid (mayL s.data.toList = true) := Lib.hid (by unfold mayL; rw [a1 hks, hz]; simpa using h1)
      rw [hks] at hF
      clear a1 a2 hle hk hks hB hz
      go_enter Try.func35, Try.ntmps35
      go_wp2_with (go_at_call 46; refine hF.mono ?_; rintro e w2 ⟨rfl, rfl⟩)
      go_ret
      exact ⟨ret_bool HF.out.symm, hbel⟩
    · have HF : Hid (mayL s.data.toList = false) := Lib.hid (by unfold mayL; rw [a2 (by omega)]; rfl)
      have hne : ((k : Int) == (s.size : Int)) = false := by simp; omega
      clear a1 a2 hle hk hks hB hz
      go_enter Try.func35, Try.ntmps35
      go_wp2_with (go_at_call 46; refine hF.mono ?_; rintro e w2 ⟨rfl, rfl⟩)
      go_ret
      exact ⟨ret_bool HF.out.symm, hbel⟩
  · have HF : Hid (mayL s.data.toList = false) := Lib.hid (by unfold mayL; rw [hz]; simp [h1])
    clear hz
    go_enter Try.func35, Try.ntmps35
    go_wp2
    go_ret
    exact ⟨ret_bool HF.out.symm, Below.refl _ _⟩

set_option maxHeartbeats 1000000 in
theorem may_c (x y : ByteArray) (w : World) (hx : x.size ≤ 140737488351232) (hy : y.size ≤ 140737488351232) : Calls Try.prog 22 #[.agg #[.string x, .string y]] w fun e w' => e = .returned (.bool (attB (x, y))) ∧ Below w.heap.size w w' := by
  have hN := fun w => name_any x w (by unfold maxLen; omega)
  have hV := fun w => mayValue_c y w (by omega)
  cases hn : nameB x.data.toList with
  | false =>
    have HF : Hid (attB (x, y) = false) := Lib.hid (by unfold attB; rw [hn]; rfl)
    rw [hn] at hN
    clear hn
    go_enter Try.func22, Try.ntmps22
    go_wp2_with (first | (go_at_call 14; refine (hN _).mono ?_; rintro e w2 ⟨rfl, rfl⟩) | (go_at_call 35; refine (hV _).mono ?_; rintro e w2 ⟨rfl, hb2⟩))
    go_ret
    exact ⟨ret_bool HF.out.symm, laidNew _ _⟩
  | true =>
    have HF : Hid (attB (x, y) = mayL y.data.toList) := Lib.hid (by unfold attB; rw [hn]; rfl)
    rw [hn] at hN
    clear hn
    go_enter Try.func22, Try.ntmps22
    go_wp2_with (first | (go_at_call 14; refine (hN _).mono ?_; rintro e w2 ⟨rfl, rfl⟩) | (go_at_call 35; refine (hV _).mono ?_; rintro e w2 ⟨rfl, hb2⟩))
    go_ret
    exact ⟨ret_bool HF.out.symm, behind (laidNew _ _) hb2⟩
end Go.Proofs.Ytcdlleeonfnamaa
