import Derived.Test.YtljkcdmcjbhgaaaOrderW
import Derived.OwnWalk
import Derived.Maps.AppendAt
namespace Go.Proofs.Ytljkcdmcjbhgaaa
open Go.RowKit

/-- a byte's value -/
def u8v (c : UInt8) : Value := .int .u8 (c.toNat : Int)

/-- 'string(b)' of a row that the call owns -/
theorem conv_owned {w : World} {B n : Nat} {v : Value} {l : List UInt8} (h : w.ownsRow B 5 1 v n (l.map u8v)) : (convert 31 9 v).run Try.prog w = .ok (.string ⟨l.toArray⟩) w := by
  obtain ⟨hl, ⟨rfl, rfl⟩ | ⟨g, cap, cur, rfl, hB, hg, hn, hm, hs, ht⟩⟩ := h
  · have : l = [] := by simpa using hl
    subst this
    rw [run_convert_bytes_string w 31 9 5 none 0 0 Try.underlying31 Try.underlying5 Try.underlying9]
    simp [Conv.bytesToString]
    rfl
  · have hn' : n = l.length := by simpa using hl.symm
    subst hn'
    have hown : w.ownsRow B 5 1 (.slice (some ⟨g, 0, none⟩) l.length cap) l.length (l.map u8v) := ⟨hl, .inr ⟨g, cap, cur, rfl, hB, hg, hn, hm, hs, ht⟩⟩
    refine run_convert_bytes_back (P := Try.prog) w 31 9 5 ⟨g, 0, none⟩ cap l Try.underlying31 Try.underlying5 Try.underlying9 (fun j hj => ?_)
    exact hown.cells rfl j _ (by simp [u8v, hj])

theorem info5 : (Try.prog.info? 5).map (fun i => (i.zero, i.size, i.bytes)) = some (some (.int .u8 0), 1, 1) := by kernel_rfl

theorem filter_take_succ_yes (l : List UInt8) (p : UInt8 → Bool) (k : Nat) (h : k < l.length) (hp : p l[k] = true) : (l.take (k + 1)).filter p = (l.take k).filter p ++ [l[k]] := by
  rw [List.take_succ_eq_append_getElem h, List.filter_append]; simp [hp]
theorem filter_take_succ_no (l : List UInt8) (p : UInt8 → Bool) (k : Nat) (h : k < l.length) (hp : p l[k] = false) : (l.take (k + 1)).filter p = (l.take k).filter p := by
  rw [List.take_succ_eq_append_getElem h, List.filter_append]; simp [hp]
theorem filter_take_le (l : List UInt8) (p : UInt8 → Bool) (k : Nat) : ((l.take k).filter p).length ≤ k :=
  Nat.le_trans (List.length_filter_le _ _) (List.length_take_le _ _)

theorem ret_str {a b : List UInt8} (h : a = b) : Ending.returned (.string ⟨a.toArray⟩) = .returned (.string ⟨b.toArray⟩) := by rw [h]

/-- a text of bytes has a name of its own -/
theorem named (l : List UInt8) : ∃ t : ByteArray, (⟨l.toArray⟩ : ByteArray) = t ∧ t.data.toList = l ∧ t.size = l.length := ⟨_, rfl, by simp, by simp [ByteArray.size]⟩

set_option maxHeartbeats 400000 in
theorem refKey_any (s : ByteArray) (w : World) (hr : s.size ≤ 140737488351232) :
    Calls Try.prog 27 #[.string s] w fun e w' => e = .returned (.string ⟨(keyL s.data.toList).toArray⟩) ∧ Below w.heap.size w w' := by
  obtain ⟨i0, hi, hz0, hz1, hz2⟩ := info_parts info5
  obtain ⟨t, ht, hd, hz⟩ := named (lowL s.data.toList)
  have hlen : t.size ≤ 140737488351232 := by rw [hz]; simpa [lowL] using hr
  have HK : Hid (keyL s.data.toList = t.data.toList.filter alnum) := by exact Lib.hid (by rw [hd]; rfl)
  have HT := Lib.hid ht
  have HZ : Hid (t.data.toList.length = t.size) := by exact Lib.hid (by rw [hd, hz])
  clear ht hd hz
  go_enter Try.func27, Try.ntmps27
  go_wp2_with fail
  refine (refLower_any s w (by unfold maxLen; omega)).mono ?_
  rintro e w1 ⟨rfl, hb1⟩
  rw [HT.out]
  have hsz1 := hb1.size
  go_wp2_with fail
  go_loopw [3, 4] (fun v i wr => ∃ k : Nat, k ≤ t.size ∧ i = .int .i64 k ∧ wr.ownsRow w.heap.size 5 1 v ((t.data.toList.take k).filter alnum).length (((t.data.toList.take k).filter alnum).map u8v) ∧ Below w.heap.size w wr) (fun _ i _ => t.size - (intOf i).toNat)
  case atStart => exact ⟨0, by omega, rfl, by simpa using World.ownsRow_nil _ _ _ _, hb1⟩
  case round =>
    obtain ⟨k, hk, rfl, hown, hbel⟩ := hrel
    clear hb1 hsz1
    have hsz := hbel.size
    by_cases hlt : k < t.size
    · have hlt' : k < t.data.toList.length := by rw [HZ.out]; exact hlt
      have hfl := filter_take_le t.data.toList alnum k
      cases ha : isA (t[k].toNat : Int)
      · have HN := Lib.hid (filter_take_succ_no t.data.toList alnum k hlt' ha)
        go_wp2_with (go_at_call 30; refine (refLetter_any _ _).mono ?_; rintro e w' ⟨rfl, rfl⟩)
        go_roundw
        case rel => exact ⟨k + 1, by omega, by go_num, by rw [HN.out]; exact hown, hbel⟩
        case measure => simp [intOf]; omega
      · have HN := Lib.hid (filter_take_succ_yes t.data.toList alnum k hlt' ha)
        go_wp2_with (first | (go_at_call 30; refine (refLetter_any _ _).mono ?_; rintro e w' ⟨rfl, rfl⟩) | (at_builtin; refine wpList_append_own _ rfl _ _ 31 rfl w.heap.size 5 i0 (.int .u8 0) 1 1 Try.underlying31 hi hz0 hz1 hz2 rfl (by decide) _ _ _ rfl (hown.alloc _) ⟨wr.heap.size, 0, none⟩ 1 1 [u8v t[k]] rfl rfl (cell_one_new _ _ _) (by simp [Value.oneCell', u8v]) (by unfold maxLen; omega) (by omega) (by simp; omega) ?_; intro v' w2 hown2 hgrow2 _))
        have hbel2 : Below w.heap.size w w2 := (hbel.alloc hsz _).grown hgrow2 (by simp; omega) (fun j hj => (hown.lt j hj).1)
        go_roundw
        case rel => exact ⟨k + 1, by omega, by go_num, by rw [HN.out, List.length_append, List.map_append]; exact hown2, hbel2⟩
        case measure => simp [intOf]; omega
    · have HE := Lib.hid (show t.data.toList.take k = t.data.toList from List.take_of_length_le (by rw [HZ.out]; omega))
      rw [HE.out] at hown
      have hback := conv_owned hown
      go_wp2
      go_ret
      exact ⟨ret_str HK.out.symm, hbel⟩
end Go.Proofs.Ytljkcdmcjbhgaaa
