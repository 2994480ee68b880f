import Derived.Test.YtcdlleeonfnamaaSameA
import Derived.IntWalk
namespace Go.Proofs.Ytcdlleeonfnamaa
open Go.RowKit

/-- all bytes -/
def sumL (l : List At) : Nat := (l.map fun a => a.1.size + a.2.size).sum
theorem sumL_take (l : List At) (k : Nat) (h : k < l.length) : sumL (l.take (k + 1)) = sumL (l.take k) + (l[k].1.size + l[k].2.size) := by
  unfold sumL
  rw [List.take_succ_eq_append_getElem h, List.map_append, List.sum_append]; simp
theorem sumL_mem : ∀ (l : List At) (a : At), a ∈ l → a.1.size + a.2.size ≤ sumL l
  | b :: l, a, h => by
    have e : sumL (b :: l) = (b.1.size + b.2.size) + sumL l := by simp [sumL]
    rcases List.mem_cons.1 h with rfl | h
    · omega
    · have := sumL_mem l a h; omega

set_option maxHeartbeats 400000 in
theorem attrsSize_any (v : Value) (l : List At) (w : World) (h : Attrs w v l) (hl1 : l.length ≤ 1000) : Calls Try.prog 21 #[v] w fun e w' => ∃ N : Nat, e = .returned (.int .i64 (N : Int)) ∧ (N ≤ 1048576 → N = l.length + sumL l) ∧ ∃ q, w' = w.drewN q := by
  obtain ⟨p, cap, rfl, hl, ⟨hs, -⟩, hc⟩ := h
  go_enter Try.func21, Try.ntmps21
  go_wp2
  go_loopw [3, 4] (fun n i wr => ∃ k N q : Nat, k ≤ l.length ∧ i = .int .i64 k ∧ n = .int .i64 (N : Int) ∧ N = l.length + sumL (l.take k) ∧ N ≤ 281474977800000 ∧ wr = w.drewN q) (fun _ i _ => l.length - (intOf i).toNat)
  case atStart => exact ⟨0, l.length, 0, by omega, rfl, rfl, by simp [sumL], by omega, rfl⟩
  case round =>
    obtain ⟨k, N, q, hk, rfl, rfl, hN, hNb, rfl⟩ := hrel
    have HN := Lib.hid hN
    clear hN
    by_cases hlt : k < l.length
    · by_cases hmo : N ≤ 1048576
      · obtain ⟨b, o, rfl, hb, hcc⟩ := hc (by omega)
        obtain ⟨c1, c2⟩ := hcc k hlt
        obtain ⟨s1, s2⟩ := hs l[k] (List.getElem_mem hlt)
        have HS := Lib.hid (sumL_take l k hlt)
        clear hc hcc
        go_wp2
        go_quiet (fail)
        go_wp2
        refine ⟨⟨k + 1, N + l[k].1.size + l[k].2.size, _, by omega, by go_num, by go_num, ?_, by omega, rfl⟩, by simp [intOf]; omega⟩
        rw [HS.out, HN.out]; omega
      · go_wp2
        go_ret
        exact ⟨N, rfl, fun h => by omega, q, rfl⟩
    · have HE := Lib.hid (show l.take k = l from List.take_of_length_le (by omega))
      go_wp2
      go_ret
      exact ⟨N, rfl, fun _ => by rw [HN.out, HE.out], q, rfl⟩

/-- what is gone through -/
def Small (l : List At) : Prop := l.length ≤ 1000 ∧ l.length + sumL l ≤ 100000

/-- how 'great' ends -/
def GreatEnd (l : List At) (s : ByteArray) (w : World) (e : Ending) (w' : World) : Prop := ∃ g : Bool, e = .returned (.bool g) ∧ (g = false → Small l ∧ s.size ≤ 100000) ∧ ∃ q, w' = w.drewN q

set_option maxHeartbeats 400000 in
theorem great_any (v : Value) (l : List At) (s : ByteArray) (w : World) (h : Attrs w v l) (hs : s.size ≤ 140737488351232) : Calls Try.prog 10 #[v, .string s] w fun e w' => GreatEnd l s w e w' := by
  have h' := h
  obtain ⟨p, cap, rfl, hl, -, hc⟩ := h'
  by_cases h1 : l.length ≤ 1000
  · have HA := attrsSize_any _ l w h h1
    go_enter Try.func10, Try.ntmps10
    go_wp2_with fail
    refine HA.mono ?_
    rintro e w' ⟨N, rfl, hN, q, rfl⟩
    by_cases h2 : N ≤ 100000
    · go_wp2
      go_ret
      exact ⟨_, rfl, fun e => ⟨⟨h1, by have := hN (by omega); omega⟩, by simp at e; omega⟩, q, rfl⟩
    · go_wp2
      go_ret
      exact ⟨_, rfl, fun e => by simp at e, q, rfl⟩
  · go_enter Try.func10, Try.ntmps10
    go_wp2
    go_ret
    exact ⟨_, rfl, fun e => by simp at e, 0, rfl⟩
end Go.Proofs.Ytcdlleeonfnamaa
