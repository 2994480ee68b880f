import Derived.Test.YtdbhlnokhfflmaaDoorSmall
import Derived.BigQuiet
import Derived.Deep.QuietTactic
import Derived.StillTailTactics
import Derived.Laws.IdiomStrings
namespace Go.Proofs.YtdbhlnokhfflmaaDoor
open Go.RowKit

/-- a byte as a small letter, as numbers -/
def lowN (n : Int) : Int := if 65 ≤ n ∧ n ≤ 90 then n + 32 else n

theorem lowN_yes {n : Int} (h1 : 65 ≤ n) (h2 : n ≤ 90) : n + 32 = lowN n := by unfold lowN; rw [if_pos ⟨h1, h2⟩]
theorem lowN_no {n : Int} (h : ¬ (65 ≤ n ∧ n ≤ 90)) : n = lowN n := by unfold lowN; rw [if_neg h]
theorem ret_u8 {a b : Int} (h : a = b) : Ending.returned (.int .u8 a) = .returned (.int .u8 b) := by rw [h]

set_option maxHeartbeats 400000 in
theorem shiftOf_any (n : Int) (h0 : 0 ≤ n) (h1 : n ≤ 255) (a b c : Nat) (w : World) (ha : w.cell? ⟨a, 0, none⟩ = some (.int .u8 65)) (hb : w.cell? ⟨b, 0, none⟩ = some (.int .u8 90)) (hc : w.cell? ⟨c, 0, none⟩ = some (.int .u8 32)) :
    Calls Tryd.prog 29 #[.int .u8 n, .pointer (some ⟨a, 0, none⟩), .pointer (some ⟨b, 0, none⟩), .pointer (some ⟨c, 0, none⟩)] w fun e w' => e = .returned (.int .u8 (lowN n)) ∧ w = w' := by
  by_cases h2 : 65 ≤ n
  · by_cases h3 : n ≤ 90
    · go_enter Tryd.func29, Tryd.ntmps29
      go_wp2
      go_ret
      exact ⟨ret_u8 (lowN_yes h2 h3), rfl⟩
    · go_enter Tryd.func29, Tryd.ntmps29
      go_wp2
      go_ret
      exact ⟨ret_u8 (lowN_no (by omega)), rfl⟩
  · go_enter Tryd.func29, Tryd.ntmps29
    go_wp2
    go_ret
    exact ⟨ret_u8 (lowN_no (by omega)), rfl⟩

/-- cells of a row of bytes, that may be written -/
def BytesIn (w : World) (b : Nat) (l : List UInt8) : Prop := ∀ j, j < l.length → w.cell? ⟨b, j, none⟩ = some (.int .u8 ((l.getD j 0).toNat : Int)) ∧ w.frozen? ⟨b, j, none⟩ = false

/-- '[]byte(s)' lays a new row -/
theorem conv_bytes (w : World) (s : ByteArray) : ∃ (c : Nat) (w1 : World), (convert 9 36 (.string s)).run Tryd.prog w = .ok (.slice (some ⟨w.heap.size, 0, none⟩) s.size c) w1 ∧
    Below w.heap.size w w1 ∧ BytesIn w1 w.heap.size s.data.toList ∧ w1.heap.size = w.heap.size + 1 := by
  refine ⟨_, _, run_bytes_of_string (P := Tryd.prog) w 9 36 5 s Tryd.underlying9 Tryd.underlying36 Tryd.underlying5, ?_, ?_, ?_⟩
  · exact ((Below.refl _ _).drew).alloc (Nat.le_refl _) _
  · intro j hj
    have hj' : j < s.data.size := by simpa using hj
    refine ⟨?_, ?_⟩
    · have e := World.cell?_alloc_mark w.drew (bytesRow s (grownCap w s.size 0 5)) 5 ((bytesRow s (grownCap w s.size 0 5)).size, (bytesRow s (grownCap w s.size 0 5)).size + 1) j
      refine Eq.trans e ?_
      rw [bytesRow_at s _ j hj']
      simp [List.getD, Array.getElem?_eq_getElem hj']
    · have e := World.frozen?_alloc_mark w.drew (bytesRow s (grownCap w s.size 0 5)) 5 (bytesRow s (grownCap w s.size 0 5)).size ((bytesRow s (grownCap w s.size 0 5)).size + 1) j
      refine Eq.trans e ?_
      have hz : (bytesRow s (grownCap w s.size 0 5)).size = s.data.size + (grownCap w s.size 0 5 - s.size) := by unfold bytesRow; rw [Array.size_append, Array.size_map, Array.size_replicate]
      have : ¬ (bytesRow s (grownCap w s.size 0 5)).size ≤ j := by omega
      rw [decide_eq_false this]; rfl
  · simp

/-- 'string(b)' -/
theorem conv_back (w : World) (b cap : Nat) (l : List UInt8) (h : BytesIn w b l) : (convert 36 9 (.slice (some ⟨b, 0, none⟩) l.length cap)).run Tryd.prog w = .ok (.string ⟨l.toArray⟩) w :=
  run_convert_bytes_back (P := Tryd.prog) w 36 9 5 ⟨b, 0, none⟩ cap l Tryd.underlying36 Tryd.underlying5 Tryd.underlying9 (fun j hj => by
    have e := (h j hj).1
    have ea : (⟨b, 0, none⟩ : Addr).add j = ⟨b, j, none⟩ := by by_cases hj0 : j = 0 <;> simp [Addr.add, hj0]
    rw [ea, e]; simp [hj])

theorem BytesIn.below {w w' : World} {b B : Nat} {l : List UInt8} (h : BytesIn w b l) (hb : Below B w w') (hB : b < B) : BytesIn w' b l :=
  fun j hj => ⟨(hb.cell (p := ⟨b, j, none⟩) hB).trans (h j hj).1, (hb.frozen (p := ⟨b, j, none⟩) hB).trans (h j hj).2⟩

theorem BytesIn.set {w : World} {b : Nat} {l : List UInt8} (h : BytesIn w b l) (k : Nat) (hk : k < l.length) (x : UInt8) : BytesIn (w.setCell ⟨b, k, none⟩ (.int .u8 (x.toNat : Int))) b (l.set k x) := by
  intro j hj
  have hj' : j < l.length := by simpa using hj
  refine ⟨?_, by rw [World.frozen?_setCell]; exact (h j hj').2⟩
  by_cases e : j = k
  · subst e
    rw [World.cell?_setCell_same' _ _ _ (by rw [(h j hj').1]; rfl)]
    simp [hk]
  · have hne : (⟨b, k, none⟩ : Addr) ≠ ⟨b, j, none⟩ := by intro h0; injection h0; omega
    rw [World.cell?_setCell_other _ _ _ _ hne, (h j hj').1]
    simp [List.getD, Ne.symm e]

/-- a byte as a small letter -/
def lowB (c : UInt8) : UInt8 := if 65 ≤ c.toNat ∧ c.toNat ≤ 90 then UInt8.ofNat (c.toNat + 32) else c
theorem lowB_toNat (c : UInt8) : ((lowB c).toNat : Int) = lowN c.toNat := by
  unfold lowB lowN
  by_cases h : 65 ≤ c.toNat ∧ c.toNat ≤ 90
  · rw [if_pos h, if_pos (by omega)]
    simp
    omega
  · rw [if_neg h, if_neg (by omega)]

/-- a text of which k bytes have been turned -/
def part (f : UInt8 → UInt8) (l : List UInt8) (k : Nat) : List UInt8 := (l.take k).map f ++ l.drop k
theorem part_zero (f : UInt8 → UInt8) (l : List UInt8) : part f l 0 = l := by simp [part]
theorem part_all (f : UInt8 → UInt8) (l : List UInt8) (k : Nat) (h : l.length ≤ k) : part f l k = l.map f := by simp [part, List.take_of_length_le h, List.drop_of_length_le h]
theorem part_length (f : UInt8 → UInt8) (l : List UInt8) (k : Nat) : (part f l k).length = l.length := by simp [part]; omega
theorem part_at (f : UInt8 → UInt8) (l : List UInt8) (k : Nat) (h : k < l.length) : (part f l k).getD k 0 = l[k] := by
  unfold part
  rw [List.getD, List.getElem?_append_right (by simp; omega)]
  simp [Nat.min_eq_left (Nat.le_of_lt h), h]
theorem part_set (f : UInt8 → UInt8) (l : List UInt8) (k : Nat) (h : k < l.length) : (part f l k).set k (f l[k]) = part f l (k + 1) := by
  unfold part
  have hm : (List.map f (List.take k l)).length = k := by simp; omega
  rw [List.set_append_right _ _ (by omega), hm, Nat.sub_self, List.drop_eq_getElem_cons h, List.set_cons_zero, List.take_succ_eq_append_getElem h, List.map_append, List.append_assoc]
  rfl
end Go.Proofs.YtdbhlnokhfflmaaDoor
