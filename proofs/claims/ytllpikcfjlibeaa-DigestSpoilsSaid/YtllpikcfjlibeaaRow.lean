import Derived.Test.YtllpikcfjlibeaaRows
import Derived.WalkKit
import Derived.WalkSpells
import Derived.Lib.Hide
import Derived.Laws.IdiomStrings
import Derived.StillTailTactics
namespace Go.Proofs.Ytllpikcfjlibeaa
open Go.RowKit

/-- cells of a row of bytes, that may be written -/
def BytesIn (w : World) (b : Nat) (l : List UInt8) : Prop := ∀ j, j < l.length → w.cell? ⟨b, j, none⟩ = some (.int .u8 ((l.getD j 0).toNat : Int)) ∧ w.frozen? ⟨b, j, none⟩ = false

/-- '[]byte(s)' lays a new row -/
theorem conv_bytes (w : World) (s : ByteArray) : ∃ (c : Nat) (w1 : World), (convert 9 35 (.string s)).run Try.prog w = .ok (.slice (some ⟨w.heap.size, 0, none⟩) s.size c) w1 ∧
    Below w.heap.size w w1 ∧ BytesIn w1 w.heap.size s.data.toList ∧ w1.heap.size = w.heap.size + 1 := by
  refine ⟨_, _, run_bytes_of_string (P := Try.prog) w 9 35 5 s Try.underlying9 Try.underlying35 Try.underlying5, ?_, ?_, ?_⟩
  · exact ((Below.refl _ _).drew).alloc (Nat.le_refl _) _
  · intro j hj
    have hj' : j < s.data.size := by simpa using hj
    refine ⟨?_, ?_⟩
    · have e := World.cell?_alloc_mark w.drew (bytesRow s (grownCap w s.size 0 5)) 5 ((bytesRow s (grownCap w s.size 0 5)).size, (bytesRow s (grownCap w s.size 0 5)).size + 1) j
      refine Eq.trans e ?_
      rw [bytesRow_at s _ j hj']
      simp [List.getD, Array.getElem?_eq_getElem hj']
    · have e := World.frozen?_alloc_mark w.drew (bytesRow s (grownCap w s.size 0 5)) 5 (bytesRow s (grownCap w s.size 0 5)).size ((bytesRow s (grownCap w s.size 0 5)).size + 1) j
      refine Eq.trans e ?_
      have hz : (bytesRow s (grownCap w s.size 0 5)).size = s.data.size + (grownCap w s.size 0 5 - s.size) := by unfold bytesRow; rw [Array.size_append, Array.size_map, Array.size_replicate]
      have : ¬ (bytesRow s (grownCap w s.size 0 5)).size ≤ j := by omega
      rw [decide_eq_false this]; rfl
  · simp

/-- 'string(b)' -/
theorem conv_back (w : World) (b cap : Nat) (l : List UInt8) (h : BytesIn w b l) : (convert 35 9 (.slice (some ⟨b, 0, none⟩) l.length cap)).run Try.prog w = .ok (.string ⟨l.toArray⟩) w :=
  run_convert_bytes_back (P := Try.prog) w 35 9 5 ⟨b, 0, none⟩ cap l Try.underlying35 Try.underlying5 Try.underlying9 (fun j hj => by
    have e := (h j hj).1
    have ea : (⟨b, 0, none⟩ : Addr).add j = ⟨b, j, none⟩ := by by_cases hj0 : j = 0 <;> simp [Addr.add, hj0]
    rw [ea, e]; simp [hj])

theorem BytesIn.below {w w' : World} {b B : Nat} {l : List UInt8} (h : BytesIn w b l) (hb : Below B w w') (hB : b < B) : BytesIn w' b l :=
  fun j hj => ⟨(hb.cell (p := ⟨b, j, none⟩) hB).trans (h j hj).1, (hb.frozen (p := ⟨b, j, none⟩) hB).trans (h j hj).2⟩

theorem BytesIn.set {w : World} {b : Nat} {l : List UInt8} (h : BytesIn w b l) (k : Nat) (hk : k < l.length) (x : UInt8) : BytesIn (w.setCell ⟨b, k, none⟩ (.int .u8 (x.toNat : Int))) b (l.set k x) := by
  intro j hj
  have hj' : j < l.length := by simpa using hj
  refine ⟨?_, by rw [World.frozen?_setCell]; exact (h j hj').2⟩
  by_cases e : j = k
  · subst e
    rw [World.cell?_setCell_same' _ _ _ (by rw [(h j hj').1]; rfl)]
    simp [hk]
  · have hne : (⟨b, k, none⟩ : Addr) ≠ ⟨b, j, none⟩ := by intro h0; injection h0; omega
    rw [World.cell?_setCell_other _ _ _ _ hne, (h j hj').1]
    simp [List.getD, Ne.symm e]

end Go.Proofs.Ytllpikcfjlibeaa
