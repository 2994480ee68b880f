import Derived.Test.YtikeaiibociapaaGreatDoorSKeepA
import Derived.Test.YtikeaiibociapaaGreatDoorHollowA
import Derived.Test.YtikeaiibociapaaGreatDoorHollowB
import Derived.Test.YtikeaiibociapaaGreatDoorSHollowT
namespace Go.Proofs.YtikeaiibociapaaGreatDoor.src
open Go.RowKit
set_option maxRecDepth 100000

/-- the cells of what is held -/
def heldRow (hs : List Held) : List Value := hs.flatMap fun h => [h.v, nilS, .int .i64 h.nu]

theorem heldRow_at : ∀ (hs : List Held) (i : Nat) (h : i < hs.length), (heldRow hs)[i * 3]? = some hs[i].v ∧ (heldRow hs)[i * 3 + 1]? = some nilS ∧ (heldRow hs)[i * 3 + 2]? = some (.int .i64 hs[i].nu)
  | x :: hs, 0, _ => ⟨rfl, rfl, rfl⟩
  | x :: hs, i + 1, h => by
    have ih := heldRow_at hs i (by simpa using h)
    have e : heldRow (x :: hs) = [x.v, nilS, .int .i64 x.nu] ++ heldRow hs := rfl
    have a1 : (i + 1) * 3 = i * 3 + 3 := by omega
    rw [e, a1]
    refine ⟨?_, ?_, ?_⟩
    · rw [List.getElem?_append_right (by simp)]; simpa using ih.1
    · rw [List.getElem?_append_right (by simp)]; simpa using ih.2.1
    · rw [List.getElem?_append_right (by simp)]; simpa using ih.2.2

theorem book_startA {w : World} {base K : Nat} {n : Int} {t : Value} {T c : Nat} {hs : List Held} (hB : BookIs w K n t (.slice (some ⟨T, 0, none⟩) hs.length c)) (hT : w.ownsRow base 141 3 (.slice (some ⟨T, 0, none⟩) hs.length c) hs.length (heldRow hs)) : Bk 6 w K T c hs (fun _ => ⟨none, 0, 0⟩) := by
  obtain ⟨h1, ⟨h0, _⟩ | ⟨g, cap, cur, e, b, q, n1, m1, s1, t1⟩⟩ := hT
  · cases h0
  · cases e
    have hc : ∀ j v, (heldRow hs)[j]? = some v → w.cell? ⟨T, j, none⟩ = some v := by
      intro j v hj
      have : cur.toList[j]? = some v := by
        rw [← t1] at hj
        rw [List.getElem?_take] at hj
        split at hj
        · exact hj
        · cases hj
      simp [World.cell?, q]
      simpa using this
    exact {
      field := hB.attrs
      v := fun i h => hc _ _ (heldRow_at hs i h).1
      l := fun i h => hc _ _ (heldRow_at hs i h).2.1
      nu := fun i h => hc _ _ (heldRow_at hs i h).2.2
      fr := fun i h => by simp [World.frozen?, q]
      lo := hB.lt
      lt := (Array.getElem?_eq_some_iff.1 q).1 }

theorem book_startT {w : World} {base K : Nat} {n : Int} {a : Value} {T c : Nat} {hs : List Held} (hB : BookIs w K n (.slice (some ⟨T, 0, none⟩) hs.length c) a) (hT : w.ownsRow base 125 3 (.slice (some ⟨T, 0, none⟩) hs.length c) hs.length (heldRow hs)) : Bk 3 w K T c hs (fun _ => ⟨none, 0, 0⟩) := by
  obtain ⟨h1, ⟨h0, _⟩ | ⟨g, cap, cur, e, b, q, n1, m1, s1, t1⟩⟩ := hT
  · cases h0
  · cases e
    have hc : ∀ j v, (heldRow hs)[j]? = some v → w.cell? ⟨T, j, none⟩ = some v := by
      intro j v hj
      have : cur.toList[j]? = some v := by
        rw [← t1] at hj
        rw [List.getElem?_take] at hj
        split at hj
        · exact hj
        · cases hj
      simp [World.cell?, q]
      simpa using this
    exact {
      field := hB.texts
      v := fun i h => hc _ _ (heldRow_at hs i h).1
      l := fun i h => hc _ _ (heldRow_at hs i h).2.1
      nu := fun i h => hc _ _ (heldRow_at hs i h).2.2
      fr := fun i h => by simp [World.frozen?, q]
      lo := hB.lt
      lt := (Array.getElem?_eq_some_iff.1 q).1 }

theorem row_not_row {W : World} {base base' e e' size size' k k' : Nat} {v v' : Value} {xs xs' : List Value} (he : e ≠ e') (h : W.ownsRow base e size v k xs) (h' : W.ownsRow base' e' size' v' k' xs') : ∀ g, v.ownBlock = some g → v'.ownBlock ≠ some g := by
  intro g hg hg'
  rcases h.2 with ⟨rfl, _⟩ | ⟨g1, cap, cur, rfl, _, q, _⟩
  · cases hg
  · rcases h'.2 with ⟨rfl, _⟩ | ⟨g2, cap2, cur2, rfl, _, q2, _⟩
    · cases hg'
    · cases hg; cases hg'
      rw [q] at q2
      cases q2
      exact he rfl

end Go.Proofs.YtikeaiibociapaaGreatDoor.src
