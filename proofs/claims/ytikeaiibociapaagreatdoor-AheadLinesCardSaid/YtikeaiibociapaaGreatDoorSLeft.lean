import Derived.Test.YtikeaiibociapaaGreatDoorSTwin
namespace Go.Proofs.YtikeaiibociapaaGreatDoor.src
open Go.RowKit
set_option maxRecDepth 100000

theorem Twin.below {w w' : World} {base : Nat} {v : Value} {l : List At} (h : Twin w base v l) (hb : Below w.heap.size w w') : Twin w' base v l := by
  obtain ⟨⟨T, cap, hv, h1, h2⟩, hs, hl⟩ := h
  refine ⟨⟨T, cap, hv, h1, ?_⟩, hs, hl⟩
  rcases h2 with ⟨h2, _⟩ | ⟨g, cap2, cur, h2, hB, hg, r⟩
  · cases h2
  · exact .inr ⟨g, cap2, cur, h2, hB, by rw [hb.block g (Array.getElem?_eq_some_iff.1 hg).1]; exact hg, r⟩
/-- a twin reads as the list -/
theorem Twin.attrs {w : World} {base : Nat} {v : Value} {l : List At} (h : Twin w base v l) : Attrs w v l := by
  obtain ⟨⟨T, cap, rfl, h1⟩, hs, hl⟩ := h
  have hS : Sized (l ++ [spareA]) := by
    intro a ha
    rcases List.mem_append.1 ha with ha | ha
    · exact hs a ha
    · simp only [List.mem_singleton] at ha; subst ha; unfold spareA; constructor <;> decide
  obtain ⟨p, c, hv, _, ⟨_, _, hle⟩, hc⟩ := row_attrs h1 (by simp) hS (by simp; omega)
  obtain ⟨b, o, hp, hlt, hcc⟩ := hc (by simp)
  injection hv with hv1 hv2 hv3
  rw [← hv1] at hp
  cases hp
  have hcap : l.length ≤ cap := by rw [hv3]; simp at hle; omega
  refine ⟨_, _, rfl, by omega, ⟨hs, (fun h => by cases h), hcap⟩, fun _ => ⟨T, 0, rfl, hlt, fun i hi => ?_⟩⟩
  have := hcc i (by simp; omega)
  rw [List.getElem_append_left hi] at this
  exact this
/-- what stands in a twin's spare room -/
theorem Twin.spare {w : World} {base : Nat} {v : Value} {l : List At} (h : Twin w base v l) : ∃ T cap, v = .slice (some ⟨T, 0, none⟩) l.length cap ∧ l.length + 1 ≤ cap ∧ cap ≤ maxLen ∧ T < w.heap.size ∧
    w.cell? ⟨T, l.length * 2, none⟩ = some (.string ⟨#[115, 112, 97, 114, 101]⟩) ∧ w.cell? ⟨T, l.length * 2 + 1, none⟩ = some (.string ⟨#[]⟩) := by
  obtain ⟨⟨T, cap, rfl, h1, h2⟩, hs, hl⟩ := h
  rcases h2 with ⟨h2, _⟩ | ⟨g, cap2, cur, h2, hB, hg, r1, r2, r3, r4⟩
  · cases h2
  · cases h2
    obtain ⟨e1, e2⟩ := atCells_at (l ++ [spareA]) l.length (by simp)
    rw [List.getElem_concat_length rfl] at e1 e2
    rw [← r4, List.getElem?_take] at e1 e2
    rw [if_pos (by omega)] at e1 e2
    refine ⟨T, cap, rfl, r1, r2, (Array.getElem?_eq_some_iff.1 hg).1, ?_, ?_⟩
    · simp only [World.cell?, hg]; simpa [spareA] using e1
    · simp only [World.cell?, hg]; simpa [spareA] using e2

set_option maxHeartbeats 1000000 in
theorem leftAttrs_any (tv lv : Value) (base : Nat) (l : List At) (w : World) (ht : Twin w base tv l) (h : Attrs w lv l) : Calls Tryz.prog 27 #[tv, lv] w fun e w' => e = .returned (.bool true) ∧ Below w.heap.size w w' := by
  obtain ⟨T, cap, hv, hcap, hcm, hT, s1, s2⟩ := ht.spare
  have hl1 := ht.len
  obtain ⟨pt, ct, hv2, _, _, hct⟩ := ht.attrs
  obtain ⟨p, c, rfl, hl, -, hc⟩ := h
  subst hv
  cases hv2
  unfold maxLen at hcm
  clear ht
  have hne : ((l.length : Int) != (l.length : Int)) = false := by simp
  go_enter Tryz.func27, Tryz.ntmps27
  go_wp2
  go_loopw [5] (fun i wr => ∃ k q : Nat, k ≤ l.length ∧ i = .int .i64 k ∧ wr = w.drewN q) (fun i _ => l.length - (intOf i).toNat)
  case atStart => exact ⟨0, 0, by omega, rfl, rfl⟩
  case round =>
    obtain ⟨k, q, hk, rfl, rfl⟩ := hrel
    by_cases hlt : k < l.length
    · obtain ⟨A, oa, h0, _, hA⟩ := hct (by omega)
      cases h0
      obtain ⟨B, ob, rfl, _, hB⟩ := hc (by omega)
      obtain ⟨c1, c2⟩ := hA k hlt
      obtain ⟨d1, d2⟩ := hB k hlt
      rw [Nat.zero_add] at c1 c2
      clear hA hB hct hc
      have hnq := fun w => neqAt l[k].1 l[k].2 l[k].1 l[k].2 w
      have hgd := fun x y w => guardAt x y #[.string l[k].1, .string l[k].2] #[.string l[k].1, .string l[k].2] w
      have hk1 : (!(l[k].1.toList == l[k].1.toList && l[k].2.toList == l[k].2.toList)) = false := by simp
      rw [hk1] at hnq
      clear hk1
      go_wp2
      go_quiet (fail)
      go_wp2
      go_roundw
      case rel => exact ⟨k + 1, _, by omega, by go_num, rfl⟩
      case measure => simp [intOf]; omega
    · have hke : k = l.length := by omega
      subst hke
      clear hct hc
      obtain ⟨w2, hw2⟩ : ∃ w2, w.drewN q = w2 := ⟨_, rfl⟩
      have hb2 : Below w.heap.size w w2 := by rw [← hw2]; exact below_drewN (Below.refl _ _) q
      have t1 := (hb2.cell (p := ⟨T, l.length * 2, none⟩) hT).trans s1
      have t2 := (hb2.cell (p := ⟨T, l.length * 2 + 1, none⟩) hT).trans s2
      have hT2 : T < w2.heap.size := Nat.lt_of_lt_of_le hT hb2.size
      have HB := Lib.hid hb2
      rw [hw2]
      clear hw2 hb2 s1 s2 hT
      go_wp2
      go_ret
      exact ⟨rfl, (HB.out.alloc HB.out.size _)⟩
end Go.Proofs.YtikeaiibociapaaGreatDoor.src
