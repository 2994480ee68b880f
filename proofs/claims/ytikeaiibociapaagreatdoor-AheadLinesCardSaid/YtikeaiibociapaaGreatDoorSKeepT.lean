import Derived.Test.YtikeaiibociapaaGreatDoorSKeepA
namespace Go.Proofs.YtikeaiibociapaaGreatDoor.src
open Go.RowKit
set_option maxRecDepth 100000

theorem infoT : (Tryz.prog.info? 125).map (fun i => (i.zero, i.size, i.bytes)) = some (some (.agg #[nilS, nilS, .int .i64 0]), 3, 56) := by kernel_rfl

set_option maxHeartbeats 1000000 in
theorem keepText_any (base K : Nat) (n : Int) (at0 : Value) (p : Option Addr) (m c : Nat) (xs : List Value) (lp : Option Addr) (ln lc : Nat) (w : World) (hn : 0 ≤ n ∧ n ≤ 1000) (hm : m ≤ 1000) (hB : BookIs w K n (.slice p m c) at0) (hbase : base ≤ w.heap.size)
    (hown : w.ownsRow base 125 3 (.slice p m c) m xs) (hK : (Value.slice p m c).ownBlock ≠ some K) :
    Calls Tryz.prog 46 #[.pointer (some ⟨K, 0, none⟩), .slice lp ln lc] w fun e w' => e = .returned (.tuple #[]) ∧ ∃ (p' : Option Addr) (c' : Nat), BookIs w' K (n + 1) (.slice p' (m + 1) c') at0 ∧
      w'.ownsRow base 125 3 (.slice p' (m + 1) c') (m + 1) (xs ++ [.slice lp ln lc, nilS, .int .i64 (n + 1)]) ∧ KeptBut (fun b => b = K ∨ (Value.slice p m c).ownBlock = some b) w w' := by
  have c0 := hB.num
  have f0 := hB.frozen 0
  have c3 := hB.texts
  have f3 := hB.frozen 3
  obtain ⟨i0, hi, hz0, hz1, hz2⟩ := info_parts infoT
  go_enter Tryz.func46, Tryz.ntmps46
  go_wp2
  obtain ⟨W1, hW1⟩ : ∃ W1, w.setCell ⟨K, 0, none⟩ (.int .i64 (n + 1)) = W1 := ⟨_, rfl⟩
  have hk1 : KeptBut (fun b => b = K ∨ (Value.slice p m c).ownBlock = some b) w W1 := by rw [← hW1]; exact (KeptBut.refl _ w).setCell (.inl (.inl rfl)) _
  have hB1 : BookIs W1 K (n + 1) (.slice p m c) at0 := by rw [← hW1]; exact hB.setNum _
  have hown1 : W1.ownsRow base 125 3 (.slice p m c) m xs := by rw [← hW1]; exact ownsRow_setCell_other hown hK _
  have hbase1 : base ≤ W1.heap.size := by rw [← hW1]; simpa [World.setCell] using hbase
  rw [hW1]
  clear hW1 c0 f0 c3 f3 hown hbase
  have c0 := hB1.num
  have c3 := hB1.texts
  have hKlt := hB1.lt
  go_region_law (refine step_append_own' rfl (.tmp 15) (.tmp 22) 32 rfl base 125 i0 (.agg #[nilS, nilS, .int .i64 0]) 3 56 Tryz.underlying32 hi hz0 hz1 hz2 rfl (by decide) (.slice p m c) m xs rfl (by exact World.ownsRow.drew (hown1.alloc _)) ⟨W1.heap.size, 0, none⟩ 1 1 [.slice lp ln lc, nilS, .int .i64 (n + 1)] rfl rfl (by exact new3 W1 _ _ _ 125) (by simp [Value.oneCell']) (by unfold maxLen; omega) (by omega) (by simp; omega) ?_; intro v' w2 r1 r2 r3; obtain ⟨g', cap', rfl⟩ := ownsRow_succ r1; have hB2 := book_behind hB1 r2 hK; have d3 := hB2.texts; have e3 := hB2.frozen 3)
  all_goals go_end0
  all_goals exact ⟨rfl, some ⟨g', 0, none⟩, cap', hB2.setTexts _, ownsRow_setCell_other r1 (book_not_row hB2 (by decide) r1) _, KeptBut.setCell (((hk1.alloc _).drew).grown r2 (fun k hk => .inl (.inr hk))) (.inl (.inl rfl)) _⟩
end Go.Proofs.YtikeaiibociapaaGreatDoor.src
