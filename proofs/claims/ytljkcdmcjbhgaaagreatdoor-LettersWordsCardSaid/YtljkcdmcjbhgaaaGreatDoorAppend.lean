import Derived.Test.YtljkcdmcjbhgaaaGreatDoorFill
namespace Go.Proofs.YtljkcdmcjbhgaaaGreatDoor
open Go.RowKit
set_option maxRecDepth 100000

theorem row_mono {w : World} {base base' : Nat} {e : TypeId} {size : Nat} {v : Value} {n : Nat} {xs : List Value} (h : w.ownsRow base e size v n xs) (hb : base' ≤ base) : w.ownsRow base' e size v n xs := by
  obtain ⟨h1, h2⟩ := h
  refine ⟨h1, ?_⟩
  rcases h2 with h2 | ⟨g, cap, cur, hv, hg, r⟩
  · exact .inl h2
  · exact .inr ⟨g, cap, cur, hv, by omega, r⟩

/-- a row's beginning, in one array with it -/
theorem row_head {w w' : World} {base : Nat} {e : TypeId} {g n c k c' : Nat} {xs ys : List Value} (h : w.ownsRow base e 1 (.slice (some ⟨g, 0, none⟩) n c) n xs) (hk : w.ownsRow base e 1 (.slice (some ⟨g, 0, none⟩) k c') k ys)
    (h' : w'.ownsRow base e 1 (.slice (some ⟨g, 0, none⟩) k c') k ys) (hn : n ≤ k) : w'.ownsRow base e 1 (.slice (some ⟨g, 0, none⟩) n c) n xs := by
  obtain ⟨h1, ⟨h0, _⟩ | ⟨g1, cap1, cur1, e1, b1, q1, n1, m1, s1, t1⟩⟩ := h
  · cases h0
  · obtain ⟨h2, ⟨h0, _⟩ | ⟨g2, cap2, cur2, e2, b2, q2, n2, m2, s2, t2⟩⟩ := hk
    · cases h0
    · obtain ⟨_, ⟨h0, _⟩ | ⟨g3, cap3, cur3, e3, b3, q3, n3, m3, s3, t3⟩⟩ := h'
      · cases h0
      · cases e1; cases e2; cases e3
        rw [q1] at q2
        cases q2
        refine ⟨h1, .inr ⟨g, c, cur3, rfl, b1, q3, n1, m1, by omega, ?_⟩⟩
        have ex : xs = ys.take (n * 1) := by rw [← t1, ← t2, List.take_take, Nat.min_eq_left (by omega)]
        rw [ex, ← t3, List.take_take, Nat.min_eq_left (by omega)]

/-- 'append(v, u)' on a row of one's own: the longer row lies in the same array, or in a new one; the row stays -/
theorem wpList_append_keep {P : Program} (w : World) {ops : Array Oper} {rest : List Oper} {o : Oper} {a : Act} {Q : Exit → Act → World → Prop} (hgd : o.guard = none) (s x : Operand) (t : TypeId)
    (ho : o.op = .call { callee := .builtin .append, args := #[s, x], argTypes := #[t, t] })
    (base : Nat) (e : TypeId) (i : TypeInfo) (z : Value) (bytes : Nat) (ht : P.underlying t = some (.slice e)) (hi : P.info? e = some i) (hz : i.zero = some z)
    (hsize : i.size = 1) (hby : i.bytes = bytes) (hzs : z.cells.size = 1)
    (p : Option Addr) (n c : Nat) (xs : List Value) (hs : a.eval s = .slice p n c) (hown : w.ownsRow base e 1 (.slice p n c) n xs)
    (ad : Addr) (cx : Nat) (u : Value) (hx : a.eval x = .slice (some ad) 1 cx) (hnews : ∀ j y, [u][j]? = some y → w.cell? (ad.add j) = some y) (h1 : ∀ y ∈ [u], y.oneCell' = true)
    (h63 : n + 1 ≤ maxLen) (hbytes : (n + 1) * bytes ≤ 140737488355328) (hbase : base ≤ w.heap.size)
    (h : ∀ (p' : Option Addr) (c' : Nat) (w' : World), w'.ownsRow base e 1 (.slice p' (n + 1) c') (n + 1) (xs ++ [u]) → KeptBut (fun b => (Value.slice p n c).ownBlock = some b) w w' → w'.ownsRow base e 1 (.slice p n c) n xs →
      (∀ g, (Value.slice p' (n + 1) c').ownBlock = some g → (Value.slice p n c).ownBlock = some g ∨ w.heap.size ≤ g) → wpList P ops Q rest (a.put o.dst (.slice p' (n + 1) c')) w') : wpList P ops Q (o :: rest) a w := by
  have hlen := hown.1
  have news1 : [u].length = 1 * 1 := rfl
  have grown : ∀ (hnone : p = none → n = 0 ∧ c = 0) (holds : ∀ b, p = some b → ∀ j y, xs[j]? = some y → w.cell? (b.add j) = some y) (hfull : c < n + 1), wpList P ops Q (o :: rest) a w := by
    intro hnone holds hfull
    refine wpList_append_grows w hgd s x t ho e i z 1 bytes ht hi hz hsize hby hzs (by omega) p n c xs hs hnone hlen holds ad 1 cx [u] hx news1 hnews h1 hfull h63 hbytes ?_
    intro v' w' r1 r2
    obtain ⟨g', cap', rfl⟩ := ownsRow_succ r1
    refine h _ _ _ (row_mono r1 hbase) ((KeptBut.refl _ w).grown r2 (fun k e => by cases e)) ?_ ?_
    · exact (KeptBut.refl (fun _ => False) w).grown r2 (fun k e => by cases e) |>.row hown (fun _ _ hf => hf)
    · intro g hg
      refine .inr ?_
      have := r1.lt g hg
      exact this.1
  rcases hown.2 with ⟨hv, h0⟩ | ⟨g, cap, cur, hv, hb, hg, hn, hm, hcs, htk⟩
  · cases hv
    exact grown (fun _ => ⟨rfl, rfl⟩) (fun b hb => by cases hb) (by omega)
  · cases hv
    by_cases hfull : c < n + 1
    · exact grown (fun hp => by cases hp) (fun b hb => by cases hb; exact hown.cells rfl) hfull
    · refine wpList_append_fits w hgd s x t ho base e i 1 ht hi hsize g n c xs hs hown ad 1 cx [u] hx news1 hnews h1 (by omega) ?_
      intro w' r1 r2
      refine h _ _ _ r1 ((KeptBut.refl _ w).grown r2 (fun k e => by cases e; exact .inl rfl)) ?_ (fun g' hg' => .inl hg')
      obtain ⟨l1, ⟨h0, _⟩ | ⟨g3, cap3, cur3, e3, b3, q3, n3, m3, s3, t3⟩⟩ := r1
      · cases h0
      · cases e3
        refine ⟨hlen, .inr ⟨g, c, cur3, rfl, b3, q3, hn, m3, s3, ?_⟩⟩
        have ex : xs = (xs ++ [u]).take (n * 1) := by rw [List.take_left' (by omega)]
        rw [ex, ← t3, List.take_take, Nat.min_eq_left (by omega)]
end Go.Proofs.YtljkcdmcjbhgaaaGreatDoor
