import Derived.Test.YtikeaiibociapaaGreatDoorSFillA
import Derived.Maps.AppendAt
namespace Go.Proofs.YtikeaiibociapaaGreatDoor.src
open Go.RowKit
set_option maxRecDepth 100000

theorem row_mono {w : World} {base base' : Nat} {e : TypeId} {size : Nat} {v : Value} {n : Nat} {xs : List Value} (h : w.ownsRow base e size v n xs) (hb : base' ≤ base) : w.ownsRow base' e size v n xs := by
  obtain ⟨h1, h2⟩ := h
  refine ⟨h1, ?_⟩
  rcases h2 with h2 | ⟨g, cap, cur, hv, hg, r⟩
  · exact .inl h2
  · exact .inr ⟨g, cap, cur, hv, by omega, r⟩

/-- a row's beginning, in one array with it -/
theorem row_head {w w' : World} {base sz : Nat} {e : TypeId} {g n c k c' : Nat} {xs ys : List Value} (h : w.ownsRow base e sz (.slice (some ⟨g, 0, none⟩) n c) n xs) (hk : w.ownsRow base e sz (.slice (some ⟨g, 0, none⟩) k c') k ys)
    (h' : w'.ownsRow base e sz (.slice (some ⟨g, 0, none⟩) k c') k ys) (hn : n ≤ k) : w'.ownsRow base e sz (.slice (some ⟨g, 0, none⟩) n c) n xs := by
  obtain ⟨h1, ⟨h0, _⟩ | ⟨g1, cap1, cur1, e1, b1, q1, n1, m1, s1, t1⟩⟩ := h
  · cases h0
  · obtain ⟨h2, ⟨h0, _⟩ | ⟨g2, cap2, cur2, e2, b2, q2, n2, m2, s2, t2⟩⟩ := hk
    · cases h0
    · obtain ⟨_, ⟨h0, _⟩ | ⟨g3, cap3, cur3, e3, b3, q3, n3, m3, s3, t3⟩⟩ := h'
      · cases h0
      · cases e1; cases e2; cases e3
        rw [q1] at q2
        cases q2
        refine ⟨h1, .inr ⟨g, c, cur3, rfl, b1, q3, n1, m1, by omega, ?_⟩⟩
        have ex : xs = ys.take (n * sz) := by rw [← t1, ← t2, List.take_take, Nat.min_eq_left (Nat.mul_le_mul_right sz hn)]
        rw [ex, ← t3, List.take_take, Nat.min_eq_left (Nat.mul_le_mul_right sz hn)]

/-- 'append(v, u)' on a row of one's own: the longer row lies in the same array, or in a new one; the row stays -/
theorem wpList_append_keep {P : Program} (w : World) {ops : Array Oper} {rest : List Oper} {o : Oper} {a : Act} {Q : Exit → Act → World → Prop} (hgd : o.guard = none) (s x : Operand) (t : TypeId)
    (ho : o.op = .call { callee := .builtin .append, args := #[s, x], argTypes := #[t, t] })
    (base : Nat) (e : TypeId) (i : TypeInfo) (z : Value) (sz bytes : Nat) (ht : P.underlying t = some (.slice e)) (hi : P.info? e = some i) (hz : i.zero = some z)
    (hsize : i.size = sz) (hby : i.bytes = bytes) (hzs : z.cells.size = sz) (hsz : 0 < sz)
    (p : Option Addr) (n c : Nat) (xs : List Value) (hs : a.eval s = .slice p n c) (hown : w.ownsRow base e sz (.slice p n c) n xs)
    (ad : Addr) (cx : Nat) (news : List Value) (news1 : news.length = 1 * sz) (hx : a.eval x = .slice (some ad) 1 cx) (hnews : ∀ j y, news[j]? = some y → w.cell? (ad.add j) = some y) (h1 : ∀ y ∈ news, y.oneCell' = true)
    (h63 : n + 1 ≤ maxLen) (hbytes : (n + 1) * bytes ≤ 140737488355328) (hbase : base ≤ w.heap.size)
    (h : ∀ (p' : Option Addr) (c' : Nat) (w' : World), w'.ownsRow base e sz (.slice p' (n + 1) c') (n + 1) (xs ++ news) → KeptBut (fun b => (Value.slice p n c).ownBlock = some b) w w' → w'.ownsRow base e sz (.slice p n c) n xs →
      (∀ g, (Value.slice p' (n + 1) c').ownBlock = some g → (Value.slice p n c).ownBlock = some g ∨ w.heap.size ≤ g) → wpList P ops Q rest (a.put o.dst (.slice p' (n + 1) c')) w') : wpList P ops Q (o :: rest) a w := by
  have hlen := hown.1
  have grown : ∀ (hnone : p = none → n = 0 ∧ c = 0) (holds : ∀ b, p = some b → ∀ j y, xs[j]? = some y → w.cell? (b.add j) = some y) (hfull : c < n + 1), wpList P ops Q (o :: rest) a w := by
    intro hnone holds hfull
    refine wpList_append_grows w hgd s x t ho e i z sz bytes ht hi hz hsize hby hzs hsz p n c xs hs hnone hlen holds ad 1 cx news hx news1 hnews h1 hfull h63 hbytes ?_
    intro v' w' r1 r2
    obtain ⟨g', cap', rfl⟩ := ownsRow_succ r1
    refine h _ _ _ (row_mono r1 hbase) ((KeptBut.refl _ w).grown r2 (fun k e => by cases e)) ?_ ?_
    · exact (KeptBut.refl (fun _ => False) w).grown r2 (fun k e => by cases e) |>.row hown (fun _ _ hf => hf)
    · intro g hg
      refine .inr ?_
      have := r1.lt g hg
      exact this.1
  rcases hown.2 with ⟨hv, h0⟩ | ⟨g, cap, cur, hv, hb, hg, hn, hm, hcs, htk⟩
  · cases hv
    exact grown (fun _ => ⟨rfl, rfl⟩) (fun b hb => by cases hb) (by omega)
  · cases hv
    by_cases hfull : c < n + 1
    · exact grown (fun hp => by cases hp) (fun b hb => by cases hb; exact hown.cells rfl) hfull
    · refine wpList_append_fits w hgd s x t ho base e i sz ht hi hsize g n c xs hs hown ad 1 cx news hx news1 hnews h1 (by omega) ?_
      intro w' r1 r2
      refine h _ _ _ r1 ((KeptBut.refl _ w).grown r2 (fun k e => by cases e; exact .inl rfl)) ?_ (fun g' hg' => .inl hg')
      obtain ⟨l1, ⟨h0, _⟩ | ⟨g3, cap3, cur3, e3, b3, q3, n3, m3, s3, t3⟩⟩ := r1
      · cases h0
      · cases e3
        refine ⟨hlen, .inr ⟨g, c, cur3, rfl, b3, q3, hn, m3, s3, ?_⟩⟩
        have ex : xs = (xs ++ news).take (n * sz) := by rw [List.take_left' (by omega)]
        rw [ex, ← t3, List.take_take, Nat.min_eq_left (Nat.mul_le_mul_right sz (Nat.le_succ n))]

theorem _root_.Go.Proofs.YtikeaiibociapaaGreatDoor.KeptBut.behind {S S2 : Nat → Prop} {a b c : World} (h : KeptBut S a b) (k : KeptBut S2 b c) (hs : ∀ x, S2 x → S x ∨ a.heap.size ≤ x) : KeptBut S a c :=
  ⟨k.os.trans h.os, k.tape.trans h.tape, k.output.trans h.output, Nat.le_trans h.size k.size, fun i hi hn =>
    (k.block i (Nat.lt_of_lt_of_le hi h.size) (fun e => by rcases hs i e with h1 | h1; exact hn h1; omega)).trans (h.block i hi hn)⟩

theorem Bk.setLong {F : Nat} {W : World} {K T cT : Nat} {hs : List Held} {ls : Nat → Sl} (h : Bk F W K T cT hs ls) (hKT : K ≠ T) (k : Nat) (hk : k < hs.length) (s : Sl) :
    Bk F (W.setCell ⟨T, k * 3 + 1, none⟩ s.v) K T cT hs (fun i => if i = k then s else ls i) where
  field := by rw [World.cell?_setCell_other _ _ _ _ (by intro e; injection e; exact hKT (by omega))]; exact h.field
  v := fun i hi => by rw [World.cell?_setCell_other _ _ _ _ (by intro e; injection e; omega)]; exact h.v i hi
  l := fun i hi => by
    by_cases e : i = k
    · subst e
      rw [if_pos rfl, World.cell?_setCell_same' _ _ _ (by rw [h.l i hi]; rfl)]
    · rw [if_neg e, World.cell?_setCell_other _ _ _ _ (by intro e'; injection e'; omega)]; exact h.l i hi
  nu := fun i hi => by rw [World.cell?_setCell_other _ _ _ _ (by intro e; injection e; omega)]; exact h.nu i hi
  fr := fun i hi => by rw [World.frozen?_setCell]; exact h.fr i hi
  lo := by simpa [World.setCell] using h.lo
  lt := by simpa [World.setCell] using h.lt

theorem Bk.congr {F : Nat} {W : World} {K T cT : Nat} {hs : List Held} {ls ls' : Nat → Sl} (h : Bk F W K T cT hs ls) (e : ∀ i, i < hs.length → ls i = ls' i) : Bk F W K T cT hs ls' where
  field := h.field
  v := h.v
  l := fun i hi => by rw [← e i hi]; exact h.l i hi
  nu := h.nu
  fr := h.fr
  lo := h.lo
  lt := h.lt

/-- the longer lists -/
def LongsA (w : World) (base : Nat) (hs : List Held) (L : Nat → Sl) (wr : World) (k : Nat) : Prop :=
  ∀ i (h : i < hs.length), i < k → (L i).n = hs[i].n + 40 ∧ wr.ownsRow base 69 2 (L i).v (hs[i].n + 40) (marksA hs[i] (hs[i].n + 40)) ∧ ∀ g, (L i).v.ownBlock = some g → hs[i].v.ownBlock = some g ∨ w.heap.size ≤ g

theorem row_kept {w w' : World} {e0 : TypeId} {base sz n k c' : Nat} {x : Held} {p : Option Addr} {xs ys : List Value} (h : w.ownsRow base e0 sz x.v n xs) (hx : x.n = n) (hk : w.ownsRow base e0 sz (.slice p k c') k ys) (hn : n ≤ k)
    (hkb : KeptBut (fun b => (Value.slice p k c').ownBlock = some b) w w') (h' : w'.ownsRow base e0 sz (.slice p k c') k ys) : w'.ownsRow base e0 sz x.v n xs := by
  obtain ⟨xp, xn, xc, xu⟩ := x
  simp only at hx
  subst hx
  cases p with
  | none => exact hkb.row h (fun g _ hg' => by cases hg')
  | some a =>
    cases xp with
    | none => exact hkb.row h (fun g hg _ => by cases hg)
    | some b =>
      by_cases e : b.block = a.block
      · have ha : a = ⟨a.block, 0, none⟩ := by
          rcases hk.2 with ⟨h0, _⟩ | ⟨g, _, _, h0, _⟩
          · cases h0
          · cases h0; rfl
        have hb : b = ⟨a.block, 0, none⟩ := by
          rcases h.2 with ⟨h0, _⟩ | ⟨g, _, _, h0, _⟩
          · cases h0
          · cases h0; rw [← e]
        unfold Held.v at h ⊢
        simp only at h ⊢
        rw [hb] at h ⊢
        rw [ha] at hk h'
        exact row_head h hk h' hn
      · exact hkb.row h (fun g hg hg' => by
          apply e
          have h1 : b.block = g := by simpa [Held.v, Value.ownBlock] using hg
          have h2 : a.block = g := by simpa [Value.ownBlock] using hg'
          omega)

set_option maxHeartbeats 2000000 in
theorem growAttr_any (base K T cT : Nat) (hs : List Held) (ls : Nat → Sl) (w : World) (hB : Bk 6 w K T cT hs ls) (hS : Sep K T hs) (hbase : base ≤ w.heap.size) (hn40 : ∀ i (h : i < hs.length), hs[i].n ≤ 4294967296)
    (hR : ∀ i (h : i < hs.length), w.ownsRow base 69 2 hs[i].v hs[i].n (marksA hs[i] hs[i].n)) :
    Calls Tryz.prog 69 #[.pointer (some ⟨K, 0, none⟩)] w fun e w' => e = .returned (.tuple #[]) ∧ KeptBut (fun b => b = T ∨ Own hs b) w w' ∧ (∀ i (h : i < hs.length), w'.ownsRow base 69 2 hs[i].v hs[i].n (marksA hs[i] hs[i].n)) ∧
      ∃ L : Nat → Sl, Bk 6 w' K T cT hs L ∧ LongsA w base hs L w' hs.length := by
  have hlen := hS.len
  have hnK : ¬ Own hs K := fun ⟨i, h, e⟩ => hS.nK i h e
  have hnT : ¬ Own hs T := fun ⟨i, h, e⟩ => hS.nT i h e
  obtain ⟨i0, hi, hz0, hz1, hz2⟩ := info_parts info48
  go_enter Tryz.func69, Tryz.ntmps69
  go_wp2
  go_loopw [2] (fun i wr => ∃ (k : Nat) (L : Nat → Sl), k ≤ hs.length ∧ i = .int .i64 k ∧ KeptBut (fun b => b = T ∨ Own hs b) w wr ∧ Bk 6 wr K T cT hs (fun i => if i < k then L i else ls i) ∧ (∀ i (h : i < hs.length), wr.ownsRow base 69 2 hs[i].v hs[i].n (marksA hs[i] hs[i].n)) ∧ LongsA w base hs L wr k) (fun i _ => hs.length - (intOf i).toNat)
  case atStart => exact ⟨0, ls, by omega, rfl, KeptBut.refl _ _, hB.congr (by intro i _; simp), hR, fun i _ h => by omega⟩
  case round =>
    obtain ⟨k, L, hk, rfl, hkb, hBk, hRk, hLk⟩ := hrel
    obtain ⟨wo, rfl⟩ : ∃ wo : World, wo = wr := ⟨_, rfl⟩
    have hf := hBk.field
    by_cases hlt : k < hs.length
    · have hv := hBk.v k hlt
      have hl := hBk.l k hlt
      have hnu := hBk.nu k hlt
      rw [if_neg (by omega)] at hl
      unfold Held.v at hv
      unfold Sl.v at hl
      go_wp2
      obtain ⟨W1, hW1⟩ : ∃ W1, wo.alloc (.cells #[.slice hs[k].p hs[k].n hs[k].c, .slice (ls k).p (ls k).n (ls k).c, .int .i64 hs[k].nu] 141) = W1 := ⟨_, rfl⟩
      have hh2 : W1.cell? ⟨wo.heap.size, 2, none⟩ = some (.int .i64 hs[k].nu) := by rw [← hW1, World.cell?_alloc_new]; rfl
      have hhs : wo.heap.size < W1.heap.size := by rw [← hW1]; simp
      have hkb0 : KeptBut (fun _ => False) wo W1 := by rw [← hW1]; exact (KeptBut.refl _ _).alloc _
      have hkb1 : KeptBut (fun b => b = T ∨ Own hs b) w W1 := hkb.trans (hkb0.mono (fun _ h => h.elim))
      have hR1 : ∀ i (h : i < hs.length), W1.ownsRow base 69 2 hs[i].v hs[i].n (marksA hs[i] hs[i].n) := fun i hi => hkb0.row (hRk i hi) (fun _ _ h => h)
      have hB1 := hBk.kept hkb0 (fun h => h) (fun h => h)
      have hL1 : LongsA w base hs L W1 k := fun i hi hik => ⟨(hLk i hi hik).1, hkb0.row (hLk i hi hik).2.1 (fun _ _ h => h), (hLk i hi hik).2.2⟩
      have hown : ∀ g, hs[k].v.ownBlock = some g → g < wo.heap.size := fun g e => ((hRk k hlt).lt g e).2
      have hLlt : ∀ i (h : i < hs.length), i < k → ∀ g, (L i).v.ownBlock = some g → g < wo.heap.size := fun i hi hik g e => ((hLk i hi hik).2.1.lt g e).2
      have hbase1 : base ≤ W1.heap.size := Nat.le_trans hbase hkb1.size
      have hws : w.heap.size ≤ wo.heap.size := hkb.size
      rw [hW1]
      have hnuk := hS.nu k hlt
      have hnk := hn40 k hlt
      have hrow := hR1 k hlt
      clear hW1 hv hl hnu hf hBk hRk hLk hkb
      go_loopw [4, 5] (fun v i wi => ∃ (j : Nat) (p : Option Addr) (c : Nat), j ≤ 40 ∧ i = .int .i64 j ∧ v = .slice p (hs[k].n + j) c ∧ KeptBut (fun b => hs[k].v.ownBlock = some b) W1 wi ∧ wi.ownsRow base 69 2 (.slice p (hs[k].n + j) c) (hs[k].n + j) (marksA hs[k] (hs[k].n + j)) ∧ wi.ownsRow base 69 2 hs[k].v hs[k].n (marksA hs[k] hs[k].n) ∧
        ∀ g, (Value.slice p (hs[k].n + j) c).ownBlock = some g → hs[k].v.ownBlock = some g ∨ W1.heap.size ≤ g) (fun _ i _ => 40 - (intOf i).toNat)
      case atStart => exact ⟨0, _, _, by omega, rfl, rfl, KeptBut.refl _ _, hrow, hrow, fun g hg => .inl hg⟩
      case round =>
        obtain ⟨j, p, c, hj, rfl, rfl, hki, hrj, hrv, hblk⟩ := hrel
        have c2 := (hki.cell (p := ⟨wo.heap.size, 2, none⟩) hhs (fun e => Nat.lt_irrefl _ (hown _ e))).trans hh2
        have hbw : base ≤ wr.heap.size := Nat.le_trans hbase1 hki.size
        by_cases hltj : j < 40
        · go_wp2_with (first | (go_at_call 117; refine (markAttr_any _ hnuk _).mono ?_; rintro e w2 ⟨rfl, hb2⟩; have km := KeptBut.below (S := fun _ => False) hb2; have zm := hb2.size; have rm := km.row hrj (fun _ _ h => h)) | (at_builtin; refine wpList_append_keep _ rfl (.tmp 28) (.tmp 32) 52 rfl base 69 i0 _ 2 32 Tryz.underlying52 hi hz0 hz1 hz2 rfl (by decide) p (hs[k].n + j) c _ rfl (rm.alloc _) ⟨w2.heap.size, 0, none⟩ 1 (markA hs[k].nu) rfl rfl (pair_new _ _ _ _) (pair_one _ _) (by unfold maxLen; omega) (by omega) (by simp; omega) ?_; intro p' c' w3 r1 r2 r3 r4))
          rw [← marksA_succ] at r1
          have hrow2 := row_kept ((km.row hrv (fun _ _ h => h)).alloc (.cells #[.string (markT hs[k].nu), .string ⟨#[]⟩] 69)) rfl (rm.alloc _) (by omega) r2 r3
          have hki2 : KeptBut (fun b => hs[k].v.ownBlock = some b) W1 w3 := ((hki.trans (km.mono (fun _ h => h.elim))).alloc _).behind r2 hblk
          have hsz := hki.size
          go_roundw
          case rel =>
            refine ⟨j + 1, p', c', by omega, by go_num, rfl, hki2, r1, hrow2, fun g hg => ?_⟩
            rcases r4 g hg with h | h
            · exact hblk g h
            · right; simp at h; omega
          case measure => simp [intOf]; omega
        · have hje : j = 40 := by omega
          have hBr := hB1.kept hki (fun e => hS.nK k hlt e) (fun e => hS.nT k hlt e)
          have hf := hBr.field
          have hl := hBr.l k hlt
          have hfr := hBr.fr k hlt
          rw [if_neg (by omega)] at hl
          unfold Sl.v at hl
          have hset := hBr.setLong hS.KT k hlt ⟨p, hs[k].n + j, c⟩
          have HJ := Lib.hid hje
          clear hje hBr
          go_wp2
          go_roundw
          case rel =>
            obtain ⟨L', hLk, hLn⟩ : ∃ L' : Nat → Sl, L' k = ⟨p, hs[k].n + j, c⟩ ∧ ∀ i, i ≠ k → L' i = L i := ⟨fun i => if i = k then ⟨p, hs[k].n + j, c⟩ else L i, if_pos rfl, fun i h => if_neg h⟩
            refine ⟨k + 1, L', by omega, by go_num, ?_, hset.congr ?_, ?_, ?_⟩
            · exact (hkb1.trans (hki.mono fun b hb => .inr ⟨k, hlt, hb⟩)).setCell (.inl (.inl rfl)) _
            · intro i _
              by_cases e : i = k
              · subst e
                rw [if_pos rfl, if_pos (by omega), hLk]
              · by_cases e2 : i < k
                · rw [if_neg e, if_pos e2, if_pos (by omega), hLn i e]
                · rw [if_neg e, if_neg e2, if_neg (by omega)]
            · intro i hi
              have hne : hs[i].v.ownBlock ≠ some T := hS.nT i hi
              refine ownsRow_setCell_other ?_ hne _
              by_cases e : i = k
              · subst e; exact hrv
              · exact hki.row (hR1 i hi) (fun g hg hg' => hS.ne k i hlt hi (Ne.symm e) g hg' hg)
            · intro i hi hik
              by_cases e : i = k
              · subst e
                rw [hLk]
                have hj40 := HJ.out
                subst hj40
                refine ⟨rfl, ownsRow_setCell_other hrj ?_ _, fun g hg => ?_⟩
                · intro e
                  rcases hblk T e with h | h
                  · exact hS.nT i hi h
                  · have := hB1.lt; omega
                · rcases hblk g hg with h | h
                  · exact .inl h
                  · right; omega
              · rw [hLn i e]
                obtain ⟨q1, q2, q3⟩ := hL1 i hi (by omega)
                refine ⟨q1, ownsRow_setCell_other (hki.row q2 fun g hg hg' => ?_) ?_ _, q3⟩
                · rcases q3 g hg with h | h
                  · exact hS.ne k i hlt hi (Ne.symm e) g hg' h
                  · have h1 := ((hR k hlt).lt g hg').2
                    omega
                · intro e2
                  rcases q3 T e2 with h | h
                  · exact hS.nT i hi h
                  · have := hB.lt; omega
          case measure => simp [intOf]; omega
    · have hke : k = hs.length := by omega
      have HE := Lib.hid hke
      clear hke
      go_wp2
      go_end0
      refine ⟨rfl, hkb, hRk, L, hBk.congr (fun i hi => by rw [if_pos (by have := HE.out; omega)]), ?_⟩
      rw [HE.out] at hLk
      exact hLk
end Go.Proofs.YtikeaiibociapaaGreatDoor.src
