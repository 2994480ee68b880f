import Derived.RangeFuncBox
import Derived.RangeFuncLeaves
import Derived.Shelf.Abstract
import Derived.WalkKit
import Derived.OwnWalkIn
import Derived.TacticsInMore
import Derived.LoopNIn
import Derived.LoopIn
import Derived.Maps.AppendAt
import Derived.Test.YtljkcdmcjbhgaaaRefKey
namespace Go.Proofs.Ytljkcdmcjbhgaaa
open Go.RowKit Go.Shelf

attribute [local go_sem] Oper.semAt_some

/-- rows that bear the run-time's mark lie as they lay -/
def KeepsMarked (W W' : World) : Prop := ∀ (g : Nat) (C : Array Value) (T : TypeId) (lo hi : Nat), hi ≠ 0 → W.heap[g]? = some (.cells C T (lo, hi)) → W'.heap[g]? = some (.cells C T (lo, hi))
theorem KeepsMarked.refl (W : World) : KeepsMarked W W := fun _ _ _ _ _ _ h => h
theorem KeepsMarked.trans {A B C : World} (h : KeepsMarked A B) (k : KeepsMarked B C) : KeepsMarked A C := fun g c t lo hi hh h0 => k g c t lo hi hh (h g c t lo hi hh h0)
theorem KeepsMarked.putObj (W : World) (l : Nat) (o o' : Obj) (hl : W.heap[l]? = some o) (ho : o.isCells = false) : KeepsMarked W (W.putObj l o') := fun g C T lo hi _ h => by
  have hne : g ≠ l := by rintro rfl; rw [h] at hl; cases hl; simp [Obj.isCells] at ho
  rw [World.putObj_heap_other hne]; exact h
theorem KeepsMarked.alloc (W : World) (o : Obj) : KeepsMarked W (W.alloc o) := fun g C T lo hi _ h => by
  rw [Below.heap_alloc W o g (Array.getElem?_eq_some_iff.1 h).1]; exact h
theorem KeepsMarked.grown {W W' : World} {row : Option Nat} (hg : W.grownBy W' row) (hr : ∀ k, row = some k → ∃ (C : Array Value) (T : TypeId), W.heap[k]? = some (.cells C T (0, 0))) : KeepsMarked W W' := fun g C T lo hi hne h => by
  have hlt := (Array.getElem?_eq_some_iff.1 h).1
  rw [hg.block g hlt (fun e => by obtain ⟨C', T', h'⟩ := hr g e.symm; rw [h'] at h; cases h; exact hne rfl)]; exact h
theorem KeepsMarked.below {W W' : World} (h : Below W.heap.size W W') : KeepsMarked W W' := fun g C T lo hi _ h0 => by
  rw [h.block g (Array.getElem?_eq_some_iff.1 h0).1]; exact h0

/-- what lies in block g: a text's bytes, marked -/
def RowOf (W : World) (g : Nat) (t : ByteArray) : Prop := ∃ (C : Array Value) (n : Nat), W.heap[g]? = some (.cells C 5 (n, n + 1)) ∧ ∀ j (hj : j < t.size), C[j]? = some (.int .u8 (t[j].toNat : Int))
theorem RowOf.kept {W W' : World} {g : Nat} {t : ByteArray} (h : RowOf W g t) (k : KeepsMarked W W') : RowOf W' g t := by
  obtain ⟨C, n, h1, h2⟩ := h
  exact ⟨C, n, k g C 5 n (n + 1) (by omega) h1, h2⟩
theorem RowOf.cell {W : World} {g : Nat} {t : ByteArray} (h : RowOf W g t) (j : Nat) (hj : j < t.size) : W.cell? ⟨g, j, none⟩ = some (.int .u8 (t[j].toNat : Int)) := by
  obtain ⟨C, n, h1, h2⟩ := h
  unfold World.cell?
  rw [h1]
  simpa using h2 j hj
theorem conv_row (w : World) (t : ByteArray) : ∃ (c : Nat) (w1 : World), (convert 9 31 (.string t)).run Try.prog w = .ok (.slice (some ⟨w.heap.size, 0, none⟩) t.size c) w1 ∧ Below w.heap.size w w1 ∧ RowOf w1 w.heap.size t := by
  refine ⟨_, _, run_bytes_of_string (P := Try.prog) w 9 31 5 t Try.underlying9 Try.underlying31 Try.underlying5, ?_, ?_⟩
  · exact ((Below.refl _ _).drew).alloc (Nat.le_refl _) _
  · refine ⟨bytesRow t (grownCap w t.size 0 5), (bytesRow t (grownCap w t.size 0 5)).size, ?_, fun j hj => bytesRow_at t _ j hj⟩
    show (w.heap.push _)[w.heap.size]? = _
    simp

theorem only_of_below {a w : World} (h : Below a.heap.size a w) : a.grownBy w none := ⟨h.os, h.tape, h.output, h.size, fun i hi _ => h.block i hi⟩

/-- 'keyBytes(s)': s is boxed; the function value captures the box -/
theorem keyBytes_in (n : Nat) (s : ByteArray) (w : World) :
    CallsIn Fence.wide n Try.prog 35 #[.string s] w fun e w' => e = .returned (.func (.func 37) #[] #[.pointer (some ⟨w.heap.size, 0, none⟩)]) ∧ w' = w.alloc (.cells #[.string s] 9) := by
  refine callsIn_wide.2 ?_
  go_enter Try.func35, Try.ntmps35
  go_wp2
  go_ret
  exact ⟨rfl, rfl⟩

set_option maxRecDepth 100000 in
set_option maxHeartbeats 1000000 in
theorem keyIter_in (n : Nat) (hn : 1 ≤ n) (l Bn : Nat) (s t : ByteArray) (hs : s.size ≤ maxLen) (HT : Hid (t.data.toList = lowL s.data.toList)) (J Jx : List UInt8 → World → Prop)
    (hY : ∀ pre x W, J pre W → pre.length < t.size → YieldAt Fence.wide (n - 1) Try.prog l #[.int .u8 (x.toNat : Int)] W fun e W' =>
      (e = .returned (.bool true) ∧ J (pre ++ [x]) W' ∧ KeepsMarked W W') ∨ (e = .returned (.bool false) ∧ Jx (pre ++ [x]) W'))
    (W : World) (hJ : AbidesFrom W.heap.size J) (hBn : W.cell? ⟨Bn, 0, none⟩ = some (.string s)) (h0 : J [] W) :
    CallsIn Fence.wide n Try.prog 37 #[.func (.yield l) #[] #[], .pointer (some ⟨Bn, 0, none⟩)] W fun e W' => (∃ v, e = .returned v) ∧
      ((∃ ys, ys = t.data.toList.filter alnum ∧ J ys W') ∨ (∃ pre, True ∧ Jx pre W')) := by
  refine callsIn_of_wp Try.func37 rfl trivial ?_ rfl
  simp only [Try.ntmps37, List.size_toArray, List.length_cons, List.length_nil, Nat.reduceAdd, Nat.reduceSub, Array.replicate_succ, Array.replicate_zero, List.push_toArray, List.append_toArray, List.nil_append, List.cons_append]
  gi_wp2_with fail
  refine ⟨trivial, (callsIn_wide.2 (lower_any s _ hs)).mono ?_⟩
  rintro e w1 ⟨rfl, hb1⟩
  obtain ⟨t', ht', hd', hz'⟩ := named (lowL s.data.toList)
  obtain rfl : t' = t := by
    apply ByteArray.ext; apply Array.toList_inj.1; rw [hd', HT.out]
  rw [ht']
  have hz : t'.size ≤ maxLen := by rw [hz']; simpa [lowL] using hs
  unfold maxLen at hz
  clear hd' hz' ht'
  have hJ1 := hJ _ _ _ _ h0 (only_of_below hb1) (fun r e => by cases e)
  obtain ⟨cap, w2, hconv, hb2, hrow⟩ := conv_row w1 t'
  have hJ2 := hJ _ _ _ _ hJ1 (only_of_below hb2) (fun r e => by cases e)
  have HZ : Hid (t'.data.toList.length = t'.size) := by exact Lib.hid (by simp)
  clear hJ1 hb1 hBn h0
  gi_wp2
  clear hconv hb2
  gi_loopw [9] (fun i wr => ∃ k : Nat, k ≤ t'.size ∧ i = .int .i64 k ∧ RowOf wr w1.heap.size t' ∧ J ((t'.data.toList.take k).filter alnum) wr) (fun i _ => t'.size - (intOf i).toNat)
  case atStart => exact ⟨0, by omega, rfl, hrow, by simpa using hJ2⟩
  case round =>
    obtain ⟨k, hk, rfl, hr, hJk⟩ := hrel
    clear hrow hJ2
    by_cases hlt : k < t'.size
    · have hlt' : k < t'.data.toList.length := by rw [HZ.out]; exact hlt
      have hc := hr.cell k hlt
      have hfl := filter_take_le t'.data.toList alnum k
      by_cases h1 : isL (t'[k].toNat : Int) = true
      · have ha : alnum t'[k] = true := by simp [alnum, isA, h1]
        have HN := Lib.hid (filter_take_succ_yes t'.data.toList alnum k hlt' ha)
        obtain ⟨fn, tmps, assign, body, hy, hR⟩ := hY _ t'[k] wr hJk (by omega)
        gi_wp2_with ((with_reducible refine ⟨?_, ?_⟩); (exact trivial); first | (gi_at_call 28; refine (callsIn_wide.2 (isLetter_any _ _)).mono ?_; rintro e w' ⟨rfl, rfl⟩) | (gi_at_call 29; refine (callsIn_wide.2 (isDigit_any _ _)).mono ?_; rintro e w' ⟨rfl, rfl⟩) | skip)
        refine hR.mono ?_
        rintro e W3 (⟨rfl, hJ3, hk3⟩ | ⟨rfl, hJx3⟩)
        · have hr3 := hr.kept hk3
          gi_wp2_with ((with_reducible refine ⟨?_, ?_⟩); (exact trivial); first | (gi_at_call 28; refine (callsIn_wide.2 (isLetter_any _ _)).mono ?_; rintro e w' ⟨rfl, rfl⟩) | (gi_at_call 29; refine (callsIn_wide.2 (isDigit_any _ _)).mono ?_; rintro e w' ⟨rfl, rfl⟩) | skip)
          go_roundw
          case rel => exact ⟨k + 1, by omega, by go_num, hr3, by rw [HN.out]; exact hJ3⟩
          case measure => simp [intOf]; omega
        · gi_wp2_with ((with_reducible refine ⟨?_, ?_⟩); (exact trivial); first | (gi_at_call 28; refine (callsIn_wide.2 (isLetter_any _ _)).mono ?_; rintro e w' ⟨rfl, rfl⟩) | (gi_at_call 29; refine (callsIn_wide.2 (isDigit_any _ _)).mono ?_; rintro e w' ⟨rfl, rfl⟩) | skip)
          refine bodyPost_ret (results_none rfl _ _ _) rfl ?_
          exact ⟨⟨_, rfl⟩, .inr ⟨_, trivial, hJx3⟩⟩
      · by_cases h2 : isD (t'[k].toNat : Int) = true
        · have ha : alnum t'[k] = true := by simp [alnum, isA, h2]
          have HN := Lib.hid (filter_take_succ_yes t'.data.toList alnum k hlt' ha)
          obtain ⟨fn, tmps, assign, body, hy, hR⟩ := hY _ t'[k] wr hJk (by omega)
          gi_wp2_with ((with_reducible refine ⟨?_, ?_⟩); (exact trivial); first | (gi_at_call 28; refine (callsIn_wide.2 (isLetter_any _ _)).mono ?_; rintro e w' ⟨rfl, rfl⟩) | (gi_at_call 29; refine (callsIn_wide.2 (isDigit_any _ _)).mono ?_; rintro e w' ⟨rfl, rfl⟩) | skip)
          refine hR.mono ?_
          rintro e W3 (⟨rfl, hJ3, hk3⟩ | ⟨rfl, hJx3⟩)
          · have hr3 := hr.kept hk3
            gi_wp2_with ((with_reducible refine ⟨?_, ?_⟩); (exact trivial); first | (gi_at_call 28; refine (callsIn_wide.2 (isLetter_any _ _)).mono ?_; rintro e w' ⟨rfl, rfl⟩) | (gi_at_call 29; refine (callsIn_wide.2 (isDigit_any _ _)).mono ?_; rintro e w' ⟨rfl, rfl⟩) | skip)
            go_roundw
            case rel => exact ⟨k + 1, by omega, by go_num, hr3, by rw [HN.out]; exact hJ3⟩
            case measure => simp [intOf]; omega
          · gi_wp2_with ((with_reducible refine ⟨?_, ?_⟩); (exact trivial); first | (gi_at_call 28; refine (callsIn_wide.2 (isLetter_any _ _)).mono ?_; rintro e w' ⟨rfl, rfl⟩) | (gi_at_call 29; refine (callsIn_wide.2 (isDigit_any _ _)).mono ?_; rintro e w' ⟨rfl, rfl⟩) | skip)
            refine bodyPost_ret (results_none rfl _ _ _) rfl ?_
            exact ⟨⟨_, rfl⟩, .inr ⟨_, trivial, hJx3⟩⟩
        · have ha : alnum t'[k] = false := by simp [alnum, isA, h1, h2]
          have HN := Lib.hid (filter_take_succ_no t'.data.toList alnum k hlt' ha)
          gi_wp2_with ((with_reducible refine ⟨?_, ?_⟩); (exact trivial); first | (gi_at_call 28; refine (callsIn_wide.2 (isLetter_any _ _)).mono ?_; rintro e w' ⟨rfl, rfl⟩) | (gi_at_call 29; refine (callsIn_wide.2 (isDigit_any _ _)).mono ?_; rintro e w' ⟨rfl, rfl⟩) | skip)
          refine ⟨fun _ _ => trivial, ?_⟩
          gi_wp2
          go_roundw
          case rel => exact ⟨k + 1, by omega, by go_num, hr, by rw [HN.out]; exact hJk⟩
          case measure => simp [intOf]; omega
    · have HE := Lib.hid (show t'.data.toList.take k = t'.data.toList from List.take_of_length_le (by rw [HZ.out]; omega))
      gi_wp2
      go_end0
      rw [HE.out] at hJk
      exact ⟨⟨_, rfl⟩, .inl ⟨_, rfl, hJk⟩⟩

theorem keyIter_stops (n : Nat) (hn : 1 ≤ n) (Bn : Nat) (s t : ByteArray) (hs : s.size ≤ maxLen) (HT : Hid (t.data.toList = lowL s.data.toList)) (w : World) (hBn : Bn < w.heap.size) (hc : w.cell? ⟨Bn, 0, none⟩ = some (.string s)) :
    SeqStopsK Fence.wide n Try.prog 37 #[.pointer (some ⟨Bn, 0, none⟩)] (fun x : UInt8 => #[Value.int .u8 (x.toNat : Int)]) KeepsMarked (fun ys => ys = t.data.toList.filter alnum) (fun _ => True) t.size w := fun l J Jx W hW hJ _ hY h0 =>
  keyIter_in n hn l Bn s t hs HT J Jx hY W hJ ((hW.cell (p := ⟨Bn, 0, none⟩) hBn).trans hc) h0

/-- an append to a slice of one's own in a box keeps what is marked -/
theorem appended_marked {W w1 : World} {n₀ B : Nat} {t e : TypeId} {size : Nat} {v v' : Value} {k : Nat} {xs : List Value} {tmp : Obj}
    (hv : Boxed W B t v) (hte : t ≠ e) (hrow : W.ownsRow n₀ e size v k xs) (hgrow : (W.alloc tmp).grownBy w1 v.ownBlock) : KeepsMarked W (w1.setCell ⟨B, 0, none⟩ v') := by
  have hv1 : Boxed w1 B t v := (hv.alloc tmp).kept hgrow (hv.not_row hte hrow)
  refine ((KeepsMarked.alloc W tmp).trans (KeepsMarked.grown hgrow fun j ej => ?_)).trans (KeepsMarked.grown (grownBy_setCell' w1 B v') fun j ej => by cases ej; exact ⟨_, _, hv1⟩)
  rcases (hrow.alloc tmp).2 with ⟨rfl, _⟩ | ⟨g, cap, cur, rfl, _, hgb, _⟩
  · simp [Value.ownBlock] at ej
  · obtain rfl : g = j := by simpa [Value.ownBlock] using ej
    exact ⟨_, _, hgb⟩

set_option maxRecDepth 100000 in
set_option maxHeartbeats 2000000 in
theorem key_in (n : Nat) (hn : 3 ≤ n) (s : ByteArray) (hr : s.size ≤ 140737488351232) (w : World) :
    CallsIn Fence.wide n Try.prog 25 #[.string s] w fun e w' => e = .returned (.string ⟨(keyL s.data.toList).toArray⟩) ∧ Below w.heap.size w w' := by
  have h1 : 1 ≤ n := by omega
  obtain ⟨i0, hi, hz0, hz1, hz2⟩ := info_parts info5
  obtain ⟨t, ht, hd, hz⟩ := named (lowL s.data.toList)
  have hlen : t.size ≤ 140737488351232 := by rw [hz]; simpa [lowL] using hr
  have HK : Hid (keyL s.data.toList = t.data.toList.filter alnum) := by exact Lib.hid (by rw [hd]; rfl)
  have HT : Hid (t.data.toList = lowL s.data.toList) := by exact Lib.hid hd
  have hs : s.size ≤ maxLen := by unfold maxLen; omega
  clear ht hd hz
  refine callsIn_of_wp_marks Try.func25 rfl trivial ?_ rfl
  simp only [Try.ntmps25, List.size_toArray, List.length_cons, List.length_nil, Nat.reduceAdd, Nat.reduceSub, Array.replicate_succ, Array.replicate_zero, List.push_toArray, List.append_toArray, List.nil_append, List.cons_append]
  gi_wp2_with fail
  refine ⟨trivial, (keyBytes_in (n - 1) s _).mono ?_⟩
  rintro e w' ⟨rfl, rfl⟩
  gi_wp2
  have bO := Boxed.new w 31 (.slice none 0 0)
  have bN := Boxed.new (w.alloc (.cells #[.slice none 0 0] 31)) 9 (.string s)
  rw [World.size_alloc] at bN
  have hB0 : Below w.heap.size w ((w.alloc (.cells #[.slice none 0 0] 31)).alloc (.cells #[.string s] 9)) := ((Below.refl _ w).alloc (Nat.le_refl _) _).alloc (by simp) _
  refine wpIn_rangeFunc_ownG rfl h1 (gf := 37) (lb := #[.pointer (some ⟨w.heap.size + 1, 0, none⟩)]) rfl trivial (enters_of Try.func37 (by kernel_rfl) rfl)
    (keyIter_stops (n - 1) (by omega) (w.heap.size + 1) s t hs HT _ (by simp) bN.cell) KeepsMarked.trans (fun W l o o' _ hl ho _ => KeepsMarked.putObj W l o o' hl ho) (Below.refl _ _) (fun _ => rfl)
    (fun pre W => (∃ v, Boxed W w.heap.size 31 v ∧ W.ownsRow w.heap.size 5 1 v pre.length (pre.map u8v) ∧ True) ∧ Below w.heap.size w W)
    (fun _ _ _ => False)
    (OwnFrom.and (Own.from (holdsRow_own w.heap.size w.heap.size 31 5 1 (fun pre : List UInt8 => pre.length) (fun pre : List UInt8 => pre.map u8v) (fun _ _ => True)) _) (ownFrom_below (Nat.le_refl _) (by simp; omega)))
    (fun _ _ _ _ _ hs _ _ => hs)
    ⟨⟨_, bO.alloc _, World.ownsRow_nil _ _ _ _, trivial⟩, hB0⟩
    (fun x => { tmps := #[.string s, undef, .string ⟨#[]⟩, .pointer (some ⟨w.heap.size, 0, none⟩), .int .u8 (x.toNat : Int), .string s, .func (.func 37) #[] #[.pointer (some ⟨w.heap.size + 1, 0, none⟩)], .int .u8 (x.toNat : Int), undef, undef, undef, undef, undef, undef], defers := [] }) ?assign ?body ?done ?stop
  case assign =>
    intro l x W K hK
    gi_wp2
    exact hK
  case body =>
    rintro l pre x W ⟨⟨v, hv, hrow, _⟩, hB⟩ hlt
    have hc := hv.cell
    gi_wp2_with (gi_at_builtin; refine wpListIn_append_own _ rfl _ _ 31 rfl w.heap.size 5 i0 (.int .u8 0) 1 1 Try.underlying31 hi hz0 hz1 hz2 rfl (by decide) _ _ _ rfl (hrow.alloc _) ⟨W.heap.size, 0, none⟩ 1 1 [u8v x] rfl rfl (cell_one_new _ _ _) (by simp [Value.oneCell', u8v]) (by unfold maxLen; omega) (by omega) (by have := hB.size; simp; omega) ?_; intro v' w1 hown' hgrow _; obtain ⟨g', cap', rfl⟩ := ownsRow_succ hown'; have hmk := appended_marked (v' := .slice (some ⟨g', 0, none⟩) (pre.length + 1) cap') hv (by decide) hrow hgrow; obtain ⟨hv1, hv2, hr2, hk2, hb2⟩ := hv.appended (by decide) hrow hB.size (Nat.le_refl _) hown' hgrow; have hc1 := hv1.cell; have hf1 := hv1.frozen)
    exact ⟨hk2.from _, hmk, ⟨_, hv2, by simpa using hr2, trivial⟩, hB.trans hb2⟩
  case done =>
    rintro D ys W hD rfl ⟨⟨v, hv, hrow, _⟩, hB⟩ hK
    have hc := hv.cell
    have hback := conv_owned hrow
    gi_wp2
    refine ⟨by simp, .inl ⟨_, _, rfl, run_takeDeferred hK, ?_⟩⟩
    refine ⟨_, results_tmp rfl _ _ _, ?_, ?_⟩
    · exact ret_str HK.out.symm
    · exact hB.trans (belowK_b (w := w) (Nat.le_refl _) W D _ _ (by simp at hD; omega) hK rfl rfl)
  case stop =>
    rintro D c pre W _ _ h _
    exact h.elim

theorem key_any (s : ByteArray) (hr : s.size ≤ 140737488351232) (w : World) :
    Calls Try.prog 25 #[.string s] w fun e w' => e = .returned (.string ⟨(keyL s.data.toList).toArray⟩) ∧ Below w.heap.size w w' :=
  callsIn_wide.1 (key_in 3 (by omega) s hr w)
end Go.Proofs.Ytljkcdmcjbhgaaa
