/- Merged: Bt, RefAsk, FillL, SameA, Size, Twin, Own, LinesL, Fills, Parts4, Find, Get, SameT, LinesJ. -/
import Derived.Test.YtbhlnemahhndoaaGreatDoorU3
import Derived.Lib.IndexBytes
import Derived.Test.YtbhlnemahhndoaaGreatDoorU1
import Derived.Laws.StructEq
import Derived.IntWalk
import Derived.OwnWalk
import Derived.OneCell
import Derived.ArgAppend
import Derived.Maps.AppendAt
import Derived.Test.YtbhlnemahhndoaaGreatDoorU6
import Derived.Lib.IndexLaws
import Derived.BigQuiet
import Derived.Deep.QuietTactic
namespace Go.Proofs.YtbhlnemahhndoaaGreatDoor
open Go.RowKit

/-- bytes as a text -/
def bT (l : List UInt8) : ByteArray := ⟨l.toArray⟩
theorem bT_data (s : ByteArray) : bT s.data.toList = s := by apply ByteArray.ext; simp [bT]
theorem bT_list (l : List UInt8) : (bT l).data.toList = l := rfl
theorem extract_list (s : ByteArray) (a : Nat) : (s.extract a s.size).data.toList = s.data.toList.drop a := by
  rw [Lib.extract_data]; rw [List.take_of_length_le]; simp
theorem extract_take (s : ByteArray) (n : Nat) : (s.extract 0 n).data.toList = s.data.toList.take n := by
  rw [Lib.extract_data]; simp
theorem empty_list {s : ByteArray} : s.toList.isEmpty = s.data.toList.isEmpty := by rw [Lib.toList_data]
end Go.Proofs.YtbhlnemahhndoaaGreatDoor
namespace Go.Proofs.YtbhlnemahhndoaaGreatDoor
open Go.RowKit

/-- what stands behind a condition's name -/
def restA (o : Option ByteArray) (nm : List UInt8) (no : Bool) : List UInt8 → Option (List UInt8 × Bool)
  | [] => some (nm, o.isSome != no)
  | x :: t => if no = true then none
    else if x = 61 then some (nm, decide (o = some (bT t)))
    else match t with
      | [] => none
      | y :: t2 => if x = 33 ∧ y = 61 then some (nm, !decide (o = some (bT t2))) else none
theorem rest_no (o : Option ByteArray) (nm : List UInt8) (x : UInt8) (t : List UInt8) : restA o nm true (x :: t) = none := by simp [restA]
theorem rest_is (o : Option ByteArray) (nm : List UInt8) {x : UInt8} (t : List UInt8) (h : x = 61) : restA o nm false (x :: t) = some (nm, decide (o = some (bT t))) := by simp only [restA]; rw [if_neg (by decide), if_pos h]
theorem rest_one (o : Option ByteArray) (nm : List UInt8) {x : UInt8} (h : ¬ x = 61) : restA o nm false [x] = none := by simp [restA, h]
theorem rest_isnt (o : Option ByteArray) (nm : List UInt8) {x y : UInt8} (t : List UInt8) (h : ¬ x = 61) (h2 : x = 33 ∧ y = 61) : restA o nm false (x :: y :: t) = some (nm, !decide (o = some (bT t))) := by
  simp only [restA]; rw [if_neg (by decide), if_neg h, if_pos h2]
theorem rest_other (o : Option ByteArray) (nm : List UInt8) {x y : UInt8} (t : List UInt8) (h : ¬ x = 61) (h2 : ¬ (x = 33 ∧ y = 61)) : restA o nm false (x :: y :: t) = none := by
  simp only [restA]; rw [if_neg (by decide), if_neg h, if_neg h2]
/-- a condition behind its mark -/
def askN (l : List At) (no : Bool) (c : List UInt8) : Option (List UInt8 × Bool) :=
  if nameB (c.take (runL c)) = false then none else restA (getL l (bT (c.take (runL c)))) (c.take (runL c)) no (c.drop (runL c))
theorem ask_noname {o : Option ByteArray} {nm : List UInt8} {no : Bool} {r : List UInt8} (h : nameB nm = false) : (if nameB nm = false then none else restA o nm no r) = none := if_pos h
theorem ask_name {o : Option ByteArray} {nm : List UInt8} {no : Bool} {r : List UInt8} (h : nameB nm = true) : (if nameB nm = false then none else restA o nm no r) = restA o nm no r := if_neg (by rw [h]; decide)
/-- what a condition asks for, and whether it holds -/
def askL (l : List At) (c : List UInt8) : Option (List UInt8 × Bool) := match c with
  | [] => none
  | x :: c' => if x = 33 then askN l true c' else askN l false c
/-- what Ask answers -/
def askV : Option (List UInt8 × Bool) → Value
  | some (n, h) => .tuple #[.string (bT n), .bool h, .int .i64 0]
  | none => .tuple #[.string ⟨#[]⟩, .bool false, .int .i64 4]
theorem ask_none {o : Option (List UInt8 × Bool)} (h : o = none) : Value.tuple #[.string ⟨#[]⟩, .bool false, .int .i64 4] = askV o := by rw [h]; rfl
theorem ask_some {o : Option (List UInt8 × Bool)} {n : ByteArray} {b : Bool} (h : o = some (n.data.toList, b)) : Value.tuple #[.string n, .bool b, .int .i64 0] = askV o := by
  rw [h]; show _ = Value.tuple #[.string (bT n.data.toList), .bool b, .int .i64 0]; rw [bT_data]


end Go.Proofs.YtbhlnemahhndoaaGreatDoor
namespace Go.Proofs.YtbhlnemahhndoaaGreatDoor
open Go.RowKit

/-- what is asked for at a text's beginning: '{', a name, '}' -/
def askedL : List UInt8 → Option (List UInt8)
  | [] => none
  | c :: t => if c = 123 ∧ t[runL t]? = some 125 ∧ nameB (t.take (runL t)) = true then some (t.take (runL t)) else none
/-- a name's value, or as it stands -/
def valueL (l : List At) (nm : List UInt8) : List UInt8 := match getL l (bT nm) with
  | some v => v.data.toList
  | none => 123 :: nm ++ [125]
/-- a text, filled: what is left, what was told, what was asked for -/
def fillF (l : List At) : Nat → List UInt8 → List UInt8 → List (List UInt8) → List UInt8 × List (List UInt8)
  | 0, _, out, asked => (out, asked)
  | f + 1, s, out, asked => match s with
    | [] => (out, asked)
    | c :: t => match askedL (c :: t) with
      | some nm => fillF l f (t.drop (nm.length + 1)) (out ++ valueL l nm) (if nm ∈ asked then asked else asked ++ [nm])
      | none => fillF l f t (out ++ [c]) asked
def fillL (l : List At) (s : List UInt8) : List UInt8 × List (List UInt8) := fillF l s.length s [] []

theorem fillF_end (l : List At) (f : Nat) (out : List UInt8) (asked : List (List UInt8)) : fillF l f [] out asked = (out, asked) := by cases f <;> rfl
theorem fillF_plain {l : List At} {f : Nat} {c : UInt8} {t out : List UInt8} {asked : List (List UInt8)} (h : askedL (c :: t) = none) : fillF l (f + 1) (c :: t) out asked = fillF l f t (out ++ [c]) asked := by
  simp only [fillF, h]
theorem fillF_name {l : List At} {f : Nat} {c : UInt8} {t out nm : List UInt8} {asked : List (List UInt8)} (h : askedL (c :: t) = some nm) :
    fillF l (f + 1) (c :: t) out asked = fillF l f (t.drop (nm.length + 1)) (out ++ valueL l nm) (if nm ∈ asked then asked else asked ++ [nm]) := by
  simp only [fillF, h]
/-- more fuel than is wanted changes nothing -/
theorem fillF_more (l : List At) : ∀ (f : Nat) (s out : List UInt8) (asked : List (List UInt8)), s.length ≤ f → fillF l f s out asked = fillF l s.length s out asked := by
  intro f
  induction f using Nat.strongRecOn with
  | ind f ih =>
    intro s out asked hf
    cases s with
    | nil => rw [fillF_end, fillF_end]
    | cons c t =>
      obtain ⟨g, rfl⟩ : ∃ g, f = g + 1 := ⟨f - 1, by simp at hf; omega⟩
      simp only [List.length_cons] at hf ⊢
      cases h : askedL (c :: t) with
      | none => rw [fillF_plain h, fillF_plain h]; exact ih g (by omega) t _ _ (by omega)
      | some nm =>
        rw [fillF_name h, fillF_name h]
        have h1 : (t.drop (nm.length + 1)).length ≤ t.length := by rw [List.length_drop]; omega
        rw [ih g (by omega) _ _ _ (by omega)]
        by_cases e : t.length = g
        · rw [e, ih g (by omega) _ _ _ (by omega)]
        · rw [ih t.length (by omega) _ _ _ h1]
theorem fill_plain {l : List At} {c : UInt8} {t out : List UInt8} {asked : List (List UInt8)} (h : askedL (c :: t) = none) : fillF l (c :: t).length (c :: t) out asked = fillF l t.length t (out ++ [c]) asked := fillF_plain h
theorem fill_name {l : List At} {c : UInt8} {t out nm : List UInt8} {asked : List (List UInt8)} (h : askedL (c :: t) = some nm) :
    fillF l (c :: t).length (c :: t) out asked = fillF l (t.drop (nm.length + 1)).length (t.drop (nm.length + 1)) (out ++ valueL l nm) (if nm ∈ asked then asked else asked ++ [nm]) := by
  rw [List.length_cons, fillF_name h, fillF_more]
  rw [List.length_drop]; omega
end Go.Proofs.YtbhlnemahhndoaaGreatDoor
namespace Go.Proofs.YtbhlnemahhndoaaGreatDoor
open Go.RowKit

theorem atTake_all (la lb : List At) (h : la.length = lb.length) (k : Nat) (hk : la.length ≤ k) (e : la.take k = lb.take k) : la = lb := by
  rwa [List.take_of_length_le hk, List.take_of_length_le (by omega)] at e
theorem atTake_next (la lb : List At) (k : Nat) (h1 : k < la.length) (h2 : k < lb.length) (e : la.take k = lb.take k) (h : la[k] = lb[k]) : la.take (k + 1) = lb.take (k + 1) := by
  rw [List.take_succ_eq_append_getElem h1, List.take_succ_eq_append_getElem h2, e, h]

theorem eqAt (a b c d : ByteArray) (w : World) : (Op.equalIn 10000 84 (.agg #[.string a, .string b]) (.agg #[.string c, .string d])).run Tryz.prog w = .ok (a.toList == c.toList && b.toList == d.toList) w := by
  have u9 := Tryz.underlying9
  have a9 := Tryz.isAgg9
  have z9 := Tryz.sizeOf9
  have hS : Tryz.prog.underlying 84 = some (.struct (Tryz.prog.fieldsOf 84)) := by kernel_rfl
  have hp : Tryz.prog.stoodInHeld 84 = false := by kernel_rfl
  rw [show (10000 : Nat) = 9999 + 1 from rfl, run_equalIn_agg w 9999 84 _ _ hS hp]
  simp only [Program.fieldsOf, Tryz.underlying84]
  go_simp
  by_cases h1 : a.toList = c.toList <;> by_cases h2 : b.toList = d.toList <;> simp [h1, h2]
theorem neqAt (a b c d : ByteArray) (w : World) : (binOp .neq 84 (.agg #[.string a, .string b]) (.agg #[.string c, .string d])).run Tryz.prog w = .ok (.bool (!(a.toList == c.toList && b.toList == d.toList))) w := by
  rw [run_neq_struct, eqAt]; rfl
theorem guardAt (x y : Operand) (xs ys : Array Value) (w : World) : (eqGuard .neq 84 x y (.agg xs) (.agg ys)).run Tryz.prog w = .ok () w :=
  run_eqGuard_agg w .neq 84 x y xs ys (by kernel_rfl)
theorem at_eq (a b : At) : (a.1.toList == b.1.toList && a.2.toList == b.2.toList) = decide (a = b) := by
  rw [Bool.eq_iff_iff, Bool.and_eq_true, beq_iff_eq, beq_iff_eq, decide_eq_true_eq, Lib.toList_data, Lib.toList_data, Lib.toList_data, Lib.toList_data]
  constructor
  · rintro ⟨h1, h2⟩
    exact Prod.ext (ByteArray.ext (Array.toList_inj.1 h1)) (ByteArray.ext (Array.toList_inj.1 h2))
  · rintro rfl; exact ⟨rfl, rfl⟩
theorem atNe (la lb : List At) (k : Nat) (h1 : k < la.length) (h2 : k < lb.length) (h : la[k] ≠ lb[k]) : la ≠ lb := by
  intro e; subst e; exact h rfl

end Go.Proofs.YtbhlnemahhndoaaGreatDoor
namespace Go.Proofs.YtbhlnemahhndoaaGreatDoor
open Go.RowKit

/-- all bytes -/
def sumL (l : List At) : Nat := (l.map fun a => a.1.size + a.2.size).sum
theorem sumL_take (l : List At) (k : Nat) (h : k < l.length) : sumL (l.take (k + 1)) = sumL (l.take k) + (l[k].1.size + l[k].2.size) := by
  unfold sumL
  rw [List.take_succ_eq_append_getElem h, List.map_append, List.sum_append]; simp
theorem sumL_mem : ∀ (l : List At) (a : At), a ∈ l → a.1.size + a.2.size ≤ sumL l
  | b :: l, a, h => by
    have e : sumL (b :: l) = (b.1.size + b.2.size) + sumL l := by simp [sumL]
    rcases List.mem_cons.1 h with rfl | h
    · omega
    · have := sumL_mem l a h; omega

set_option maxHeartbeats 400000 in
theorem attrsSize_any (v : Value) (l : List At) (w : World) (h : Attrs w v l) (hl1 : l.length ≤ 1000) : Calls Tryz.prog 30 #[v] w fun e w' => ∃ N : Nat, e = .returned (.int .i64 (N : Int)) ∧ (N ≤ 1048576 → N = l.length + sumL l) ∧ ∃ q, w' = w.drewN q := by
  obtain ⟨p, cap, rfl, hl, ⟨hs, -⟩, hc⟩ := h
  go_enter Tryz.func30, Tryz.ntmps30
  go_wp2
  go_loopw [3, 4] (fun n i wr => ∃ k N q : Nat, k ≤ l.length ∧ i = .int .i64 k ∧ n = .int .i64 (N : Int) ∧ N = l.length + sumL (l.take k) ∧ N ≤ 281474977800000 ∧ wr = w.drewN q) (fun _ i _ => l.length - (intOf i).toNat)
  case atStart => exact ⟨0, l.length, 0, by omega, rfl, rfl, by simp [sumL], by omega, rfl⟩
  case round =>
    obtain ⟨k, N, q, hk, rfl, rfl, hN, hNb, rfl⟩ := hrel
    have HN := Lib.hid hN
    clear hN
    by_cases hlt : k < l.length
    · by_cases hmo : N ≤ 1048576
      · obtain ⟨b, o, rfl, hb, hcc⟩ := hc (by omega)
        obtain ⟨c1, c2⟩ := hcc k hlt
        obtain ⟨s1, s2⟩ := hs l[k] (List.getElem_mem hlt)
        have HS := Lib.hid (sumL_take l k hlt)
        clear hc hcc
        go_wp2
        go_quiet (fail)
        go_wp2
        refine ⟨⟨k + 1, N + l[k].1.size + l[k].2.size, _, by omega, by go_num, by go_num, ?_, by omega, rfl⟩, by simp [intOf]; omega⟩
        rw [HS.out, HN.out]; omega
      · go_wp2
        go_ret
        exact ⟨N, rfl, fun h => by omega, q, rfl⟩
    · have HE := Lib.hid (show l.take k = l from List.take_of_length_le (by omega))
      go_wp2
      go_ret
      exact ⟨N, rfl, fun _ => by rw [HN.out, HE.out], q, rfl⟩

/-- what is gone through -/
def Small (l : List At) : Prop := l.length ≤ 1000 ∧ l.length + sumL l ≤ 100000

/-- how 'great' ends -/
def GreatEnd (l : List At) (s : ByteArray) (w : World) (e : Ending) (w' : World) : Prop := ∃ g : Bool, e = .returned (.bool g) ∧ (g = false → Small l ∧ s.size ≤ 100000) ∧ ∃ q, w' = w.drewN q

set_option maxHeartbeats 400000 in
theorem great_any (v : Value) (l : List At) (s : ByteArray) (w : World) (h : Attrs w v l) (hs : s.size ≤ 140737488351232) : Calls Tryz.prog 11 #[v, .string s] w fun e w' => GreatEnd l s w e w' := by
  have h' := h
  obtain ⟨p, cap, rfl, hl, -, hc⟩ := h'
  by_cases h1 : l.length ≤ 1000
  · have HA := attrsSize_any _ l w h h1
    go_enter Tryz.func11, Tryz.ntmps11
    go_wp2_with fail
    refine HA.mono ?_
    rintro e w' ⟨N, rfl, hN, q, rfl⟩
    by_cases h2 : N ≤ 100000
    · go_wp2
      go_ret
      exact ⟨_, rfl, fun e => ⟨⟨h1, by have := hN (by omega); omega⟩, by simp at e; omega⟩, q, rfl⟩
    · go_wp2
      go_ret
      exact ⟨_, rfl, fun e => by simp at e, q, rfl⟩
  · go_enter Tryz.func11, Tryz.ntmps11
    go_wp2
    go_ret
    exact ⟨_, rfl, fun e => by simp at e, 0, rfl⟩
end Go.Proofs.YtbhlnemahhndoaaGreatDoor
namespace Go.Proofs.YtbhlnemahhndoaaGreatDoor
open Go.RowKit
set_option maxRecDepth 100000

/-- attributes' cells -/
def atCells (l : List At) : List Value := l.flatMap fun a => [.string a.1, .string a.2]
theorem atCells_length (l : List At) : (atCells l).length = l.length * 2 := by
  induction l with
  | nil => rfl
  | cons a l ih => simp [atCells] at ih ⊢; omega
theorem atCells_append (a b : List At) : atCells (a ++ b) = atCells a ++ atCells b := by simp [atCells]
theorem atCells_take (l : List At) (k : Nat) (h : k < l.length) : atCells (l.take (k + 1)) = atCells (l.take k) ++ [.string l[k].1, .string l[k].2] := by
  rw [List.take_succ_eq_append_getElem h, atCells_append]; rfl
theorem atCells_at : ∀ (l : List At) (i : Nat) (h : i < l.length), (atCells l)[i * 2]? = some (.string l[i].1) ∧ (atCells l)[i * 2 + 1]? = some (.string l[i].2)
  | a :: l, 0, _ => ⟨rfl, rfl⟩
  | a :: l, i + 1, h => by
    have ih := atCells_at l i (by simpa using h)
    have e : atCells (a :: l) = [.string a.1, .string a.2] ++ atCells l := rfl
    have a1 : (i + 1) * 2 = i * 2 + 2 := by omega
    rw [e, a1]
    refine ⟨?_, ?_⟩
    · rw [List.getElem?_append_right (by simp)]; simpa using ih.1
    · rw [List.getElem?_append_right (by simp)]; simpa using ih.2

theorem info48 : (Tryz.prog.info? 84).map (fun i => (i.zero, i.size, i.bytes)) = some (some (.agg #[.string ⟨#[]⟩, .string ⟨#[]⟩]), 2, 32) := by kernel_rfl
theorem add_at (b j : Nat) : (⟨b, 0, none⟩ : Addr).add j = ⟨b, j, none⟩ := by by_cases hj : j = 0 <;> simp [Addr.add, hj]
theorem pair_new (w : World) (u v : Value) (t : TypeId) : ∀ j y, [u, v][j]? = some y → (w.alloc (.cells #[u, v] t)).cell? ((⟨w.heap.size, 0, none⟩ : Addr).add j) = some y := by
  intro j y hj
  rw [add_at, World.cell?_alloc_new]
  simpa using hj
theorem pair_one (a b : ByteArray) : ∀ u ∈ [Value.string a, .string b], u.oneCell' = true := by
  intro u hu
  simp only [List.mem_cons, List.not_mem_nil, or_false] at hu
  rcases hu with rfl | rfl <;> rfl

/-- a row of attributes reads as they do -/
theorem row_attrs {w : World} {base n : Nat} {v : Value} {l : List At} (h : w.ownsRow base 84 2 v n (atCells l)) (hn : n = l.length) (hs : Sized l) (hm : l.length ≤ 9223372036854775807) : Attrs w v l := by
  subst hn
  obtain ⟨h1, ⟨rfl, h0⟩ | ⟨g, cap, cur, rfl, hb, hg, hn, hc, hcs, htk⟩⟩ := h
  · exact ⟨none, 0, by rw [h0], hm, ⟨hs, fun _ => rfl, by omega⟩, fun h => by omega⟩
  · refine ⟨some ⟨g, 0, none⟩, cap, rfl, hm, ⟨hs, (fun h => by cases h), hn⟩, fun _ => ⟨g, 0, rfl, (Array.getElem?_eq_some_iff.1 hg).1, fun i hi => ?_⟩⟩
    obtain ⟨e1, e2⟩ := atCells_at l i hi
    rw [← htk, List.getElem?_take] at e1 e2
    rw [if_pos (by omega)] at e1 e2
    rw [Nat.zero_add]
    simp only [World.cell?, hg]
    exact ⟨by simpa using e1, by simpa using e2⟩

/-- "spare" -/
def spareA : At := (⟨#[115, 112, 97, 114, 101]⟩, ⟨#[]⟩)
/-- a twin: a list with a spare attribute behind -/
structure Twin (w : World) (base : Nat) (v : Value) (l : List At) : Prop where
  row : ∃ T cap, v = .slice (some ⟨T, 0, none⟩) l.length cap ∧ w.ownsRow base 84 2 (.slice (some ⟨T, 0, none⟩) (l.length + 1) cap) (l.length + 1) (atCells (l ++ [spareA]))
  sized : Sized l
  len : l.length ≤ 1000

set_option maxHeartbeats 1000000 in
theorem twinAttrs_any (v : Value) (l : List At) (w : World) (h : Attrs w v l) (hl1 : l.length ≤ 1000) : Calls Tryz.prog 12 #[v] w fun e w' => ∃ t, e = .returned t ∧ Twin w' w.heap.size t l ∧ Below w.heap.size w w' := by
  obtain ⟨p, cap, rfl, hl, ⟨hs, -⟩, hc⟩ := h
  obtain ⟨i0, hi, hz0, hz1, hz2⟩ := info_parts info48
  go_enter Tryz.func12, Tryz.ntmps12
  have hb32 : 32 * (l.length + 1) ≤ 281474976710656 := by omega
  go_wp2_with (at_make; refine wpList_make_own _ rfl _ _ 22 rfl w.heap.size 84 i0 _ 2 Tryz.underlying22 hi hz0 hz1 .i64 .i64 _ (l.length + 1) rfl rfl (by simp) (by rw [hz2]; exact hb32) (by unfold maxLen; omega) (Nat.le_refl _) ?_; intro w0 hown0 hgrow0)
  have hbel0 : Below w.heap.size w w0 := (Below.refl _ _).grown hgrow0 (Nat.le_refl _) (by intro k e; cases e)
  go_loopw [3, 4] (fun t i wr => ∃ k : Nat, k ≤ l.length ∧ i = .int .i64 k ∧ t = .slice (some ⟨w.heap.size, 0, none⟩) k (l.length + 1) ∧ wr.ownsRow w.heap.size 84 2 (.slice (some ⟨w.heap.size, 0, none⟩) k (l.length + 1)) k (atCells (l.take k)) ∧ Below w.heap.size w wr) (fun _ i _ => l.length - (intOf i).toNat)
  case atStart => exact ⟨0, by omega, rfl, rfl, hown0, hbel0⟩
  case round =>
    clear hown0 hbel0 hgrow0
    obtain ⟨k, hk, rfl, rfl, hown, hbel⟩ := hrel
    by_cases hlt : k < l.length
    · obtain ⟨b, o, rfl, hb, hcc⟩ := hc (by omega)
      obtain ⟨c1, c2⟩ := hcc k hlt
      have c1 := (hbel.cell (p := ⟨b, o + k * 2, none⟩) hb).trans c1
      have c2 := (hbel.cell (p := ⟨b, o + k * 2 + 1, none⟩) hb).trans c2
      have HS := Lib.hid (atCells_take l k hlt)
      clear hc hcc
      go_wp2_with (at_builtin; refine wpList_append_fits _ rfl (.tmp 15) (.tmp 20) 22 rfl w.heap.size 84 i0 2 Tryz.underlying22 hi hz1 w.heap.size k (l.length + 1) _ rfl (hown.alloc _) ⟨wr.heap.size, 0, none⟩ 1 1 [.string l[k].1, .string l[k].2] rfl rfl (pair_new _ _ _ _) (pair_one _ _) (by omega) ?_; intro w2 r1 r2)
      refine ⟨⟨k + 1, by omega, by go_num, rfl, by rw [HS.out]; exact r1, ?_⟩, by simp [intOf]; omega⟩
      exact (hbel.alloc hbel.size _).grown r2 (hbel.alloc hbel.size _).size (by intro k e; cases e; exact Nat.le_refl _)
    · have hke : k = l.length := by omega
      subst hke
      rw [List.take_length] at hown
      have HSP : Hid (atCells (l ++ [spareA]) = atCells l ++ [.string ⟨#[115, 112, 97, 114, 101]⟩, .string ⟨#[]⟩]) := Lib.hid (by rw [atCells_append]; rfl)
      go_wp2_with (at_builtin; refine wpList_append_fits _ rfl (.tmp 22) (.tmp 24) 22 rfl w.heap.size 84 i0 2 Tryz.underlying22 hi hz1 w.heap.size l.length (l.length + 1) _ rfl (hown.alloc _) ⟨wr.heap.size, 0, none⟩ 1 1 [.string ⟨#[115, 112, 97, 114, 101]⟩, .string ⟨#[]⟩] rfl rfl (pair_new _ _ _ _) (pair_one _ _) (by omega) ?_; intro w2 r1 r2)
      go_ret
      refine ⟨_, rfl, ⟨⟨_, _, rfl, ?_⟩, hs, hl1⟩, ?_⟩
      · rw [HSP.out]; exact r1
      · exact (hbel.alloc hbel.size _).grown r2 (hbel.alloc hbel.size _).size (by intro k e; cases e; exact Nat.le_refl _)
end Go.Proofs.YtbhlnemahhndoaaGreatDoor
namespace Go.Proofs.YtbhlnemahhndoaaGreatDoor
open Go.RowKit

/-- attributes in memory of their own -/
def OwnA (w : World) (base : Nat) (a : Value) (l : List At) : Prop := w.ownsRow base 84 2 a l.length (atCells l) ∧ Sized l
theorem OwnA.attrs {w : World} {base : Nat} {a : Value} {l : List At} (h : OwnA w base a l) (hl : l.length ≤ 9223372036854775807) : Attrs w a l := row_attrs h.1 rfl h.2 hl
theorem OwnA.below {w w' : World} {base : Nat} {a : Value} {l : List At} (h : OwnA w base a l) (hb : Below w.heap.size w w') : OwnA w' base a l := by
  obtain ⟨⟨h1, h2⟩, h3⟩ := h
  refine ⟨⟨h1, ?_⟩, h3⟩
  rcases h2 with h2 | ⟨g, cap, cur, rfl, hB, hg, r⟩
  · exact .inl h2
  · exact .inr ⟨g, cap, cur, rfl, hB, by rw [hb.block g (Array.getElem?_eq_some_iff.1 hg).1]; exact hg, r⟩

theorem OwnA.form {w : World} {base : Nat} {a : Value} {l : List At} (h : OwnA w base a l) : ∃ p c, a = .slice p l.length c := by
  rcases h.1.2 with ⟨rfl, h0⟩ | ⟨g, cap, cur, rfl, r⟩
  · exact ⟨none, 0, by rw [h0]⟩
  · exact ⟨_, _, rfl⟩
theorem setE_no {l : List At} {n u : ByteArray} (h : (checkL l && nameB n.data.toList && mayL u.data.toList) = false) : setE l n u = 1 ∧ setL l n u = [] := by
  have e : setE l n u = 1 := by unfold setE; rw [if_neg (by rw [h]; decide)]
  exact ⟨e, by unfold setL; rw [e]; rfl⟩
theorem setE_ok {l : List At} {n u : ByteArray} (h : (checkL l && nameB n.data.toList && mayL u.data.toList) = true) (hz : (putL l n u).length ≤ 64) : setE l n u = 0 ∧ setL l n u = putL l n u := by
  have e : setE l n u = 0 := by unfold setE; rw [if_pos h, if_pos hz]
  exact ⟨e, by unfold setL; rw [if_pos e]⟩
theorem setE_full {l : List At} {n u : ByteArray} (h : (checkL l && nameB n.data.toList && mayL u.data.toList) = true) (hz : ¬ (putL l n u).length ≤ 64) : setE l n u = 3 ∧ setL l n u = [] := by
  have e : setE l n u = 3 := by unfold setE; rw [if_pos h, if_neg hz]
  exact ⟨e, by unfold setL; rw [e]; rfl⟩
theorem cutE_ok {l : List At} {n : ByteArray} (h : (checkL l && nameB n.data.toList) = true) : cutE l n = 0 ∧ unsL l n = cutL l n := by
  have e : cutE l n = 0 := by unfold cutE; rw [if_pos h]
  exact ⟨e, by unfold unsL; rw [if_pos e]⟩
theorem cutE_no {l : List At} {n : ByteArray} (h : (checkL l && nameB n.data.toList) = false) : cutE l n = 1 ∧ unsL l n = [] := by
  have e : cutE l n = 1 := by unfold cutE; rw [if_neg (by rw [h]; decide)]
  exact ⟨e, by unfold unsL; rw [e]; rfl⟩
theorem full_length {l : List At} {n u : ByteArray} (h : checkL l = true) (hz : ¬ (putL l n u).length ≤ 64) : l.length = 64 := by
  have h1 := (check_parts h).1
  have h2 := put_length l n u
  omega
theorem three {a b c : Bool} (h : (a && b && c) = true) : a = true ∧ b = true ∧ c = true := by revert h; cases a <;> cases b <;> cases c <;> simp
theorem setL_small {l : List At} {n u : ByteArray} (h : l.length ≤ 1000) : (setL l n u).length ≤ 9223372036854775807 := by
  unfold setL
  split
  · have := put_length l n u; omega
  · simp
theorem unsL_small {l : List At} {n : ByteArray} (h : l.length ≤ 1000) : (unsL l n).length ≤ 9223372036854775807 := by
  unfold unsL
  split
  · have := List.length_filter_le (neP n) l; unfold cutL; omega
  · simp
end Go.Proofs.YtbhlnemahhndoaaGreatDoor
namespace Go.Proofs.YtbhlnemahhndoaaGreatDoor

/-- what stands between the bytes 10, but the last one, if that is empty -/
def linesF : List UInt8 → List UInt8 → List (List UInt8)
  | cur, [] => if cur = [] then [] else [cur]
  | cur, c :: t => if c = 10 then cur :: linesF [] t else linesF (cur ++ [c]) t
def linesL (s : List UInt8) : List (List UInt8) := linesF [] s
theorem lines_end (cur : List UInt8) (t : List UInt8) : linesF cur (10 :: t) = cur :: linesF [] t := by simp [linesF]
theorem lines_more (cur : List UInt8) {c : UInt8} (t : List UInt8) (h : ¬ c = 10) : linesF cur (c :: t) = linesF (cur ++ [c]) t := by simp [linesF, h]
theorem lines_len : ∀ (cur s : List UInt8), (linesF cur s).length ≤ s.length + 1
  | cur, [] => by unfold linesF; split <;> simp
  | cur, c :: t => by
    unfold linesF
    split
    · have := lines_len [] t; simp; omega
    · have := lines_len (cur ++ [c]) t; simp; omega

end Go.Proofs.YtbhlnemahhndoaaGreatDoor
namespace Go.Proofs.YtbhlnemahhndoaaGreatDoor
open Go.RowKit

/-- all that is left of a text is gone through -/
def goL (l : List At) (s out : List UInt8) (asked : List (List UInt8)) : List UInt8 × List (List UInt8) := fillF l s.length s out asked
theorem go_nil (l : List At) (out : List UInt8) (asked : List (List UInt8)) : goL l [] out asked = (out, asked) := rfl
theorem go_plain {l : List At} {c : UInt8} {t out : List UInt8} {asked : List (List UInt8)} (h : askedL (c :: t) = none) : goL l (c :: t) out asked = goL l t (out ++ [c]) asked := fill_plain h
theorem go_name {l : List At} {c : UInt8} {t out nm : List UInt8} {asked : List (List UInt8)} (h : askedL (c :: t) = some nm) :
    goL l (c :: t) out asked = goL l (t.drop (nm.length + 1)) (out ++ valueL l nm) (if nm ∈ asked then asked else asked ++ [nm]) := fill_name h
theorem asked_other {c : UInt8} (t : List UInt8) (h : ¬ c = 123) : askedL (c :: t) = none := by
  simp only [askedL]; rw [if_neg (fun e => h e.1)]
theorem go_text (l : List At) (a : List UInt8) : ∀ (s out : List UInt8) (asked : List (List UInt8)), (∀ c ∈ a, ¬ c = 123) → goL l (a ++ s) out asked = goL l s (out ++ a) asked := by
  induction a with
  | nil => intro s out asked _; rw [List.nil_append, List.append_nil]
  | cons c a ih =>
    intro s out asked h
    rw [List.cons_append, go_plain (asked_other _ (h c (by simp))), ih _ _ _ (fun x hx => h x (by simp [hx])), List.append_assoc]
    rfl
theorem run_to (n t : List UInt8) (c : UInt8) (h : n.all nmB = true) (hc : nmB c = false) : runL (n ++ c :: t) = n.length := by
  refine run_stop _ n.length (by simp) (by rw [List.take_left']; exact h; rfl) ?_
  rw [List.getElem_append_right (Nat.le_refl _)]; simpa using hc
theorem name_all {l : List UInt8} (h : nameB l = true) : l.all nmB = true := by
  unfold nameB at h
  simp only [Bool.and_eq_true, decide_eq_true_eq] at h
  exact h.2
theorem asked_name (n s : List UInt8) (h : nameB n = true) : askedL (123 :: (n ++ 125 :: s)) = some n := by
  have hr := run_to n s 125 (name_all h) (by decide)
  have ht : (n ++ 125 :: s).take n.length = n := List.take_left' rfl
  simp only [askedL]
  rw [hr, ht, if_pos (by simp [h])]
theorem go_asked (l : List At) (n s out : List UInt8) (asked : List (List UInt8)) (h : nameB n = true) :
    goL l (123 :: (n ++ 125 :: s)) out asked = goL l s (out ++ valueL l n) (if n ∈ asked then asked else asked ++ [n]) := by
  rw [go_name (asked_name n s h)]
  congr 1
  have e : n ++ 125 :: s = (n ++ [125]) ++ s := by simp
  rw [e, List.drop_left' (by simp)]
/-- a name in braces, twice, with texts around -/
theorem fill_twice (l : List At) (a n : List UInt8) (ha : ∀ c ∈ a, ¬ c = 123) (h : nameB n = true) :
    fillL l (a ++ 123 :: (n ++ 125 :: (a ++ 123 :: (n ++ 125 :: [])))) = (a ++ valueL l n ++ a ++ valueL l n, [n]) := by
  show goL l _ [] [] = _
  rw [go_text l a _ _ _ ha, go_asked l n _ _ _ h, go_text l a _ _ _ ha, go_asked l n _ _ _ h, go_nil]
  simp
end Go.Proofs.YtbhlnemahhndoaaGreatDoor
namespace Go.Proofs.YtbhlnemahhndoaaGreatDoor
open Go.RowKit

/-! ### where a byte stands first -/
theorem index_at (c : UInt8) (l : List UInt8) : (c ∉ l ∧ Lib.indexByte l c = -1) ∨ ∃ a b : List UInt8, l = a ++ c :: b ∧ c ∉ a ∧ Lib.indexByte l c = (a.length : Int) := by
  induction l with
  | nil => left; simp [Lib.indexByte]
  | cons x l ih =>
    by_cases h : x = c
    · right; exact ⟨[], l, by simp [h], by simp, by simp [Lib.indexByte, h]⟩
    · rcases ih with ⟨h1, h2⟩ | ⟨a, b, h1, h2, h3⟩
      · left
        refine ⟨by simp [h1]; exact fun e => h e.symm, ?_⟩
        simp [Lib.indexByte, h, h2]
      · right
        refine ⟨x :: a, b, by simp [h1], by simp [h2]; exact fun e => h e.symm, ?_⟩
        have hne : ¬ ((a.length : Int) = -1) := by omega
        simp [Lib.indexByte, h, h3, hne]
theorem first_one {c : UInt8} : ∀ {a b p q : List UInt8}, a ++ c :: b = p ++ c :: q → c ∉ a → c ∉ p → a = p ∧ b = q
  | [], b, [], q, h, _, _ => ⟨rfl, by simpa using h⟩
  | [], b, y :: p, q, h, _, hp => by simp at h; exact absurd (by simp [h.1]) hp
  | x :: a, b, [], q, h, ha, _ => by simp at h; exact absurd (by simp [h.1]) ha
  | x :: a, b, y :: p, q, h, ha, hp => by
    simp only [List.cons_append, List.cons.injEq] at h
    obtain ⟨e1, e2⟩ := first_one h.2 (fun hm => ha (by simp [hm])) (fun hm => hp (by simp [hm]))
    exact ⟨by rw [h.1, e1], e2⟩

/-! ### a condition's parts -/
theorem nm_split (l : List UInt8) : l.all nmB = true ∨ ∃ p y t, l = p ++ y :: t ∧ p.all nmB = true ∧ nmB y = false := by
  induction l with
  | nil => left; rfl
  | cons x l ih =>
    cases h : nmB x with
    | false => right; exact ⟨[], x, l, rfl, rfl, h⟩
    | true =>
      rcases ih with h1 | ⟨p, y, t, h1, h2, h3⟩
      · left; simp [h, h1]
      · right; exact ⟨x :: p, y, t, by rw [h1]; rfl, by rw [List.all_cons, h, h2]; rfl, h3⟩
theorem askN_all (l : List At) (no : Bool) {c : List UInt8} (h : c.all nmB = true) : askN l no c = if nameB c = false then none else some (c, (getL l (bT c)).isSome != no) := by
  unfold askN
  rw [run_end c h, List.take_length, List.drop_length]
  rfl
theorem askN_at (l : List At) (no : Bool) {p t : List UInt8} {y : UInt8} (h : p.all nmB = true) (hy : nmB y = false) : askN l no (p ++ y :: t) = if nameB p = false then none else restA (getL l (bT p)) p no (y :: t) := by
  unfold askN
  rw [run_to p t y h hy, List.take_left, List.drop_left]
theorem name_mid (p t : List UInt8) {y : UInt8} (hx : nmB y = false) : nameB (p ++ y :: t) = false := by
  cases e : nameB (p ++ y :: t) with
  | false => rfl
  | true => have := List.all_eq_true.1 (name_all e) y (by simp); rw [hx] at this; cases this
theorem ask_not (l : List At) (c : List UInt8) : askL l (33 :: c) = if nameB c = true then some (c, !(getL l (bT c)).isSome) else none := by
  show askN l true c = _
  rcases nm_split c with h | ⟨p, y, t, rfl, h, hy⟩
  · rw [askN_all l true h]
    cases nameB c <;> cases (getL l (bT c)).isSome <;> rfl
  · rw [askN_at l true h hy, name_mid p t hy, rest_no]
    simp
theorem askL_plain (l : List At) {c : List UInt8} (h : c.head? ≠ some 33) (h0 : c ≠ []) : askL l c = askN l false c := by
  cases c with
  | nil => exact absurd rfl h0
  | cons x c =>
    have : ¬ x = 33 := fun e => h (by rw [e]; rfl)
    show (if x = 33 then _ else _) = _
    rw [if_neg this]
theorem rest_bad (o : Option ByteArray) (nm : List UInt8) {y : UInt8} {t : List UInt8} (h : ¬ y = 61) (h2 : ¬ (y = 33 ∧ t.head? = some 61)) : restA o nm false (y :: t) = none := by
  cases t with
  | nil => exact rest_one o nm h
  | cons z t => exact rest_other o nm t h (fun e => h2 ⟨e.1, by rw [e.2]; rfl⟩)
theorem ask_is (l : List At) {c : List UInt8} (h : c.head? ≠ some 33) (h6 : (61 : UInt8) ∉ c) : askL l c = if nameB c = true then some (c, (getL l (bT c)).isSome) else none := by
  by_cases h0 : c = []
  · subst h0; rfl
  rw [askL_plain l h h0]
  rcases nm_split c with hc | ⟨p, y, t, rfl, hc, hy⟩
  · rw [askN_all l false hc]
    cases nameB c <;> cases (getL l (bT c)).isSome <;> rfl
  · rw [askN_at l false hc hy, name_mid p t hy, rest_bad]
    · simp
    · intro e; exact h6 (by simp [e])
    · rintro ⟨_, e⟩
      cases t with
      | nil => simp at e
      | cons z t => simp at e; exact h6 (by simp [e])
theorem nm61 : nmB 61 = false := by decide
theorem nm33 : nmB 33 = false := by decide
theorem nm125 : nmB 125 = false := by decide
theorem ask_ne (l : List At) {a b : List UInt8} (h : (a ++ [33]).head? ≠ some 33) (h6 : (61 : UInt8) ∉ a) : askL l (a ++ 33 :: 61 :: b) = if nameB a = true then some (a, !decide (getL l (bT a) = some (bT b))) else none := by
  have hh : (a ++ 33 :: 61 :: b).head? ≠ some 33 := by
    cases a with
    | nil => exact fun _ => h rfl
    | cons x a => exact fun e => h e
  rw [askL_plain l hh (by simp)]
  rcases nm_split a with hc | ⟨p, y, t, rfl, hc, hy⟩
  · rw [askN_at l false hc nm33, rest_isnt _ _ b (by decide) ⟨rfl, rfl⟩]
    cases nameB a <;> rfl
  · have e : p ++ y :: t ++ 33 :: 61 :: b = p ++ y :: (t ++ 33 :: 61 :: b) := by simp
    rw [e, askN_at l false hc hy, name_mid p t hy, rest_bad]
    · simp
    · intro e; exact h6 (by simp [e])
    · rintro ⟨_, e⟩
      cases t with
      | nil => simp at e
      | cons z t => simp at e; exact h6 (by simp [e])
theorem ask_eq (l : List At) {a b : List UInt8} (h : (a ++ 61 :: b).head? ≠ some 33) (h6 : (61 : UInt8) ∉ a) (h3 : a.getLast? ≠ some 33) : askL l (a ++ 61 :: b) = if nameB a = true then some (a, decide (getL l (bT a) = some (bT b))) else none := by
  rw [askL_plain l h (by simp)]
  rcases nm_split a with hc | ⟨p, y, t, rfl, hc, hy⟩
  · rw [askN_at l false hc nm61, rest_is _ _ b rfl]
    cases nameB a <;> rfl
  · have e : p ++ y :: t ++ 61 :: b = p ++ y :: (t ++ 61 :: b) := by simp
    rw [e, askN_at l false hc hy, name_mid p t hy, rest_bad]
    · simp
    · intro e; exact h6 (by simp [e])
    · rintro ⟨e1, e2⟩
      cases t with
      | nil => exact h3 (by simp [e1])
      | cons z t => simp at e2; exact h6 (by simp [e2])

/-! ### where a name is asked for -/
theorem asked_some {t nm : List UInt8} (h : askedL (123 :: t) = some nm) : nameB nm = true ∧ ∃ r, t = nm ++ 125 :: r := by
  simp only [askedL] at h
  split at h
  · rename_i hc
    obtain ⟨_, h2, h3⟩ := hc
    injection h with h
    refine ⟨by rw [← h]; exact h3, ?_⟩
    obtain ⟨hlt, he⟩ := List.getElem?_eq_some_iff.1 h2
    refine ⟨t.drop (runL t + 1), ?_⟩
    rw [← h, ← he, ← List.drop_eq_getElem_cons hlt, List.take_append_drop]
  · cases h
theorem name_size {l : List UInt8} (h : nameB l = true) : 1 ≤ l.length ∧ l.length ≤ 60 := by
  unfold nameB at h
  simp only [Bool.and_eq_true, decide_eq_true_eq] at h
  exact ⟨h.1.1.1, h.1.1.2⟩
theorem asked_no {t : List UInt8} (h : (125 : UInt8) ∉ t.take 61) : askedL (123 :: t) = none := by
  cases e : askedL (123 :: t) with
  | none => rfl
  | some nm =>
    obtain ⟨h1, r, rfl⟩ := asked_some e
    have := (name_size h1).2
    exact absurd (by rw [List.take_append]; simp; right; rw [show 61 - nm.length = (60 - nm.length) + 1 by omega]; simp) h
theorem asked_cut {t p q : List UInt8} (h : t.take 61 = p ++ 125 :: q) (hp : (125 : UInt8) ∉ p) : askedL (123 :: t) = if nameB p = true then some p else none := by
  have ht : t = p ++ 125 :: (q ++ t.drop 61) := by
    have := List.take_append_drop 61 t
    rw [h] at this
    simpa using this.symm
  by_cases hn : nameB p = true
  · rw [if_pos hn, ht]; exact asked_name p _ hn
  · rw [if_neg hn]
    cases e : askedL (123 :: t) with
    | none => rfl
    | some nm =>
      obtain ⟨h1, r, h2⟩ := asked_some e
      have h3 : (125 : UInt8) ∉ nm := fun hm => by have := List.all_eq_true.1 (name_all h1) 125 hm; rw [nm125] at this; cases this
      obtain ⟨e1, _⟩ := first_one (ht.symm.trans h2) hp h3
      rw [e1] at hn
      exact absurd h1 hn

/-- a text, parted at the first name that it asks for -/
def nextL : List UInt8 → Option (List UInt8 × List UInt8 × List UInt8)
  | [] => none
  | c :: t => match askedL (c :: t) with
    | some nm => some ([], nm, t.drop (nm.length + 1))
    | none => (nextL t).map fun x => (c :: x.1, x.2)
def nextK (s : List UInt8) (k : Nat) : Option (List UInt8 × List UInt8 × List UInt8) := (nextL (s.drop k)).map fun x => (s.take k ++ x.1, x.2)
theorem nextK_zero (s : List UInt8) : nextK s 0 = nextL s := by unfold nextK; simp
theorem nextK_end (s : List UInt8) (k : Nat) (h : s.length ≤ k) : nextK s k = none := by unfold nextK; rw [List.drop_of_length_le h]; rfl
theorem nextK_none (s : List UInt8) (k : Nat) (h : k < s.length) (h1 : askedL (s.drop k) = none) : nextK s k = nextK s (k + 1) := by
  unfold nextK
  rw [List.drop_eq_getElem_cons h] at h1 ⊢
  rw [nextL, h1]
  have ht := List.take_succ_eq_append_getElem h
  cases nextL (s.drop (k + 1)) with
  | none => rfl
  | some x =>
    show some (s.take k ++ (s[k] :: x.1), x.2) = some (s.take (k + 1) ++ x.1, x.2)
    rw [ht, List.append_assoc]; rfl
theorem nextK_some (s : List UInt8) (k : Nat) (h : k < s.length) {nm : List UInt8} (h1 : askedL (s.drop k) = some nm) : nextK s k = some (s.take k, nm, (s.drop (k + 1)).drop (nm.length + 1)) := by
  unfold nextK
  rw [List.drop_eq_getElem_cons h] at h1 ⊢
  rw [nextL, h1]
  simp
theorem go_none (l : List At) : ∀ (s out : List UInt8) (asked : List (List UInt8)), nextL s = none → goL l s out asked = (out ++ s, asked)
  | [], out, asked, _ => by rw [go_nil]; simp
  | c :: t, out, asked, h => by
    rw [nextL] at h
    cases e : askedL (c :: t) with
    | some nm => rw [e] at h; cases h
    | none =>
      rw [e] at h
      rw [go_plain e, go_none l t _ _ (by simpa using h)]
      simp
theorem go_some (l : List At) : ∀ (s out : List UInt8) (asked : List (List UInt8)) {a nm b : List UInt8}, nextL s = some (a, nm, b) → goL l s out asked = goL l b (out ++ a ++ valueL l nm) (if nm ∈ asked then asked else asked ++ [nm])
  | [], out, asked, a, nm, b, h => by cases h
  | c :: t, out, asked, a, nm, b, h => by
    rw [nextL] at h
    cases e : askedL (c :: t) with
    | some nm' =>
      rw [e] at h
      injection h with h
      injection h with h1 h
      injection h with h2 h3
      rw [go_name e, ← h1, ← h2, ← h3]
      simp
    | none =>
      rw [e] at h
      cases e2 : nextL t with
      | none => rw [e2] at h; cases h
      | some x =>
        rw [e2] at h
        obtain ⟨a', nm', b'⟩ := x
        simp only [Option.map_some, Option.some.injEq, Prod.mk.injEq] at h
        obtain ⟨rfl, rfl, rfl⟩ := h
        rw [go_plain e, go_some l t _ _ e2]
        simp
theorem next_parts : ∀ {s a nm b : List UInt8}, nextL s = some (a, nm, b) → nameB nm = true ∧ s.length = a.length + nm.length + 2 + b.length
  | [], a, nm, b, h => by cases h
  | c :: t, a, nm, b, h => by
    rw [nextL] at h
    cases e : askedL (c :: t) with
    | some nm' =>
      rw [e] at h
      injection h with h
      injection h with h1 h
      injection h with h2 h3
      have hc : c = 123 := by
        by_cases hc : c = 123
        · exact hc
        · rw [asked_other t hc] at e; cases e
      subst hc
      obtain ⟨n1, r, rfl⟩ := asked_some e
      subst h2
      refine ⟨n1, ?_⟩
      rw [← h1, ← h3]
      simp
      omega
    | none =>
      rw [e] at h
      cases e2 : nextL t with
      | none => rw [e2] at h; cases h
      | some x =>
        rw [e2] at h
        obtain ⟨a', nm', b'⟩ := x
        simp only [Option.map_some, Option.some.injEq, Prod.mk.injEq] at h
        obtain ⟨rfl, rfl, rfl⟩ := h
        obtain ⟨n1, n2⟩ := next_parts e2
        exact ⟨n1, by simp; omega⟩
end Go.Proofs.YtbhlnemahhndoaaGreatDoor
namespace Go.Proofs.YtbhlnemahhndoaaGreatDoor
open Go.RowKit
set_option maxRecDepth 100000

/-- named's function: is it of that name? -/
theorem named1_c (x y n : ByteArray) (B : Nat) (w : World) (hB : w.cell? ⟨B, 0, none⟩ = some (.string n)) (hlt : B < w.heap.size) :
    Calls Tryz.prog 232 #[.agg #[.string x, .string y], .pointer (some ⟨B, 0, none⟩)] w fun e w' => e = .returned (.bool (isP n (x, y))) ∧ Below w.heap.size w w' := by
  have hB2 : (w.alloc (.cells #[.string x, .string y] 84)).cell? ⟨B, 0, none⟩ = some (.string n) := ((laidNew w (.cells #[.string x, .string y] 84)).cell (p := ⟨B, 0, none⟩) hlt).trans hB
  go_enter Tryz.func232, Tryz.ntmps232
  go_wp2
  go_ret
  exact ⟨rfl, laidNew _ _⟩
/-- Set's function: is it not ahead of that name? -/
theorem set1_c (x y n : ByteArray) (B : Nat) (w : World) (hB : w.cell? ⟨B, 0, none⟩ = some (.string n)) (hlt : B < w.heap.size) :
    Calls Tryz.prog 194 #[.agg #[.string x, .string y], .pointer (some ⟨B, 0, none⟩)] w fun e w' => e = .returned (.bool (geP n (x, y))) ∧ Below w.heap.size w w' := by
  have hB2 : (w.alloc (.cells #[.string x, .string y] 84)).cell? ⟨B, 0, none⟩ = some (.string n) := ((laidNew w (.cells #[.string x, .string y] 84)).cell (p := ⟨B, 0, none⟩) hlt).trans hB
  go_enter Tryz.func194, Tryz.ntmps194
  go_wp2
  go_ret
  exact ⟨rfl, laidNew _ _⟩

theorem ret_at {p : Nat} {k : Nat} (h : p = k) : Ending.returned (.int .i64 (k : Int)) = .returned (.int .i64 ((p : Nat) : Int)) := by rw [h]

set_option maxHeartbeats 1000000 in
theorem find_named (v : Value) (l : List At) (n : ByteArray) (B : Nat) (w : World) (h : Attrs w v l) (hB : w.cell? ⟨B, 0, none⟩ = some (.string n)) (hlt : B < w.heap.size) :
    Calls Tryz.prog 193 #[v, .func (Fn.func 232) #[] #[.pointer (some ⟨B, 0, none⟩)]] w fun e w' => e = .returned (.int .i64 ((l.findIdx (isP n) : Nat) : Int)) ∧ Below w.heap.size w w' := by
  obtain ⟨p, cap, rfl, hl, -, hc⟩ := h
  go_enter Tryz.func193, Tryz.ntmps193
  go_wp2
  go_loopw [9] (fun i wr => ∃ k : Nat, k ≤ l.length ∧ i = .int .i64 k ∧ (∀ j (hj : j < k) (hl : j < l.length), isP n l[j] = false) ∧ Below w.heap.size w wr) (fun i _ => l.length - (intOf i).toNat)
  case atStart => exact ⟨0, by omega, rfl, fun j hj => by omega, Below.refl _ _⟩
  case round =>
    obtain ⟨k, hk, rfl, ha, hbel⟩ := hrel
    have HA := Lib.hid ha
    clear ha
    by_cases hlk : k < l.length
    · obtain ⟨b, o, rfl, hb, hcc⟩ := hc (by omega)
      obtain ⟨c1, c2⟩ := hcc k hlk
      have c1 := (hbel.cell (p := ⟨b, o + k * 2, none⟩) hb).trans c1
      have c2 := (hbel.cell (p := ⟨b, o + k * 2 + 1, none⟩) hb).trans c2
      have hW := hbel.size
      have hC := fun w2 (h2 : Below wr.heap.size wr w2) => named1_c l[k].1 l[k].2 n B w2 ((h2.cell (p := ⟨B, 0, none⟩) (Nat.lt_of_lt_of_le hlt hW)).trans ((hbel.cell (p := ⟨B, 0, none⟩) hlt).trans hB)) (Nat.lt_of_lt_of_le hlt (Nat.le_trans hW h2.size))
      clear hcc hc hB
      cases hp : isP n (l[k].1, l[k].2) with
      | true =>
        have HF : Hid (l.findIdx (isP n) = k) := Lib.hid (idx_hit _ l k hlk (fun j hj => HA.out j hj (by omega)) hp)
        rw [hp] at hC
        clear hp
        go_wp2_with (go_at_call 232; refine (hC _ (laidNew _ _)).mono ?_; rintro e w2 ⟨rfl, hb2⟩)
        go_ret
        exact ⟨ret_at HF.out, behind (behind hbel (laidNew _ _)) hb2⟩
      | false =>
        have HN : Hid (∀ j (hj : j < k + 1) (hl : j < l.length), isP n l[j] = false) := Lib.hid (fun j hj hl => by
          by_cases e : j = k
          · subst e; exact hp
          · exact HA.out j (by omega) hl)
        rw [hp] at hC
        clear hp
        go_wp2_with (go_at_call 232; refine (hC _ (laidNew _ _)).mono ?_; rintro e w2 ⟨rfl, hb2⟩)
        go_roundw
        case rel => exact ⟨k + 1, by omega, by go_num, HN.out, behind (behind hbel (laidNew _ _)) hb2⟩
        case measure => simp [intOf]; omega
    · have HE : Hid (l.findIdx (isP n) = l.length) := Lib.hid (idx_end _ l (fun j hj => HA.out j (by omega) hj))
      go_wp2
      go_ret
      exact ⟨ret_at HE.out, hbel⟩

set_option maxHeartbeats 1000000 in
theorem find_set (v : Value) (l : List At) (n : ByteArray) (B : Nat) (w : World) (h : Attrs w v l) (hB : w.cell? ⟨B, 0, none⟩ = some (.string n)) (hlt : B < w.heap.size) :
    Calls Tryz.prog 193 #[v, .func (Fn.func 194) #[] #[.pointer (some ⟨B, 0, none⟩)]] w fun e w' => e = .returned (.int .i64 ((l.findIdx (geP n) : Nat) : Int)) ∧ Below w.heap.size w w' := by
  obtain ⟨p, cap, rfl, hl, -, hc⟩ := h
  go_enter Tryz.func193, Tryz.ntmps193
  go_wp2
  go_loopw [9] (fun i wr => ∃ k : Nat, k ≤ l.length ∧ i = .int .i64 k ∧ (∀ j (hj : j < k) (hl : j < l.length), geP n l[j] = false) ∧ Below w.heap.size w wr) (fun i _ => l.length - (intOf i).toNat)
  case atStart => exact ⟨0, by omega, rfl, fun j hj => by omega, Below.refl _ _⟩
  case round =>
    obtain ⟨k, hk, rfl, ha, hbel⟩ := hrel
    have HA := Lib.hid ha
    clear ha
    by_cases hlk : k < l.length
    · obtain ⟨b, o, rfl, hb, hcc⟩ := hc (by omega)
      obtain ⟨c1, c2⟩ := hcc k hlk
      have c1 := (hbel.cell (p := ⟨b, o + k * 2, none⟩) hb).trans c1
      have c2 := (hbel.cell (p := ⟨b, o + k * 2 + 1, none⟩) hb).trans c2
      have hW := hbel.size
      have hC := fun w2 (h2 : Below wr.heap.size wr w2) => set1_c l[k].1 l[k].2 n B w2 ((h2.cell (p := ⟨B, 0, none⟩) (Nat.lt_of_lt_of_le hlt hW)).trans ((hbel.cell (p := ⟨B, 0, none⟩) hlt).trans hB)) (Nat.lt_of_lt_of_le hlt (Nat.le_trans hW h2.size))
      clear hcc hc hB
      cases hp : geP n (l[k].1, l[k].2) with
      | true =>
        have HF : Hid (l.findIdx (geP n) = k) := Lib.hid (idx_hit _ l k hlk (fun j hj => HA.out j hj (by omega)) hp)
        rw [hp] at hC
        clear hp
        go_wp2_with (go_at_call 194; refine (hC _ (laidNew _ _)).mono ?_; rintro e w2 ⟨rfl, hb2⟩)
        go_ret
        exact ⟨ret_at HF.out, behind (behind hbel (laidNew _ _)) hb2⟩
      | false =>
        have HN : Hid (∀ j (hj : j < k + 1) (hl : j < l.length), geP n l[j] = false) := Lib.hid (fun j hj hl => by
          by_cases e : j = k
          · subst e; exact hp
          · exact HA.out j (by omega) hl)
        rw [hp] at hC
        clear hp
        go_wp2_with (go_at_call 194; refine (hC _ (laidNew _ _)).mono ?_; rintro e w2 ⟨rfl, hb2⟩)
        go_roundw
        case rel => exact ⟨k + 1, by omega, by go_num, HN.out, behind (behind hbel (laidNew _ _)) hb2⟩
        case measure => simp [intOf]; omega
    · have HE : Hid (l.findIdx (geP n) = l.length) := Lib.hid (idx_end _ l (fun j hj => HA.out j (by omega) hj))
      go_wp2
      go_ret
      exact ⟨ret_at HE.out, hbel⟩
end Go.Proofs.YtbhlnemahhndoaaGreatDoor
namespace Go.Proofs.YtbhlnemahhndoaaGreatDoor
open Go.RowKit
set_option maxRecDepth 100000

theorem named_c (n : ByteArray) (w : World) : Calls Tryz.prog 196 #[.string n] w fun e w' => e = .returned (.func (Fn.func 232) #[] #[.pointer (some ⟨w.heap.size, 0, none⟩)]) ∧ w' = w.alloc (.cells #[.string n] 9) := by
  go_enter Tryz.func196, Tryz.ntmps196
  go_wp2
  go_ret
  exact ⟨rfl, rfl⟩

set_option maxHeartbeats 1000000 in
theorem get_any (v : Value) (l : List At) (n : ByteArray) (w : World) (h : Attrs w v l) : Calls Tryz.prog 219 #[v, .string n] w fun e w' => e = .returned (getV (getL l n)) ∧ Below w.heap.size w w' := by
  have hF := find_named v l n w.heap.size (w.alloc (.cells #[.string n] 9)) (h.below (laidNew _ _)) (by rw [World.cell?_alloc_new]; rfl) (by simp)
  obtain ⟨g1, g2⟩ := get_idx l n
  have hle := idx_le (isP n) l
  obtain ⟨p, cap, rfl, hl, -, hc⟩ := h
  by_cases hlt : l.findIdx (isP n) < l.length
  · obtain ⟨k, hlt, hk, hg⟩ : ∃ (k : Nat) (h : k < l.length), l.findIdx (isP n) = k ∧ getL l n = some l[k].2 := ⟨_, hlt, rfl, g2 hlt⟩
    have HG := Lib.hid hg
    rw [hk] at hF
    obtain ⟨b, o, rfl, hb, hcc⟩ := hc (by omega)
    obtain ⟨-, c2⟩ := hcc k hlt
    have hne : ((k : Int) == (l.length : Int)) = false := by simp; omega
    clear g1 g2 hk hle hc hcc hg
    go_enter Tryz.func219, Tryz.ntmps219
    go_wp2_with (first | (go_at_call 196; refine (named_c _ _).mono ?_; rintro e w2 ⟨rfl, rfl⟩) | (go_at_call 193; refine hF.mono ?_; rintro e w3 ⟨rfl, hb3⟩; have c3 := ((behind (laidNew w _) hb3).cell (p := ⟨b, o + k * 2 + 1, none⟩) hb).trans c2))
    go_ret2
    exact ⟨ret_v (get_some HG.out), behind (laidNew _ _) hb3⟩
  · have HG : Hid (getL l n = none) := Lib.hid (g1 (by omega))
    have hk2 : l.findIdx (isP n) = l.length := by omega
    rw [hk2] at hF
    clear g1 g2 hle hc hlt hk2
    go_enter Tryz.func219, Tryz.ntmps219
    go_wp2_with (first | (go_at_call 196; refine (named_c _ _).mono ?_; rintro e w2 ⟨rfl, rfl⟩) | (go_at_call 193; refine hF.mono ?_; rintro e w3 ⟨rfl, hb3⟩))
    go_ret2
    exact ⟨ret_v (get_none HG.out), behind (laidNew _ _) hb3⟩
end Go.Proofs.YtbhlnemahhndoaaGreatDoor
namespace Go.Proofs.YtbhlnemahhndoaaGreatDoor
open Go.RowKit

def strV (x : List UInt8) : Value := .string ⟨x.toArray⟩
theorem bT_inj {a b : List UInt8} (h : bT a = bT b) : a = b := by have := congrArg (fun t : ByteArray => t.data.toList) h; simpa [bT_list] using this
/-- a slice of texts that reads as l -/
def Texts (w : World) (v : Value) (l : List (List UInt8)) : Prop :=
  ∃ (p : Option Addr) (cap : Nat), v = .slice p l.length cap ∧ l.length ≤ 9223372036854775807 ∧ (0 < l.length → ∃ A, p = some ⟨A, 0, none⟩ ∧ ∀ j (h : j < l.length), w.cell? ⟨A, j, none⟩ = some (strV l[j]))

theorem take_eq_all (la lb : List (List UInt8)) (h : la.length = lb.length) (k : Nat) (hk : la.length ≤ k) (e : la.take k = lb.take k) : la = lb := by
  rwa [List.take_of_length_le hk, List.take_of_length_le (by omega)] at e
theorem take_next (la lb : List (List UInt8)) (k : Nat) (h1 : k < la.length) (h2 : k < lb.length) (e : la.take k = lb.take k) (h : la[k] = lb[k]) : la.take (k + 1) = lb.take (k + 1) := by
  rw [List.take_succ_eq_append_getElem h1, List.take_succ_eq_append_getElem h2, e, h]
theorem ne_at (la lb : List (List UInt8)) (k : Nat) (h1 : k < la.length) (h2 : k < lb.length) (h : la[k] ≠ lb[k]) : la ≠ lb := by
  intro e; subst e; exact h rfl

set_option maxHeartbeats 400000 in
theorem sameTexts_any (va vb : Value) (la lb : List (List UInt8)) (w : World) (ha : Texts w va la) (hb : Texts w vb lb) :
    Calls Tryz.prog 15 #[va, vb] w fun e w' => e = .returned (.bool (decide (la = lb))) ∧ ∃ q, w' = w.drewN q := by
  obtain ⟨pa, ca, rfl, hla, hca⟩ := ha
  obtain ⟨pb, cb, rfl, hlb, hcb⟩ := hb
  by_cases hlen : la.length = lb.length
  · have hne : ((la.length : Int) != (lb.length : Int)) = false := by simp [hlen]
    have HL := Lib.hid hlen
    have hle1 : la.length ≤ lb.length := by omega
    have hle2 : lb.length ≤ la.length := by omega
    clear hlen
    go_enter Tryz.func15, Tryz.ntmps15
    go_wp2
    go_loopw [5] (fun i wr => ∃ k q : Nat, k ≤ la.length ∧ i = .int .i64 k ∧ la.take k = lb.take k ∧ wr = w.drewN q) (fun i _ => la.length - (intOf i).toNat)
    case atStart => exact ⟨0, 0, by omega, rfl, by simp, rfl⟩
    case round =>
      obtain ⟨k, q, hk, rfl, he, rfl⟩ := hrel
      have HE := Lib.hid he
      clear he
      by_cases hlt : k < la.length
      · have hlt2 : k < lb.length := by omega
        obtain ⟨A, rfl, hA⟩ := hca (by omega)
        obtain ⟨B, rfl, hB⟩ := hcb (by omega)
        have c1 := hA k hlt
        have c2 := hB k hlt2
        unfold strV at c1 c2
        clear hA hB hca hcb
        go_wp2
        go_quiet (fail)
        go_wp2
        · have h : (!la[k] == lb[k]) = true := by assumption
          go_ret
          have hne' : la[k] ≠ lb[k] := by simpa using h
          exact ⟨ret_bool (decide_eq_false (ne_at la lb k hlt hlt2 hne')).symm, _, World.drewN_drewN _ _ _⟩
        · have h : (!la[k] == lb[k]) = false := by assumption
          go_roundw
          case rel => exact ⟨k + 1, _, by omega, by go_num, take_next la lb k hlt hlt2 HE.out (by simpa using h), rfl⟩
          case measure => simp [intOf]; omega
      · go_wp2
        go_ret
        exact ⟨ret_bool (decide_eq_true (take_eq_all la lb HL.out k (by omega) HE.out)).symm, _, rfl⟩
  · have hne : ((la.length : Int) != (lb.length : Int)) = true := by simp; omega
    have hf : ¬ la = lb := fun e => hlen (by rw [e])
    have HF := Lib.hid (decide_eq_false hf)
    clear hf hlen
    go_enter Tryz.func15, Tryz.ntmps15
    go_wp2
    go_ret
    exact ⟨ret_bool HF.out.symm, 0, rfl⟩

theorem texts_owned {w : World} {B n : Nat} {v : Value} {l : List (List UInt8)} (h : w.ownsRow B 9 1 v n (l.map strV)) (hn : n = l.length) (hl : l.length ≤ 9223372036854775807) : Texts w v l := by
  subst hn
  obtain ⟨_, ⟨rfl, h0⟩ | ⟨g, cap, cur, rfl, hB, hg, hn, hm, hs, ht⟩⟩ := h
  · exact ⟨none, 0, by rw [h0], hl, fun h => by omega⟩
  · have hown : w.ownsRow B 9 1 (.slice (some ⟨g, 0, none⟩) l.length cap) l.length (l.map strV) := ⟨by simp, .inr ⟨g, cap, cur, rfl, hB, hg, hn, hm, hs, ht⟩⟩
    refine ⟨some ⟨g, 0, none⟩, cap, rfl, hl, fun _ => ⟨g, rfl, fun j hj => ?_⟩⟩
    rw [hown.cellAt j (by omega)]
    simp [hj]
end Go.Proofs.YtbhlnemahhndoaaGreatDoor
namespace Go.Proofs.YtbhlnemahhndoaaGreatDoor

/-! lines, one behind the other -/
theorem lines_app : ∀ (s cur t : List UInt8), linesF cur (s ++ 10 :: t) = linesF cur (s ++ [10]) ++ linesF [] t
  | [], cur, t => by simp [linesF]
  | c :: s, cur, t => by
    by_cases h : c = 10
    · subst h
      rw [List.cons_append, List.cons_append, lines_end, lines_end, lines_app s [] t]; rfl
    · rw [List.cons_append, List.cons_append, lines_more _ _ h, lines_more _ _ h, lines_app s _ t]
theorem lines_close : ∀ (s cur : List UInt8), (s = [] → cur ≠ []) → s.getLast? ≠ some 10 → linesF cur (s ++ [10]) = linesF cur s
  | [], cur, h, _ => by simp [linesF, h rfl]
  | c :: s, cur, _, h2 => by
    by_cases h : c = 10
    · subst h
      rw [List.cons_append, lines_end, lines_end]
      cases s with
      | nil => exact absurd rfl h2
      | cons d s => rw [lines_close (d :: s) [] (fun e => by cases e) (by simpa [List.getLast?_cons_cons] using h2)]
    · rw [List.cons_append, lines_more _ _ h, lines_more _ _ h]
      refine lines_close s _ (fun _ => by simp) ?_
      cases s with
      | nil => simp
      | cons d s => simpa [List.getLast?_cons_cons] using h2
/-- a text that ends in a line's end, and another one -/
theorem lines_both {s t : List UInt8} (h : s.getLast? = some 10) : linesL (s ++ t) = linesL s ++ linesL t := by
  obtain ⟨r, rfl⟩ := List.getLast?_eq_some_iff.1 h
  unfold linesL
  rw [List.append_assoc, List.singleton_append, lines_app]
theorem lines_apart {s t : List UInt8} (h0 : s ≠ []) (h : s.getLast? ≠ some 10) : linesL (s ++ 10 :: t) = linesL s ++ linesL t := by
  unfold linesL
  rw [lines_app, lines_close s [] (fun e => absurd e h0) h]
/-- all lines, each with a line's end -/
def joinL (l : List (List UInt8)) : List UInt8 := l.flatMap (· ++ [10])
theorem join_take (l : List (List UInt8)) (k : Nat) (h : k < l.length) : joinL (l.take (k + 1)) = joinL (l.take k) ++ l[k] ++ [10] := by
  unfold joinL
  rw [List.take_succ_eq_append_getElem h, List.flatMap_append]; simp
theorem join_lines : ∀ (s cur : List UInt8), joinL (linesF cur s) = if (s = [] ∧ cur = []) ∨ s.getLast? = some 10 then cur ++ s else cur ++ s ++ [10]
  | [], cur => by
    by_cases h : cur = []
    · simp [linesF, joinL, h]
    · simp [linesF, joinL, h]
  | c :: s, cur => by
    by_cases h : c = 10
    · subst h
      rw [lines_end]
      have ih := join_lines s []
      have e : joinL (cur :: linesF [] s) = cur ++ [10] ++ joinL (linesF [] s) := by simp [joinL]
      rw [e, ih]
      cases s with
      | nil => simp
      | cons d s =>
        simp only [List.getLast?_cons_cons, List.cons_ne_nil, false_and, false_or]
        split <;> simp
    · rw [lines_more _ _ h, join_lines s (cur ++ [c])]
      cases s with
      | nil => simp [h]
      | cons d s =>
        simp only [List.getLast?_cons_cons, List.cons_ne_nil, false_and, false_or]
        split <;> simp
theorem join_text (s : List UInt8) : joinL (linesL s) = if s = [] ∨ s.getLast? = some 10 then s else s ++ [10] := by
  have := join_lines s []
  unfold linesL
  simpa using this
end Go.Proofs.YtbhlnemahhndoaaGreatDoor
