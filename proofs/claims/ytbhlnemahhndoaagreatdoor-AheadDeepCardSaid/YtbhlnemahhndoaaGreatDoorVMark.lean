/- Merged: Mark. -/
import Derived.Test.YtbhlnemahhndoaaGreatDoorU4
import Derived.Test.YtbhlnemahhndoaaGreatDoorShelf
import Derived.BigQuiet
import Derived.Deep.QuietTactic
import Derived.StillTailTactics
import Derived.OwnWalk
import Derived.OneCell
import Derived.ArgAppend
import Derived.RangeFuncBox
namespace Go.Proofs.YtbhlnemahhndoaaGreatDoor
open Go.RowKit
set_option maxRecDepth 100000

/-- a mark as a text -/
def markL (i : Nat) : List UInt8 := 35 :: Lib.decDigits i

theorem mark_cat (a b : ByteArray) : (a ++ b).data.toList = a.data.toList ++ b.data.toList := by
  rw [ByteArray.data_append]; simp
theorem data_inj {a b : ByteArray} (h : a.data.toList = b.data.toList) : a = b := by
  apply ByteArray.ext; exact Array.toList_inj.1 h
theorem dec_short (i : Nat) (h : i < 100) : (Lib.decDigits i).length ≤ 2 := by
  have : ∀ i < 100, (Lib.decDigits i).length ≤ 2 := by decide +kernel
  exact this i h

/-- a mark -/
def markT (i : Nat) : ByteArray := ⟨(markL i).toArray⟩

set_option maxHeartbeats 400000 in
theorem word_any (i : Nat) (hi : i < 100) (w : World) : Calls Tryz.prog 160 #[.int .i64 i] w fun e w' => e = .returned (.string (markT i)) ∧ w = w' := by
  have hd := dec_short i hi
  have he : ({ data := #[35] } ++ { data := (Lib.decDigits i).toArray } : ByteArray) = markT i := data_inj (by rw [mark_cat]; simp [markT, markL])
  have HE := Lib.hid he
  have hz : (ByteArray.mk (Lib.decDigits i).toArray).size ≤ 2 := by simpa [ByteArray.size] using hd
  clear he
  go_enter Tryz.func160, Tryz.ntmps160
  go_wp2_with fail
  refine (Tryz.strconv_Itoa_small i hi w).mono ?_
  rintro e w' ⟨rfl, rfl⟩
  go_wp2
  go_ret
  exact ⟨congrArg (fun t => Ending.returned (.string t)) HE.out, rfl⟩

theorem markText_any (i : Nat) (hi : i < 100) (w : World) : Calls Tryz.prog 114 #[.int .i64 i] w fun e w' => e = .returned (.string (markT i)) ∧ w = w' := by
  go_enter Tryz.func114, Tryz.ntmps114
  go_wp2_with (go_at_call 160; refine (word_any i hi _).mono ?_; rintro e w' ⟨rfl, rfl⟩)
  go_ret
  exact ⟨rfl, rfl⟩

theorem isText_yes (i : Nat) (hi : i < 100) (w : World) : Calls Tryz.prog 131 #[.string (markT i), .int .i64 i] w fun e w' => e = .returned (.bool true) ∧ w = w' := by
  go_enter Tryz.func131, Tryz.ntmps131
  go_wp2_with (go_at_call 160; refine (word_any i hi _).mono ?_; rintro e w' ⟨rfl, rfl⟩)
  go_ret
  exact ⟨rfl, rfl⟩

/-- a world as it was, but for the blocks S and what is new -/
structure KeptBut (S : Nat → Prop) (w w' : World) : Prop where
  os : w'.os = w.os
  tape : w'.tape = w.tape
  output : w'.output = w.output
  size : w.heap.size ≤ w'.heap.size
  block : ∀ k, k < w.heap.size → ¬ S k → w'.heap[k]? = w.heap[k]?

theorem KeptBut.refl (S : Nat → Prop) (w : World) : KeptBut S w w := ⟨rfl, rfl, rfl, Nat.le_refl _, fun _ _ _ => rfl⟩
theorem KeptBut.trans {S : Nat → Prop} {a b c : World} (h : KeptBut S a b) (k : KeptBut S b c) : KeptBut S a c :=
  ⟨k.os.trans h.os, k.tape.trans h.tape, k.output.trans h.output, Nat.le_trans h.size k.size, fun i hi hs => (k.block i (Nat.lt_of_lt_of_le hi h.size) hs).trans (h.block i hi hs)⟩
theorem KeptBut.mono {S S' : Nat → Prop} {a b : World} (h : KeptBut S a b) (hs : ∀ k, S k → S' k) : KeptBut S' a b := ⟨h.os, h.tape, h.output, h.size, fun k hk hn => h.block k hk (fun e => hn (hs k e))⟩
theorem KeptBut.below {S : Nat → Prop} {a b : World} (h : Below a.heap.size a b) : KeptBut S a b := ⟨h.os, h.tape, h.output, h.size, fun k hk _ => h.block k hk⟩
theorem KeptBut.toBelow {S : Nat → Prop} {a b : World} {B : Nat} (h : KeptBut S a b) (hB : B ≤ a.heap.size) (hs : ∀ k, S k → B ≤ k) : Below B a b :=
  ⟨h.os, h.tape, h.output, h.size, fun k hk => h.block k (by omega) (fun e => by have := hs k e; omega)⟩
theorem KeptBut.drewN {S : Nat → Prop} {a b : World} (h : KeptBut S a b) (q : Nat) : KeptBut S a (b.drewN q) := ⟨h.os, h.tape, h.output, h.size, h.block⟩
theorem KeptBut.alloc {S : Nat → Prop} {a b : World} (h : KeptBut S a b) (o : Obj) : KeptBut S a (b.alloc o) :=
  h.trans (KeptBut.below ((Below.refl _ _).alloc (Nat.le_refl _) _))
theorem KeptBut.setCell {S : Nat → Prop} {a b : World} (h : KeptBut S a b) {p : Addr} (hp : S p.block ∨ a.heap.size ≤ p.block) (u : Value) : KeptBut S a (b.setCell p u) :=
  ⟨h.os, h.tape, h.output, by simpa [World.setCell] using h.size, fun k hk hs => (Below.heap_setCell _ _ _ _ (by rintro rfl; rcases hp with hp | hp; exact hs hp; omega)).trans (h.block k hk hs)⟩
theorem KeptBut.grown {S : Nat → Prop} {a b c : World} {row : Option Nat} (h : KeptBut S a b) (hg : b.grownBy c row) (hr : ∀ k, row = some k → S k ∨ a.heap.size ≤ k) : KeptBut S a c :=
  ⟨hg.os.trans h.os, hg.tape.trans h.tape, hg.output.trans h.output, Nat.le_trans h.size hg.size, fun k hk hs => (hg.block k (by have := h.size; omega) (fun e => by rcases hr k e.symm with h1 | h1; exact hs h1; omega)).trans (h.block k hk hs)⟩
theorem KeptBut.cell {S : Nat → Prop} {a b : World} (h : KeptBut S a b) {p : Addr} (hp : p.block < a.heap.size) (hs : ¬ S p.block) : b.cell? p = a.cell? p := World.cell?_of_block (w := a) (h.block p.block hp hs)
theorem KeptBut.frozen {S : Nat → Prop} {a b : World} (h : KeptBut S a b) {p : Addr} (hp : p.block < a.heap.size) (hs : ¬ S p.block) : b.frozen? p = a.frozen? p := World.frozen?_of_block (w := a) (h.block p.block hp hs)
theorem KeptBut.row {S : Nat → Prop} {a b : World} (h : KeptBut S a b) {base : Nat} {e : TypeId} {size : Nat} {v : Value} {n : Nat} {xs : List Value} (hr : a.ownsRow base e size v n xs) (hs : ∀ g, v.ownBlock = some g → ¬ S g) : b.ownsRow base e size v n xs := by
  obtain ⟨h1, h2⟩ := hr
  refine ⟨h1, ?_⟩
  rcases h2 with h2 | ⟨g, cap, cur, rfl, hb, hg, r⟩
  · exact .inl h2
  · exact .inr ⟨g, cap, cur, rfl, hb, by rw [h.block g (Array.getElem?_eq_some_iff.1 hg).1 (hs g rfl)]; exact hg, r⟩

/-- a list that is held: its value's parts, its number -/
structure Held where
  p : Option Addr
  n : Nat
  c : Nat
  nu : Nat
def Held.v (h : Held) : Value := .slice h.p h.n h.c
def marks (h : Held) (k : Nat) : List Value := List.replicate k (.string (markT h.nu))
end Go.Proofs.YtbhlnemahhndoaaGreatDoor
