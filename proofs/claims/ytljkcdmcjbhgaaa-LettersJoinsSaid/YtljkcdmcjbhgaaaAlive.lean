import Derived.Test.YtljkcdmcjbhgaaaSame
import Derived.Test.YtljkcdmcjbhgaaaOrders
import Derived.Test.YtljkcdmcjbhgaaaName
namespace Go.Proofs.Ytljkcdmcjbhgaaa
open Go.RowKit

theorem lower_c (a : ByteArray) (b : Array UInt8) (w : World) (hs : a.size ≤ maxLen) (h : (lowL a.data.toList).toArray = b) :
    Calls Try.prog 12 #[.string a] w fun e w' => e = .returned (.string ⟨b⟩) ∧ Below w.heap.size w w' := by
  subst h; exact lower_any a w hs
theorem order_c (a b : ByteArray) (r : Int) (w : World) (ha : a.size ≤ 140737488351232) (hb : b.size ≤ 140737488351232) (h : ordL a.data.toList b.data.toList = r) :
    Calls Try.prog 14 #[.string a, .string b] w fun e w' => e = .returned (.int .i64 r) ∧ Below w.heap.size w w' := by
  subst h; exact order_any a b w ha hb
theorem name_c (a : ByteArray) (r : Bool) (w : World) (ha : a.size ≤ maxLen) (h : nameB a.data.toList = r) :
    Calls Try.prog 16 #[.string a] w fun e w' => e = .returned (.bool r) ∧ w = w' := by
  subst h; exact name_any a w ha
theorem words_c (a : ByteArray) (l : List (List UInt8)) (w : World) (ha : a.size ≤ 4294967296) (h : wordsL a.data.toList = l) (hl : l.length ≤ 9223372036854775807) :
    Calls Try.prog 20 #[.string a] w fun e w' => ∃ A, e = .returned (.slice (some ⟨A, 0, none⟩) l.length l.length) ∧ Texts w' (.slice (some ⟨A, 0, none⟩) l.length l.length) l ∧ Below w.heap.size w w' := by
  subst h
  refine (words_any a w ha).mono ?_
  rintro e w' ⟨A, rfl, _, hown, hb⟩
  exact ⟨A, rfl, texts_owned hown rfl hl, hb⟩

theorem cell_lt {w : World} {a : Addr} {v : Value} (h : w.cell? a = some v) : a.block < w.heap.size := by
  rcases Nat.lt_or_ge a.block w.heap.size with h' | h'
  · exact h'
  · unfold World.cell? at h
    simp [Array.getElem?_eq_none h'] at h

theorem Texts.kept {w w' : World} {v : Value} {l : List (List UInt8)} (h : Texts w v l) (hb : Below w.heap.size w w') : Texts w' v l := by
  obtain ⟨p, cap, rfl, hl, hc⟩ := h
  refine ⟨p, cap, rfl, hl, fun h0 => ?_⟩
  obtain ⟨A, rfl, hA⟩ := hc h0
  exact ⟨A, rfl, fun j hj => (hb.cell (p := ⟨A, j, none⟩) (cell_lt (hA j hj))).trans (hA j hj)⟩

theorem texts_lit (w : World) (l : List (List UInt8)) (cs : Array Value) (hl : l.length ≤ 9223372036854775807) (h : cs = (l.map strV).toArray) : Texts (w.alloc (.cells cs 9)) (.slice (some ⟨w.heap.size, 0, none⟩) l.length l.length) l := by
  subst h
  refine ⟨_, _, rfl, hl, fun _ => ⟨_, rfl, fun j hj => ?_⟩⟩
  rw [World.cell?_alloc_new]
  simp [hj]

theorem below_drewN {B : Nat} {a w : World} (h : Below B a w) (n : Nat) : Below B a (w.drewN n) := ⟨h.os, h.tape, h.output, h.size, h.block⟩

set_option maxHeartbeats 1000000 in
theorem alive_any (w : World) : Calls Try.prog 18 #[] w fun e w' => e = .returned (.bool true) ∧ Below w.heap.size w w' := by
  go_enter Try.func18, Try.ntmps18
  go_wp2_with fail
  refine (lower_c ⟨#[65, 98, 67, 45]⟩ #[97, 98, 99, 45] _ (by decide) (by decide +kernel)).mono ?_
  rintro e w1 ⟨rfl, hb1⟩
  go_wp2_with fail
  refine (order_c ⟨#[97]⟩ ⟨#[66]⟩ (-1) _ (by decide) (by decide) (by decide +kernel)).mono ?_
  rintro e w2 ⟨rfl, hb2⟩
  go_wp2_with fail
  refine (order_c ⟨#[97, 45, 98]⟩ ⟨#[97, 98]⟩ (-1) _ (by decide) (by decide) (by decide +kernel)).mono ?_
  rintro e w3 ⟨rfl, hb3⟩
  go_wp2_with fail
  refine (order_c ⟨#[65]⟩ ⟨#[97]⟩ (-1) _ (by decide) (by decide) (by decide +kernel)).mono ?_
  rintro e w4 ⟨rfl, hb4⟩
  go_wp2_with fail
  refine (order_c ⟨#[97]⟩ ⟨#[97]⟩ 0 _ (by decide) (by decide) (by decide +kernel)).mono ?_
  rintro e w5 ⟨rfl, hb5⟩
  go_wp2_with fail
  refine (order_c ⟨#[95]⟩ ⟨#[]⟩ 1 _ (by decide) (by decide) (by decide +kernel)).mono ?_
  rintro e w6 ⟨rfl, hb6⟩
  go_wp2_with fail
  refine (name_c ⟨#[65, 45, 49]⟩ true _ (by decide) (by decide +kernel)).mono ?_
  rintro e w' ⟨rfl, rfl⟩
  go_wp2_with fail
  refine (name_c ⟨#[49, 97]⟩ false _ (by decide) (by decide +kernel)).mono ?_
  rintro e w' ⟨rfl, rfl⟩
  go_wp2_with fail
  refine (words_c ⟨#[97, 32, 32, 98, 10, 99]⟩ [[97], [98], [99]] _ (by decide) (by decide +kernel) (by decide)).mono ?_
  rintro e w7 ⟨A, rfl, hT, hb7⟩
  go_wp2_with fail
  refine (sameTexts_any _ _ [[97], [98], [99]] [[97], [98], [99]] _ (hT.kept (laidNew _ _)) (texts_lit w7 _ _ (by decide) rfl)).mono ?_
  rintro e w8 ⟨rfl, q, rfl⟩
  go_wp2
  go_ret
  exact ⟨rfl, below_drewN (behind (behind (behind (behind (behind (behind (behind hb1 hb2) hb3) hb4) hb5) hb6) hb7) (laidNew _ _)) q⟩
end Go.Proofs.Ytljkcdmcjbhgaaa
