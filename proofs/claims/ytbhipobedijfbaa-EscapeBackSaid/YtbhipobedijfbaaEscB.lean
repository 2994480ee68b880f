import Derived.Test.YtbhipobedijfbaaEscA
import Derived.Test.YtbhipobedijfbaaBuild
import Derived.Test.YtbhipobedijfbaaShelf
import Derived.Deep.LoopGhost
namespace Go.Proofs.Ytbhipobedijfbaa
open Go.RowKit Go.Maps
set_option maxRecDepth 100000

/-! ### what stays while other blocks are written -/
theorem builder_same {T e : TypeId} {B b : Nat} {bs : List Value} {w w' : World} (h : Lib.IsBuilderF T e B b bs w) (hb : w'.heap[b]? = w.heap[b]?) (hr : ∀ (g : Nat) (c : Array Value) (fz : Nat × Nat), w.heap[g]? = some (.cells c e fz) → w'.heap[g]? = w.heap[g]?) : Lib.IsBuilderF T e B b bs w' := by
  have one : ∀ p, Lib.BuilderAtF T e B b p bs w → Lib.BuilderAtF T e B b p bs w' := by
    rintro p ⟨hB, v, hbk, hown, hne⟩
    refine ⟨hB, v, hb.trans hbk, ⟨hown.1, ?_⟩, hne⟩
    rcases hown.2 with h0 | ⟨g, cap, cur, fz, hv, hg0, hg, r⟩
    · exact .inl h0
    · exact .inr ⟨g, cap, cur, fz, hv, hg0, (hr g _ _ hg).trans hg, r⟩
  exact h.imp (one _) (one _)
theorem row_same {base n sz : Nat} {e : TypeId} {v : Value} {xs : List Value} {w w' : World} (h : w.ownsRow base e sz v n xs) (hr : ∀ (g : Nat) (c : Array Value) (fz : Nat × Nat), w.heap[g]? = some (.cells c e fz) → w'.heap[g]? = w.heap[g]?) : w'.ownsRow base e sz v n xs := by
  obtain ⟨h1, h2⟩ := h
  refine ⟨h1, ?_⟩
  rcases h2 with h2 | ⟨g, cap, cur, rfl, hB, hg, r⟩
  · exact .inl h2
  · exact .inr ⟨g, cap, cur, rfl, hB, (hr g _ _ hg).trans hg, r⟩
theorem map_same {H : Type} {P : Program} {k : TypeId} {R : Value → Option (DataW H × List MemPlace)} {b n : Nat} {D : DataW H} {w w' : World} (h : w.ownsMap P k R b n D) (hb : ∀ es c, w.heap[b]? = some (.map es c) → w'.heap[b]? = w.heap[b]?) : w'.ownsMap P k R b n D := by
  obtain ⟨es, c, hm, r⟩ := h
  exact ⟨es, c, (hb es c hm).trans hm, r⟩

theorem lt_of {w : World} {g : Nat} {o : Obj} (h : w.heap[g]? = some o) : g < w.heap.size := (Array.getElem?_eq_some_iff.1 h).1
theorem builder_block {T e : TypeId} {B b : Nat} {bs : List Value} {w : World} (h : Lib.IsBuilderF T e B b bs w) : ∃ c, w.heap[b]? = some (.cells c T (0, 0)) := by
  rcases h with ⟨_, v, hb, _⟩ | ⟨_, v, hb, _⟩ <;> exact ⟨_, hb⟩

def bT (l : List UInt8) : ByteArray := ⟨l.toArray⟩
theorem bT_list (l : List UInt8) : (bT l).data.toList = l := by simp [bT]
theorem bT_data (b : ByteArray) : bT b.data.toList = b := by simp [bT]
theorem cat_data (a b : ByteArray) : (a ++ b).data.toList = a.data.toList ++ b.data.toList := by rw [ByteArray.data_append]; simp
theorem cells_cat (a : List UInt8) (s : ByteArray) : Lib.byteCells a ++ Lib.strCells s = Lib.byteCells (a ++ s.data.toList) := by rw [Lib.strCells_eq]; simp [Lib.byteCells]
theorem extract_two (s : ByteArray) (f k : Nat) : (s.extract f k).data.toList = (s.data.toList.take k).drop f := by
  rw [ByteArray.data_extract, Array.toList_extract, List.extract_eq_take_drop, List.drop_take]
theorem extract_end (s : ByteArray) (a : Nat) : (s.extract a s.size).data.toList = s.data.toList.drop a := by
  rw [extract_two, List.take_of_length_le (by simp)]

/-! ### the lists' side -/
theorem text_none : ∀ {l : List UInt8}, (∀ c ∈ l, markL c = none) → textL l = l
  | [], _ => rfl
  | c :: t, h => by
    show oneL c ++ textL t = _
    rw [text_none (fun x hx => h x (List.mem_cons_of_mem _ hx))]
    unfold oneL; rw [h c (List.mem_cons_self ..)]; rfl
theorem oneL_len (c : UInt8) : (oneL c).length ≤ 6 := by
  unfold oneL markL
  repeat' split
  all_goals simp
theorem text_len : ∀ l : List UInt8, (textL l).length ≤ 6 * l.length
  | [] => by simp [textL]
  | c :: t => by
    have h1 := text_len t
    have h2 := oneL_len c
    show (oneL c ++ textL t).length ≤ _
    rw [List.length_append, List.length_cons]; omega
/-- no marks from f on, ahead of pos -/
def NoMk (s : ByteArray) (f pos : Nat) : Prop := ∀ j (h : j < s.size), f ≤ j → j < pos → markL s[j] = none
theorem noMk_part {s : ByteArray} {f pos : Nat} (h : NoMk s f pos) : ∀ c ∈ (s.data.toList.take pos).drop f, markL c = none := by
  intro c hc
  obtain ⟨i, hi, rfl⟩ := List.mem_iff_getElem.1 hc
  rw [List.length_drop, List.length_take] at hi
  have hl : s.data.toList.length = s.size := by simp
  rw [List.getElem_drop, List.getElem_take]
  exact h (f + i) (by omega) (by omega) (by omega)
theorem take_split (l : List UInt8) (f pos : Nat) (h : f ≤ pos) : l.take pos = l.take f ++ (l.take pos).drop f := by
  have e := (List.take_append_drop f (l.take pos)).symm
  rw [List.take_take, Nat.min_eq_left h] at e
  exact e
theorem text_upto {s : ByteArray} {f pos : Nat} (h : f ≤ pos) (hn : NoMk s f pos) : textL (s.data.toList.take pos) = textL (s.data.toList.take f) ++ (s.extract f pos).data.toList := by
  rw [take_split _ f pos h, text_append, text_none (noMk_part hn), extract_two]
theorem text_step {s : ByteArray} {f pos : Nat} (h : f ≤ pos) (hp : pos < s.size) (hn : NoMk s f pos) {m : List UInt8} (hm : markL s[pos] = some m) : textL (s.data.toList.take (pos + 1)) = textL (s.data.toList.take f) ++ (s.extract f pos).data.toList ++ m := by
  have hl : pos < s.data.toList.length := by simpa using hp
  rw [List.take_succ_eq_append_getElem hl, text_append, text_upto h hn]
  congr 1
  show oneL s[pos] ++ [] = m
  unfold oneL
  rw [hm]; simp
/-- a sign that is found -/
theorem mark_v {R : Nat} (h : isMark R = true) : R < 128 ∧ ∃ mb : ByteArray, markV R = .agg #[.string mb] ∧ markL (UInt8.ofNat R) = some mb.data.toList ∧ mb.size ≤ 6 := by
  unfold isMark at h
  rw [decide_eq_true_eq] at h
  rcases h with rfl | rfl | rfl | rfl | rfl
  · exact ⟨by decide, _, rfl, rfl, by decide⟩
  · exact ⟨by decide, _, rfl, rfl, by decide⟩
  · exact ⟨by decide, _, rfl, rfl, by decide⟩
  · exact ⟨by decide, _, rfl, rfl, by decide⟩
  · exact ⟨by decide, _, rfl, rfl, by decide⟩
theorem mark_no {R : Nat} (h : isMark R = false) : markV R = mZero ∧ (R < 256 → markL (UInt8.ofNat R) = none) := by
  unfold isMark at h
  rw [decide_eq_false_iff_not] at h
  refine ⟨?_, fun h256 => ?_⟩
  · unfold markV
    rw [if_neg (by omega), if_neg (by omega), if_neg (by omega), if_neg (by omega), if_neg (by omega)]
  · have hn : ∀ k : Nat, k < 256 → ¬ R = k → ¬ UInt8.ofNat R = UInt8.ofNat k := fun k hk hne e => by
      have := congrArg UInt8.toNat e
      rw [UInt8.toNat_ofNat', UInt8.toNat_ofNat'] at this
      omega
    have e1 : ¬ UInt8.ofNat R = 38 := hn 38 (by omega) (by omega)
    have e2 : ¬ UInt8.ofNat R = 60 := hn 60 (by omega) (by omega)
    have e3 : ¬ UInt8.ofNat R = 62 := hn 62 (by omega) (by omega)
    have e4 : ¬ UInt8.ofNat R = 34 := hn 34 (by omega) (by omega)
    have e5 : ¬ UInt8.ofNat R = 39 := hn 39 (by omega) (by omega)
    unfold markL
    rw [if_neg e1, if_neg e2, if_neg e3, if_neg e4, if_neg e5]
/-- the text of a sign -/
theorem conv_sign {R : Nat} (h : isMark R = true) (w : World) : (convert 21 9 (.int .i32 (R : Int))).run Try.prog w = .ok (.string ⟨#[UInt8.ofNat R]⟩) w := by
  unfold isMark at h
  rw [decide_eq_true_eq] at h
  rcases h with rfl | rfl | rfl | rfl | rfl <;> rfl
/-- the rune at a place, and the bytes that it goes over -/
theorem rune_mark (s : ByteArray) (pos : Nat) (h : pos < s.size) (hm : isMark (Utf8.decode s pos).1 = true) : (Utf8.decode s pos) = (s[pos].toNat, 1) ∧ UInt8.ofNat (Utf8.decode s pos).1 = s[pos] := by
  have e : Utf8.decode s pos = (s[pos].toNat, 1) := by
    by_cases hb : s[pos].toNat < 128
    · exact decode_low s pos h hb
    · have := (decode_high s pos h (by omega)).1
      have := (mark_v hm).1
      omega
  refine ⟨e, ?_⟩
  rw [e]; exact UInt8.ofNat_toNat
theorem rune_none (s : ByteArray) (pos : Nat) (h : pos < s.size) (hm : isMark (Utf8.decode s pos).1 = false) : pos + (Utf8.decode s pos).2 ≤ s.size ∧ NoMk s pos (pos + (Utf8.decode s pos).2) := by
  by_cases hb : s[pos].toNat < 128
  · have e := decode_low s pos h hb
    rw [e] at hm ⊢
    refine ⟨by simp only; omega, fun j hj h1 h2 => ?_⟩
    simp only at h2
    obtain rfl : j = pos := by omega
    have := (mark_no hm).2 (by omega)
    rwa [UInt8.ofNat_toNat] at this
  · obtain ⟨-, h1, h2⟩ := decode_high s pos h (by omega)
    exact ⟨by omega, fun j hj h3 h4 => mark_high (h2 j hj h3 h4)⟩
theorem noMk_trans {s : ByteArray} {f pos q : Nat} (h1 : NoMk s f pos) (h2 : NoMk s pos q) : NoMk s f q := fun j hj a b => by
  by_cases e : j < pos
  · exact h1 j hj a e
  · exact h2 j hj (by omega) b
end Go.Proofs.Ytbhipobedijfbaa
