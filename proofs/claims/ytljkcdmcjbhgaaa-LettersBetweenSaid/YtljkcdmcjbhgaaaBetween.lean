import Derived.Test.YtljkcdmcjbhgaaaNamed
import Derived.WideKeyArr2
namespace Go.Proofs.Ytljkcdmcjbhgaaa
open Go.RowKit
open Go.Lib (compareBytes)
open Go.WideMaps (ArrKey)

theorem arr30 : ArrKey Try.prog 30 29 2 := ⟨Try.underlying30, by kernel_rfl, by kernel_rfl, by kernel_rfl⟩

/-- an argument that is a pair of small numbers -/
theorem pair_arg {H : Type} {enc : TypeId × Value → H} {W : World} {r : Reach} {b0 : Nat} {v : Value} {d : DataW H} {ps : List MemPlace} (hval : Value.okWide Try.prog W r b0 30 v)
    (h : DataW.Trod enc Try.prog W 0 (fun _ => true) true 30 v d ps) : ∃ n m : Int, v = .agg #[.int .u16 n, .int .u16 m] ∧ ps = [] ∧ (Lit.int .u16 n).wf = true ∧ (Lit.int .u16 m).wf = true := by
  obtain ⟨xs, rfl, hn⟩ := WideMaps.okWide_arr arr30 hval
  obtain ⟨fuel, hf⟩ := h
  obtain ⟨ys, m, _, hx, hl, hy, hg⟩ := DataW.trod_array Try.underlying30 hf
  obtain ⟨a, b, rfl⟩ : ∃ a b, xs = #[a, b] := by
    have h0 : 0 < xs.size := by omega
    have h1 : 1 < xs.size := by omega
    refine ⟨xs[0], xs[1], Array.ext (by simpa using hn) fun i hi _ => ?_⟩
    rcases (by omega : i = 0 ∨ i = 1) with rfl | rfl <;> rfl
  match ys, hy with
  | [y0, y1], _ =>
    have c29 : Try.prog.cellsOf 29 = 1 := by kernel_rfl
    have g0 := hg 0 (by omega)
    have g1 := hg 1 (by omega)
    rw [c29] at g0 g1
    simp [Value.cells] at g0 g1
    obtain ⟨n0, e0, h0, w0⟩ := DataW.trod_int Try.underlying29 g0
    obtain ⟨n1, e1, h1, w1⟩ := DataW.trod_int Try.underlying29 g1
    simp at e0 e1
    subst e0 e1 h0 h1
    exact ⟨n0, n1, rfl, by simp at hx; exact hx.2, w0, w1⟩

/-- a text with a byte put in -/
def moreL (l : List UInt8) (k : Nat) (c : UInt8) : List UInt8 := l.take k ++ [c] ++ l.drop k

theorem low_gap {c : UInt8} (h : alnum c = false) : lowB c = c := by
  unfold lowB
  rw [if_neg]
  intro hc
  unfold alnum isA isL at h
  simp at h
  omega
theorem alnum_low (c : UInt8) : alnum (lowB c) = alnum c := by
  unfold alnum
  rw [lowB_toNat, Bool.eq_iff_iff]
  unfold lowN isA isL isD
  simp only [Bool.or_eq_true, decide_eq_true_eq]
  split <;> omega
theorem key_more (l : List UInt8) (k : Nat) (c : UInt8) (h : alnum c = false) : keyL (moreL l k c) = keyL l := by
  have e : keyL l = keyL (l.take k ++ l.drop k) := by rw [List.take_append_drop]
  rw [e]
  unfold keyL moreL lowL
  rw [List.map_append, List.map_append, List.map_append, List.filter_append, List.filter_append, List.filter_append]
  have : List.filter alnum (List.map lowB [c]) = [] := by simp [low_gap h, h]
  rw [this, List.append_nil]
theorem more_length (l : List UInt8) (k : Nat) (c : UInt8) : (moreL l k c).length = l.length + 1 := by
  have := congrArg List.length (List.take_append_drop k l)
  rw [List.length_append] at this
  unfold moreL
  simp only [List.length_append, List.length_cons, List.length_nil]
  omega
theorem more_ne (l : List UInt8) (k : Nat) (c : UInt8) : ordL (moreL l k c) l ≠ 0 := by
  rw [ne_eq, ord_zero]
  intro e
  have := congrArg List.length e
  rw [more_length] at this
  omega
theorem key_plain (l : List UInt8) (h : plainB l = true) : keyL l = lowL l := by
  unfold keyL lowL
  rw [List.filter_eq_self]
  intro c hc
  obtain ⟨d, hd, rfl⟩ := List.mem_map.1 hc
  rw [alnum_low]
  exact List.all_eq_true.1 h d hd
theorem ord_more (a b : List UInt8) (k : Nat) (c : UInt8) (h : alnum c = false) (ha : plainB a = true) (hb : plainB b = true) (hne : ¬ lowL a = lowL b) : ordL (moreL a k c) b = ordL a b := by
  unfold ordL
  rw [key_more a k c h, key_plain a ha, key_plain b hb]
  have : ¬ compareBytes (lowL a) (lowL b) = 0 := by rw [cb_zero]; exact hne
  rw [if_neg this, if_neg this]
end Go.Proofs.Ytljkcdmcjbhgaaa
