import Derived.Test.YtllpikcfjlibeaaHex
import Derived.Test.YtllpikcfjlibeaaRows
import Derived.WalkKit
import Derived.WalkSpells
import Derived.WalkLawsBesides
import Derived.Lib.Hide
import Derived.OwnWalk
import Derived.Laws.CopyRow
import Derived.Laws.Rows
import Derived.Laws.CopyOwn
import Derived.Lib.BufferWrite
namespace Go.Proofs.Ytllpikcfjlibeaa
open Go.RowKit

/-- a row of bytes, as values -/
def rowV (l : List UInt8) : Array Value := (l.map fun c => Value.int .u8 (c.toNat : Int)).toArray
/-- sixteen noughts -/
def zeros : List UInt8 := List.replicate 16 0
theorem rowV_size (l : List UInt8) : (rowV l).size = l.length := by simp [rowV]
theorem rowV_one (l : List UInt8) : (rowV l).all (·.oneCell') = true := by
  unfold rowV
  rw [List.all_toArray, List.all_eq_true]
  intro v hv
  obtain ⟨c, _, rfl⟩ := List.mem_map.1 hv
  rfl
theorem zeros_row : rowV zeros = #[.int .u8 0, .int .u8 0, .int .u8 0, .int .u8 0, .int .u8 0, .int .u8 0, .int .u8 0, .int .u8 0, .int .u8 0, .int .u8 0, .int .u8 0, .int .u8 0, .int .u8 0, .int .u8 0, .int .u8 0, .int .u8 0] := rfl

theorem info39 : (Try.prog.info? 39).map (·.size) = some 16 := by kernel_rfl
theorem info5 : (Try.prog.info? 5).map (·.size) = some 1 := by kernel_rfl

/-- a row of sixteen bytes in the memory -/
def RowIn (w : World) (b : Nat) (l : List UInt8) : Prop := w.heap[b]? = some (.cells (rowV l) 39 (0, 0)) ∧ l.length = 16
theorem RowIn.load {w : World} {b : Nat} {l : List UInt8} (h : RowIn w b l) : (loadVar 39 ⟨b, 0, none⟩).run Try.prog w = .ok (.agg (rowV l)) w :=
  run_loadVar_row (P := Try.prog) w b 39 39 (rowV l) (0, 0) _ h.1 Try.underlying39 rfl (by rw [rowV_size, h.2]; exact info39)
theorem RowIn.store {w : World} {b : Nat} {l m : List UInt8} (h : RowIn w b l) (hm : m.length = 16) : (storeVar 39 ⟨b, 0, none⟩ (.agg (rowV m))).run Try.prog w = .ok () (w.setRow b (rowV m)) :=
  run_storeVar_row (P := Try.prog) w b 39 39 (rowV l) (rowV m) h.1 (by rw [rowV_size, hm]; exact info39) (by rw [rowV_size, rowV_size, h.2, hm]) (rowV_one m)
theorem RowIn.row {w : World} {b : Nat} {l : List UInt8} (h : RowIn w b l) (m : List UInt8) (hm : m.length = 16) : RowIn (w.setRow b (rowV m)) b m := ⟨setRow_heap w b _ _ _ _ h.1, hm⟩
theorem RowIn.other {w : World} {b c : Nat} {l m : List UInt8} (h : RowIn w b l) (hne : b ≠ c) : RowIn (w.setRow c (rowV m)) b l := ⟨by rw [setRow_other _ _ _ _ hne]; exact h.1, h.2⟩


/-- an array is read -/
theorem wl_load {ops : Array Oper} {rest : List Oper} {o : Oper} {a : Act} {w : World} {Q : Exit → Act → World → Prop} {b : Nat} {l : List UInt8} (h : RowIn w b l) (hgd : o.guard = none) (x : Operand) (ho : o.op = .load 39 x)
    (hx : a.eval x = .pointer (some ⟨b, 0, none⟩)) (hk : wpList Try.prog ops Q rest (a.put o.dst (.agg (rowV l))) w) : wpList Try.prog ops Q (o :: rest) a w :=
  wpList_load_row hgd 39 x ho b hx 39 (rowV l) (0, 0) _ h.1 Try.underlying39 rfl (by rw [rowV_size, h.2]; exact info39) hk
/-- an array is written -/
theorem wl_store {ops : Array Oper} {rest : List Oper} {o : Oper} {a : Act} {w : World} {Q : Exit → Act → World → Prop} {b : Nat} {l m : List UInt8} (h : RowIn w b l) (hm : m.length = 16) (hgd : o.guard = none) (x y : Operand) (ho : o.op = .store 39 x y)
    (hx : a.eval x = .pointer (some ⟨b, 0, none⟩)) (hy : a.eval y = .agg (rowV m)) (hk : wpList Try.prog ops Q rest (a.put o.dst undef) (w.setRow b (rowV m))) : wpList Try.prog ops Q (o :: rest) a w :=
  wpList_plain hgd fun _ hK => wp_store_row 39 x y ho b (rowV m) hx hy 39 (rowV l) h.1 (by rw [rowV_size, hm]; exact info39) (by rw [rowV_size, rowV_size, h.2, hm]) (rowV_one m) (hK _ _ hk)

theorem hexL_row : ({ data := #[48, 49, 50, 51, 52, 53, 54, 55, 56, 57, 97, 98, 99, 100, 101, 102] } : ByteArray) = ⟨hexL.toArray⟩ := rfl
/-- 'copy(row[:], digits)' -/
theorem copy_digits {W : World} {b : Nat} {l : List UInt8} (h : RowIn W b l) :
    (Builtin.copy_ #[35, 9] 3 #[.slice (some ⟨b, 0, none⟩) 16 16, .string ⟨#[48, 49, 50, 51, 52, 53, 54, 55, 56, 57, 97, 98, 99, 100, 101, 102]⟩]).run Try.prog W = .ok (.int .i64 16) (W.setRow b (rowV hexL)) := by
  have hcp := Lib.run_copy_row_string (P := Try.prog) W 35 9 3 5 b 0 16 16 ⟨#[48, 49, 50, 51, 52, 53, 54, 55, 56, 57, 97, 98, 99, 100, 101, 102]⟩ _ _ Try.underlying35 info5 h.1 (by decide) (by rw [rowV_size, h.2]; decide)
  rw [hcp]
  have hd : (rowV l).toList.drop (0 + (⟨#[48, 49, 50, 51, 52, 53, 54, 55, 56, 57, 97, 98, 99, 100, 101, 102]⟩ : ByteArray).size) = [] :=
    List.drop_of_length_le (by rw [Array.length_toList, rowV_size, h.2]; decide)
  rw [hd]
  rfl

theorem two_rows (w : World) : RowIn ((w.alloc (.cells (rowV zeros) 39)).alloc (.cells (rowV zeros) 39)) (w.heap.size + 1) zeros ∧ RowIn ((w.alloc (.cells (rowV zeros) 39)).alloc (.cells (rowV zeros) 39)) w.heap.size zeros := by
  refine ⟨⟨?_, rfl⟩, ⟨?_, rfl⟩⟩
  · have := heap_alloc_new (w.alloc (.cells (rowV zeros) 39)) (.cells (rowV zeros) 39)
    simpa using this
  · have := heap_alloc_new w (.cells (rowV zeros) 39)
    rw [Below.heap_alloc _ _ _ (by simp)]
    exact this

set_option maxHeartbeats 400000 in
theorem digits_any (w : World) : Calls Try.prog 19 #[] w fun e w' => e = .returned (.agg (rowV hexL)) ∧ Below w.heap.size w w' := by
  obtain ⟨h1, h0⟩ := two_rows w
  have hcp := copy_digits h1
  have h3 := Lib.hid (h1.row hexL rfl)
  have h4 := Lib.hid (h0.other (c := w.heap.size + 1) (m := hexL) (by omega))
  have hb : Below w.heap.size w ((((w.alloc (.cells (rowV zeros) 39)).alloc (.cells (rowV zeros) 39)).setRow (w.heap.size + 1) (rowV hexL)).setRow w.heap.size (rowV hexL)) :=
    below_setRow (below_setRow (((Below.refl _ _).alloc (Nat.le_refl _) _).alloc (by simp) _) (by omega) _) (by omega) _
  have h5 := Lib.hid (h4.out.row hexL rfl)
  have HB := Lib.hid hb
  clear h1 h0 hb
  rw [zeros_row] at hcp h3 h4 h5 HB
  go_enter Try.func19, Try.ntmps19
  go_wp2_with (first | refine wl_load h3.out rfl _ rfl rfl ?_ | refine wl_store h4.out (m := hexL) rfl rfl _ _ rfl rfl rfl ?_)
  (try simp only [Exit.inBlock, Exit.then])
  refine bodyPost_ret (v := .agg (rowV hexL)) ?_ rfl ⟨rfl, HB.out⟩
  exact results_cell_row rfl _ _ w.heap.size 39 (rowV hexL) (0, 0) _ rfl h5.out.1 Try.underlying39 rfl (by rw [rowV_size]; exact info39)
end Go.Proofs.Ytllpikcfjlibeaa
