import Derived.Test.YtdbhlnokhfflmaaDoorTermL2
import Derived.Lib.LaidU8
import Derived.OpenShut
namespace Go.Proofs.YtdbhlnokhfflmaaDoor
open Go.ChangeShapes Go.WideShapes Go.ChangeAt Go.RowKit
set_option maxRecDepth 100000

/-! ### what the row's condition says of the forms -/
theorem bools_of_struct {H : Type} {enc : TypeId × Value → H} {w : World} {base : Nat} {sp : Nat → Bool} {held : Bool} {fuel : Nat} {cs : List Value} {a b : Bool} {p : List MemPlace}
    (h : DataW.trod enc Tryd.prog w base sp held fuel 48 cs = some (.agg [.lit (.bool a), .lit (.bool b)], p)) : cs = [.bool a, .bool b] := by
  obtain ⟨xs, m, rfl, hx, hl, hxl, hall⟩ := DataW.trod_struct Tryd.underlying48 h
  have hc2 : Tryd.prog.cellsOf 48 = 2 := by kernel_rfl
  have hc1 : Tryd.prog.cellsOf 4 = 1 := by kernel_rfl
  rw [hc2] at hl
  match xs, hxl with
  | [x0, x1], _ =>
    have h0 := hall 0 _ rfl
    have h1 := hall 1 _ rfl
    simp only [List.map_cons, List.map_nil, Prod.mk.injEq, DataW.agg.injEq, List.cons.injEq, and_true] at hx
    obtain ⟨⟨e0, e1⟩, -⟩ := hx
    match cs, hl with
    | [c0, c1], _ =>
      obtain ⟨b0, hb0, hd0⟩ := DataW.trod_bool Tryd.underlying4 (show DataW.trod enc Tryd.prog w base sp held m 4 [c0] = some x0 from h0)
      obtain ⟨b1, hb1, hd1⟩ := DataW.trod_bool Tryd.underlying4 (show DataW.trod enc Tryd.prog w base sp held m 4 [c1] = some x1 from h1)
      rw [hd0] at e0
      rw [hd1] at e1
      simp only [DataW.lit.injEq, Lit.bool.injEq] at e0 e1
      simp only [List.cons.injEq, and_true] at hb0 hb1
      rw [hb0, hb1, e0, e1]
theorem forms_of {W : World} {l : List (String × DataW Unit)} (h : laidMet Tryd.prog l W) (hm : ("bindery/terms.forms", (Rows.laid_bindery_terms_forms : DataW Unit)) ∈ l) : FormsIs W := by
  obtain ⟨g, t, cs, fuel, p, hg, ht, hv, hd⟩ := Lib.laidMet.reads h hm
  have hgn : Tryd.prog.globalNamed "bindery/terms.forms" = some 0 := by kernel_rfl
  obtain rfl := Option.some.inj (hgn.symm.trans hg)
  have htn : (Tryd.prog.globals[0]?).map (·.type) = some 53 := by kernel_rfl
  obtain rfl := Option.some.inj (htn.symm.trans ht)
  have hcell := fun i => World.var?_cell hgn hv i
  unfold Rows.laid_bindery_terms_forms at hd
  obtain ⟨xs, m, rfl, hx, hl, hxl, hall⟩ := DataW.trod_array Tryd.underlying53 hd
  have hc2 : Tryd.prog.cellsOf 48 = 2 := by kernel_rfl
  have hc6 : Tryd.prog.cellsOf 53 = 6 := by kernel_rfl
  rw [hc6] at hl
  rw [hc2] at hall
  match xs, hxl with
  | [x0, x1, x2], _ =>
    have h0 := hall 0 (by omega)
    have h1 := hall 1 (by omega)
    have h2 := hall 2 (by omega)
    simp only [List.map_cons, List.map_nil, Prod.mk.injEq, DataW.agg.injEq, List.cons.injEq, and_true] at hx
    obtain ⟨⟨e0, e1, e2⟩, -⟩ := hx
    obtain ⟨⟨ls⟩, hcs⟩ : ∃ c : Array Value, cs = c := ⟨_, rfl⟩
    rw [hcs] at h0 h1 h2 hl
    match ls, hl with
    | [c0, c1, c2, c3, c4, c5], _ =>
      obtain ⟨d0, p0⟩ := x0
      obtain ⟨d1, p1⟩ := x1
      obtain ⟨d2, p2⟩ := x2
      subst e0
      subst e1
      subst e2
      have k0 := bools_of_struct (cs := [c0, c1]) h0
      have k1 := bools_of_struct (cs := [c2, c3]) h1
      have k2 := bools_of_struct (cs := [c4, c5]) h2
      simp only [List.cons.injEq, and_true] at k0 k1 k2
      obtain ⟨rfl, rfl⟩ := k0
      obtain ⟨rfl, rfl⟩ := k1
      obtain ⟨rfl, rfl⟩ := k2
      intro i hi
      rw [hcell i, hcs]
      rcases (show i = 0 ∨ i = 1 ∨ i = 2 ∨ i = 3 ∨ i = 4 ∨ i = 5 by omega) with rfl | rfl | rfl | rfl | rfl | rfl <;> rfl
end Go.Proofs.YtdbhlnokhfflmaaDoor
