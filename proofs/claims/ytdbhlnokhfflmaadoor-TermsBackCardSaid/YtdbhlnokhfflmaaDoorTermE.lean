import Derived.Test.YtdbhlnokhfflmaaDoorTermD
import Derived.Laws.StructEq
import Derived.Laws.ResultCell
namespace Go.Proofs.YtdbhlnokhfflmaaDoor
open Go.RowKit
set_option maxRecDepth 100000

/-! ### a block's cells, that may be written -/
def RowV (w : World) (g : Nat) (vs : List Value) : Prop := ∀ j, j < vs.length → w.cell? ⟨g, j, none⟩ = vs[j]? ∧ w.frozen? ⟨g, j, none⟩ = false
theorem RowV.below {w w' : World} {g B : Nat} {vs : List Value} (h : RowV w g vs) (hb : Below B w w') (hB : g < B) : RowV w' g vs :=
  fun j hj => ⟨(hb.cell (p := ⟨g, j, none⟩) hB).trans (h j hj).1, (hb.frozen (p := ⟨g, j, none⟩) hB).trans (h j hj).2⟩
theorem RowV.laid (w : World) (vs : List Value) (t : TypeId) : RowV (w.alloc (.cells vs.toArray t)) w.heap.size vs := fun j hj => by
  refine ⟨by rw [World.cell?_alloc_new]; simp, ?_⟩
  simp only [World.frozen?_alloc_new]
theorem RowV.alloc {w : World} {g : Nat} {vs : List Value} (h : RowV w g vs) (hg : g < w.heap.size) (o : Obj) : RowV (w.alloc o) g vs := h.below (laidNew w o) hg
theorem RowV.set {w : World} {g : Nat} {vs : List Value} (h : RowV w g vs) (k : Nat) (hk : k < vs.length) (v : Value) : RowV (w.setCell ⟨g, k, none⟩ v) g (vs.set k v) := by
  intro j hj
  have hj' : j < vs.length := by simpa using hj
  refine ⟨?_, by rw [World.frozen?_setCell]; exact (h j hj').2⟩
  by_cases e : j = k
  · subst e
    rw [World.cell?_setCell_same' _ _ _ (by rw [(h j hj').1]; simp [hj'])]
    simp [hk]
  · have hne : (⟨g, k, none⟩ : Addr) ≠ ⟨g, j, none⟩ := by intro h0; injection h0; omega
    rw [World.cell?_setCell_other _ _ _ _ hne, (h j hj').1, List.getElem?_set_ne (Ne.symm e)]
theorem RowV.other {w : World} {g g' : Nat} {vs : List Value} (h : RowV w g vs) (hg : g ≠ g') (k : Nat) (v : Value) : RowV (w.setCell ⟨g', k, none⟩ v) g vs := by
  intro j hj
  refine ⟨?_, by rw [World.frozen?_setCell]; exact (h j hj).2⟩
  have hne : (⟨g', k, none⟩ : Addr) ≠ ⟨g, j, none⟩ := by intro h0; injection h0; omega
  rw [World.cell?_setCell_other _ _ _ _ hne, (h j hj).1]

theorem eqF (a b c d : Bool) (w : World) : (Op.equalIn 10000 48 (.agg #[.bool a, .bool b]) (.agg #[.bool c, .bool d])).run Tryd.prog w = .ok (a == c && b == d) w := by
  have hS : Tryd.prog.underlying 48 = some (.struct (Tryd.prog.fieldsOf 48)) := by kernel_rfl
  have hp : Tryd.prog.stoodInHeld 48 = false := by kernel_rfl
  have u9 := Tryd.underlying4
  have a9 := Tryd.isAgg4
  have z9 := Tryd.sizeOf4
  rw [show (10000 : Nat) = 9999 + 1 from rfl, run_equalIn_agg w 9999 48 _ _ hS hp]
  simp only [Program.fieldsOf, Tryd.underlying48]
  go_simp
  cases a <;> cases b <;> cases c <;> cases d <;> simp
theorem neqF (a b c d : Bool) (w : World) : (binOp .neq 48 (.agg #[.bool a, .bool b]) (.agg #[.bool c, .bool d])).run Tryd.prog w = .ok (.bool (!(a == c && b == d))) w := by
  rw [run_neq_struct, eqF]; rfl
theorem guardF (x y : Operand) (xs ys : Array Value) (w : World) : (eqGuard .neq 48 x y (.agg xs) (.agg ys)).run Tryd.prog w = .ok () w :=
  run_eqGuard_agg w .neq 48 x y xs ys (by kernel_rfl)

/-! ### terms.read -/
def noneV : Value := .tuple #[.agg #[.string ⟨#[]⟩, .string ⟨#[]⟩, .string ⟨#[]⟩], .bool false]
def someV (a b c : ByteArray) : Value := .tuple #[.agg #[.string a, .string b, .string c], .bool true]
/-- where read keeps its parts and its form -/
structure St (w : World) (G : Nat) (w' : World) (a b c : ByteArray) (x y : Bool) : Prop where
  bel : Below w.heap.size w w'
  gs : w.heap.size = G
  p : RowV w' (G + 1) [.string a, .string b, .string c]
  f : RowV w' (G + 1 + 1) [.bool x, .bool y]
  lt : G + 1 + 1 < w'.heap.size
  r : RowV w' G [.string ⟨#[]⟩, .string ⟨#[]⟩, .string ⟨#[]⟩]
theorem St.start {w : World} {G : Nat} (h : w.heap.size = G) (t1 t2 t3 : TypeId) :
    St w G (((w.alloc (.cells #[.string ⟨#[]⟩, .string ⟨#[]⟩, .string ⟨#[]⟩] t1)).alloc (.cells #[.string ⟨#[]⟩, .string ⟨#[]⟩, .string ⟨#[]⟩] t2)).alloc (.cells #[.bool false, .bool false] t3)) ⟨#[]⟩ ⟨#[]⟩ ⟨#[]⟩ false false := by
  have z1 : (w.alloc (.cells #[.string ⟨#[]⟩, .string ⟨#[]⟩, .string ⟨#[]⟩] t1)).heap.size = G + 1 := by rw [← h]; exact Array.size_push ..
  have z2 : ((w.alloc (.cells #[.string ⟨#[]⟩, .string ⟨#[]⟩, .string ⟨#[]⟩] t1)).alloc (.cells #[.string ⟨#[]⟩, .string ⟨#[]⟩, .string ⟨#[]⟩] t2)).heap.size = G + 1 + 1 := by rw [← z1]; exact Array.size_push ..
  have p0 := RowV.laid (w.alloc (.cells #[.string ⟨#[]⟩, .string ⟨#[]⟩, .string ⟨#[]⟩] t1)) [.string ⟨#[]⟩, .string ⟨#[]⟩, .string ⟨#[]⟩] t2
  have f0 := RowV.laid ((w.alloc (.cells #[.string ⟨#[]⟩, .string ⟨#[]⟩, .string ⟨#[]⟩] t1)).alloc (.cells #[.string ⟨#[]⟩, .string ⟨#[]⟩, .string ⟨#[]⟩] t2)) [.bool false, .bool false] t3
  have r0 := RowV.laid w [.string ⟨#[]⟩, .string ⟨#[]⟩, .string ⟨#[]⟩] t1
  rw [h] at r0
  rw [z1] at p0
  rw [z2] at f0
  exact ⟨behind (behind (laidNew w _) (laidNew _ _)) (laidNew _ _), h, p0.alloc (by rw [z2]; omega) _, f0, by
    have : (((w.alloc (.cells #[.string ⟨#[]⟩, .string ⟨#[]⟩, .string ⟨#[]⟩] t1)).alloc (.cells #[.string ⟨#[]⟩, .string ⟨#[]⟩, .string ⟨#[]⟩] t2)).alloc (.cells #[.bool false, .bool false] t3)).heap.size = G + 1 + 1 + 1 := by rw [← z2]; exact Array.size_push ..
    omega, (r0.alloc (by rw [z1]; omega) _).alloc (by rw [z2]; omega) _⟩
theorem St.below {w : World} {G : Nat} {w1 w2 : World} {a b c : ByteArray} {x y : Bool} (h : St w G w1 a b c x y) (hb : Below w1.heap.size w1 w2) : St w G w2 a b c x y :=
  ⟨behind h.bel hb, h.gs, h.p.below hb (by have := h.lt; omega), h.f.below hb h.lt, by have := h.lt; have := hb.size; omega, h.r.below hb (by have := h.lt; omega)⟩
theorem St.set1 {w : World} {G : Nat} {w1 : World} {a b c : ByteArray} {x y : Bool} (h : St w G w1 a b c x y) (a' b' : ByteArray) (x' : Bool) :
    St w G (((w1.setCell ⟨G + 1, 0, none⟩ (.string a')).setCell ⟨G + 1, 1, none⟩ (.string b')).setCell ⟨G + 1 + 1, 0, none⟩ (.bool x')) a' b' c x' y :=
  ⟨((h.bel.setCell (by have := h.gs; simp; omega) _).setCell (by have := h.gs; simp; omega) _).setCell (by have := h.gs; simp; omega) _, h.gs,
    (((h.p.set 0 (by simp) (.string a')).set 1 (by simp) (.string b')).other (by omega) 0 _),
    (((h.f.other (by omega) 0 _).other (by omega) 1 _).set 0 (by simp) (.bool x')), by simpa using h.lt, ((h.r.other (by omega) 0 _).other (by omega) 1 _).other (by omega) 0 _⟩
theorem St.set2 {w : World} {G : Nat} {w1 : World} {a b c : ByteArray} {x y : Bool} (h : St w G w1 a b c x y) (a' c' : ByteArray) (y' : Bool) :
    St w G (((w1.setCell ⟨G + 1, 0, none⟩ (.string a')).setCell ⟨G + 1, 2, none⟩ (.string c')).setCell ⟨G + 1 + 1, 1, none⟩ (.bool y')) a' b c' x y' :=
  ⟨((h.bel.setCell (by have := h.gs; simp; omega) _).setCell (by have := h.gs; simp; omega) _).setCell (by have := h.gs; simp; omega) _, h.gs,
    (((h.p.set 0 (by simp) (.string a')).set 2 (by simp) (.string c')).other (by omega) 1 _),
    (((h.f.other (by omega) 0 _).other (by omega) 2 _).set 1 (by simp) (.bool y')), by simpa using h.lt, ((h.r.other (by omega) 0 _).other (by omega) 2 _).other (by omega) 1 _⟩
theorem St.facts {w : World} {G : Nat} {w1 : World} {a b c : ByteArray} {x y : Bool} (h : St w G w1 a b c x y) :
    (w1.cell? ⟨G + 1, 0, none⟩ = some (.string a) ∧ w1.cell? ⟨G + 1, 1, none⟩ = some (.string b) ∧ w1.cell? ⟨G + 1, 2, none⟩ = some (.string c) ∧ w1.cell? ⟨G + 1 + 1, 0, none⟩ = some (.bool x) ∧ w1.cell? ⟨G + 1 + 1, 1, none⟩ = some (.bool y)) ∧
    (w1.frozen? ⟨G + 1, 0, none⟩ = false ∧ w1.frozen? ⟨G + 1, 1, none⟩ = false ∧ w1.frozen? ⟨G + 1, 2, none⟩ = false ∧ w1.frozen? ⟨G + 1 + 1, 0, none⟩ = false ∧ w1.frozen? ⟨G + 1 + 1, 1, none⟩ = false) :=
  ⟨⟨(h.p 0 (by simp)).1, (h.p 1 (by simp)).1, (h.p 2 (by simp)).1, (h.f 0 (by simp)).1, (h.f 1 (by simp)).1⟩,
   (h.p 0 (by simp)).2, (h.p 1 (by simp)).2, (h.p 2 (by simp)).2, (h.f 0 (by simp)).2, (h.f 1 (by simp)).2⟩
theorem RowV.parts {w : World} {G : Nat} {a b c : ByteArray} (r : RowV w G [.string a, .string b, .string c]) : w.cell? ⟨G, 0, none⟩ = some (.string a) ∧ w.cell? ⟨G, 1, none⟩ = some (.string b) ∧ w.cell? ⟨G, 2, none⟩ = some (.string c) :=
  ⟨(r 0 (by simp)).1, (r 1 (by simp)).1, (r 2 (by simp)).1⟩
theorem load_parts {w : World} {G : Nat} {a b c : ByteArray} (r : RowV w G [.string a, .string b, .string c]) : (loadVar 40 ⟨G, 0, none⟩).run Tryd.prog w = .ok (.agg #[.string a, .string b, .string c]) w := by
  obtain ⟨h0, h1, h2⟩ := r.parts
  unfold loadVar
  go_simp
theorem ret_parts {w : World} {G : Nat} {a b c : ByteArray} {k : Bool} {tmps : Array Value} (hp : tmps.getD 2 undef = .pointer (some ⟨G, 0, none⟩)) (hu : tmps.getD 3 undef = .bool k) (r : RowV w G [.string a, .string b, .string c]) :
    (results Tryd.f18 tmps).run Tryd.prog w = .ok (.tuple #[.agg #[.string a, .string b, .string c], .bool k]) w := by
  rw [results_cell_tmp (p := 2) (u := 3) (ty := 40) rfl, hp, hu]
  simp only [asAddr, Sem.run_pure, Result.andThen_ok, load_parts r]
theorem RowV.put3 {w : World} {G : Nat} {x y z : Value} (r : RowV w G [x, y, z]) (a b c : Value) : RowV (((w.setCell ⟨G, 0, none⟩ a).setCell ⟨G, 1, none⟩ b).setCell ⟨G, 2, none⟩ c) G [a, b, c] :=
  ((r.set 0 (by simp) a).set 1 (by simp) b).set 2 (by simp) c
theorem Below.put3 {B : Nat} {a w : World} {G : Nat} (h : Below B a w) (hG : B ≤ G) (x y z : Value) : Below B a (((w.setCell ⟨G, 0, none⟩ x).setCell ⟨G, 1, none⟩ y).setCell ⟨G, 2, none⟩ z) :=
  ((h.setCell hG _).setCell hG _).setCell hG _
set_option maxHeartbeats 4000000 in
theorem read_walk (s a1 t sub see : ByteArray) (f1 f2 p1 p2 p3 m : Bool) (w : World) (hF : FormsIs w) (hz : s.size ≤ 240) (hm : (!(f1 && f2)) = m)
    (hC1 : ∀ w, Calls Tryd.prog 23 #[.string s, .string ⟨#[59]⟩] w fun e w' => e = .returned (.tuple #[.string a1, .string sub, .bool f1]) ∧ Below w.heap.size w w')
    (hC2 : ∀ w, Calls Tryd.prog 23 #[.string a1, .string ⟨#[62]⟩] w fun e w' => e = .returned (.tuple #[.string t, .string see, .bool f2]) ∧ Below w.heap.size w w')
    (hP1 : ∀ w, Calls Tryd.prog 25 #[.string t] w fun e w' => e = .returned (.bool p1) ∧ Below w.heap.size w w')
    (hP2 : ∀ w, Calls Tryd.prog 25 #[.string sub] w fun e w' => e = .returned (.bool p2) ∧ Below w.heap.size w w')
    (hP3 : ∀ w, Calls Tryd.prog 25 #[.string see] w fun e w' => e = .returned (.bool p3) ∧ Below w.heap.size w w') :
    Calls Tryd.prog 18 #[.string s] w fun e w' => e = .returned (if m = true ∧ p1 = true ∧ (!(f1 == p2 && f2 == p3)) = false then someV t sub see else noneV) ∧ Below w.heap.size w w' := by
  have hM := fun w h => may_c f1 f2 w h
  rw [hm] at hM
  have g1 : ¬ 240 < (s.size : Int) := by omega
  have hN := fun w => neqF f1 f2 p2 p3 w
  have hG := fun x y w => guardF x y #[.bool f1, .bool f2] #[.bool p2, .bool p3] w
  clear hm
  generalize (!(f1 == p2 && f2 == p3)) = q at *
  have HF := Lib.hid hF
  clear hF
  obtain ⟨G, hGs⟩ : ∃ G, w.heap.size = G := ⟨_, rfl⟩
  have HS0 := Lib.hid (fun t1 t2 t3 => St.start hGs t1 t2 t3)
  cases m <;> cases p1
  all_goals
    go_enter Tryd.func18, Tryd.ntmps18
    go_wp2_with (first
      | (go_at_call 23; (with_reducible refine (hC1 _).mono ?_); rintro e w2 ⟨rfl, hb2⟩; have S2 := (HS0.out 40 40 48).below hb2; obtain ⟨⟨k0, k1, k2, k3, k4⟩, l0, l1, l2, l3, l4⟩ := S2.facts; have S2 := Lib.hid S2; clear hb2)
      | (go_at_call 23; (with_reducible refine (hC2 _).mono ?_); rintro e w3 ⟨rfl, hb3⟩; have S3 := (S2.out.set1 _ _ _).below hb3; obtain ⟨⟨k0, k1, k2, k3, k4⟩, l0, l1, l2, l3, l4⟩ := S3.facts; have S3 := Lib.hid S3; clear hb3))
    have S4 := S3.out.set2 t see f2
    generalize ((w3.setCell ⟨G + 1, 0, none⟩ (.string t)).setCell ⟨G + 1, 2, none⟩ (.string see)).setCell ⟨G + 1 + 1, 1, none⟩ (.bool f2) = W at S4 ⊢
    have HFW := HF.out.below S4.bel
    have hMU := fun x : Under W => hM x.at (HFW.below x.ok)
    obtain ⟨⟨k0, k1, k2, k3, k4⟩, l0, l1, l2, l3, l4⟩ := S4.facts
    have hd : decide (240 < (s.size : Int)) = false := decide_eq_false (by omega)
    have u0 := under_cell k0
    have u1 := under_cell k1
    have u2 := under_cell k2
    have u3 := under_cell k3
    have u4 := under_cell k4
    refine wp_region_under W (by kernel_rfl) (by kernel_rfl) (Below.refl _ _) ?_
    repeat (go_big_quiet_step (first
      | (go_at_call 24; (with_reducible exact under_call (hMU _)))
      | (go_at_call 25; first | (with_reducible exact under_call (hP1 _)) | (with_reducible exact under_call (hP2 _)) | (with_reducible exact under_call (hP3 _)))))
    refine wpQuiet_nil ?_
    intro w8 hw8
    obtain ⟨u, hu⟩ := hw8
    obtain ⟨w9, hw9⟩ : ∃ w9, u.at = w9 := ⟨_, rfl⟩
    rw [hw9] at hu
    subst hu
    have S9 := S4.below (hw9 ▸ u.ok)
    obtain ⟨⟨y0, y1, y2, y3, y4⟩, -, -, -, -, -⟩ := S9.facts
    obtain ⟨x5, y5⟩ := S9.r 0 (by simp)
    obtain ⟨x6, y6⟩ := S9.r 1 (by simp)
    obtain ⟨x7, y7⟩ := S9.r 2 (by simp)
    simp only [List.getElem?_cons_zero, List.getElem?_cons_succ] at x5 x6 x7
    have S9 := Lib.hid S9
    clear u0 u1 u2 u3 u4 k0 k1 k2 k3 k4 l0 l1 l2 l3 l4 hMU HFW S4 hw9 u
  · cases q
    all_goals
      go_wp2
      refine bodyPost_ret (ret_parts rfl rfl (S9.out.r.put3 _ _ _)) rfl ?_
      exact ⟨rfl, hGs ▸ Below.put3 S9.out.bel (Nat.le_of_eq hGs) _ _ _⟩
  · cases q
    all_goals
      go_wp2
      refine bodyPost_ret (ret_parts rfl rfl (S9.out.r.put3 _ _ _)) rfl ?_
      exact ⟨rfl, hGs ▸ Below.put3 S9.out.bel (Nat.le_of_eq hGs) _ _ _⟩
  · cases q
    all_goals
      go_wp2
      refine bodyPost_ret (ret_parts rfl rfl (S9.out.r.put3 _ _ _)) rfl ?_
      exact ⟨rfl, hGs ▸ Below.put3 S9.out.bel (Nat.le_of_eq hGs) _ _ _⟩
  · cases q
    all_goals
      go_wp2
      refine bodyPost_ret (ret_parts rfl rfl (S9.out.r.put3 _ _ _)) rfl ?_
      exact ⟨rfl, hGs ▸ Below.put3 S9.out.bel (Nat.le_of_eq hGs) _ _ _⟩
end Go.Proofs.YtdbhlnokhfflmaaDoor
