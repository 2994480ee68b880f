import Derived.Test.YtdbhlnokhfflmaaDoorTermE
namespace Go.Proofs.YtdbhlnokhfflmaaDoor
open Go.RowKit
set_option maxRecDepth 100000

set_option maxHeartbeats 4000000 in
theorem read_long (s a1 t sub see : ByteArray) (f1 f2 : Bool) (w : World) (hF : FormsIs w) (hz : 240 < s.size)
    (hC1 : ∀ w, Calls Tryd.prog 23 #[.string s, .string ⟨#[59]⟩] w fun e w' => e = .returned (.tuple #[.string a1, .string sub, .bool f1]) ∧ Below w.heap.size w w')
    (hC2 : ∀ w, Calls Tryd.prog 23 #[.string a1, .string ⟨#[62]⟩] w fun e w' => e = .returned (.tuple #[.string t, .string see, .bool f2]) ∧ Below w.heap.size w w') :
    Calls Tryd.prog 18 #[.string s] w fun e w' => e = .returned noneV ∧ Below w.heap.size w w' := by
  have g1 : 240 < (s.size : Int) := by omega
  have HF := Lib.hid hF
  clear hF
  obtain ⟨G, hGs⟩ : ∃ G, w.heap.size = G := ⟨_, rfl⟩
  have HS0 := Lib.hid (fun t1 t2 t3 => St.start hGs t1 t2 t3)
  go_enter Tryd.func18, Tryd.ntmps18
  go_wp2_with (first
    | (go_at_call 23; (with_reducible refine (hC1 _).mono ?_); rintro e w2 ⟨rfl, hb2⟩; have S2 := (HS0.out 40 40 48).below hb2; obtain ⟨⟨k0, k1, k2, k3, k4⟩, l0, l1, l2, l3, l4⟩ := S2.facts; have S2 := Lib.hid S2; clear hb2)
    | (go_at_call 23; (with_reducible refine (hC2 _).mono ?_); rintro e w3 ⟨rfl, hb3⟩; have S3 := (S2.out.set1 _ _ _).below hb3; obtain ⟨⟨k0, k1, k2, k3, k4⟩, l0, l1, l2, l3, l4⟩ := S3.facts; have S3 := Lib.hid S3; clear hb3))
  have S4 := S3.out.set2 t see f2
  generalize ((w3.setCell ⟨G + 1, 0, none⟩ (.string t)).setCell ⟨G + 1, 2, none⟩ (.string see)).setCell ⟨G + 1 + 1, 1, none⟩ (.bool f2) = W at S4 ⊢
  obtain ⟨⟨k0, k1, k2, k3, k4⟩, l0, l1, l2, l3, l4⟩ := S4.facts
  have hd : decide (240 < (s.size : Int)) = true := decide_eq_true (by omega)
  have u0 := under_cell k0
  have u1 := under_cell k1
  have u2 := under_cell k2
  have u3 := under_cell k3
  have u4 := under_cell k4
  refine wp_region_under W (by kernel_rfl) (by kernel_rfl) (Below.refl _ _) ?_
  repeat (go_big_quiet_step (fail))
  refine wpQuiet_nil ?_
  intro w8 hw8
  obtain ⟨u, hu⟩ := hw8
  obtain ⟨w9, hw9⟩ : ∃ w9, u.at = w9 := ⟨_, rfl⟩
  rw [hw9] at hu
  subst hu
  have S9 := S4.below (hw9 ▸ u.ok)
  obtain ⟨⟨y0, y1, y2, y3, y4⟩, -, -, -, -, -⟩ := S9.facts
  obtain ⟨x5, y5⟩ := S9.r 0 (by simp)
  obtain ⟨x6, y6⟩ := S9.r 1 (by simp)
  obtain ⟨x7, y7⟩ := S9.r 2 (by simp)
  simp only [List.getElem?_cons_zero, List.getElem?_cons_succ] at x5 x6 x7
  have S9 := Lib.hid S9
  clear u0 u1 u2 u3 u4 k0 k1 k2 k3 k4 l0 l1 l2 l3 l4 S4 hw9 u
  go_wp2
  refine bodyPost_ret (ret_parts rfl rfl (S9.out.r.put3 _ _ _)) rfl ?_
  exact ⟨rfl, hGs ▸ Below.put3 S9.out.bel (Nat.le_of_eq hGs) _ _ _⟩

def readV : Option Parts → Value
  | some p => someV (bT p.1) (bT p.2.1) (bT p.2.2)
  | none => noneV
theorem cutA_le (c : UInt8) (l : List UInt8) : (cutA c l).length ≤ l.length := by
  have h1 := trim_len (l.takeWhile (fun x => x != c))
  have h2 := (List.takeWhile_prefix (l := l) (fun x => x != c)).length_le
  unfold cutA; omega
theorem cutB_le (c : UInt8) (l : List UInt8) : (cutB c l).length ≤ l.length := by
  have h1 := trim_len ((l.dropWhile (fun x => x != c)).drop 1)
  have h2 := (List.dropWhile_suffix (l := l) (fun x => x != c)).length_le
  rw [List.length_drop] at h1
  unfold cutB; omega
theorem read_c (s : ByteArray) (w : World) (hF : FormsIs w) (hs : s.size ≤ 140737488351232) :
    Calls Tryd.prog 18 #[.string s] w fun e w' => e = .returned (readV (parseL s.data.toList)) ∧ Below w.heap.size w w' := by
  have hz : s.data.toList.length = s.size := by simp
  have hA : (bT (cutA 59 s.data.toList)).size ≤ s.size := by rw [bT_size, ← hz]; exact cutA_le _ _
  have hC1 := fun w => cut_c s 59 w hs
  have hC2 := fun w => cut_c (bT (cutA 59 s.data.toList)) 62 w (by omega)
  rw [bT_list] at hC2
  by_cases hl : 240 < s.size
  · have hp : parseL s.data.toList = none := by unfold parseL; rw [if_pos (by omega)]
    rw [hp]
    exact read_long s _ _ _ _ _ _ w hF hl hC1 hC2
  · have z1 := cutA_le 62 (cutA 59 s.data.toList)
    have z2 := cutA_le 59 s.data.toList
    have z3 := cutB_le 59 s.data.toList
    have z4 := cutB_le 62 (cutA 59 s.data.toList)
    have hP1 := fun w => mayPart_c (bT (cutA 62 (cutA 59 s.data.toList))) w (by rw [bT_size]; omega)
    have hP2 := fun w => mayPart_c (bT (cutB 59 s.data.toList)) w (by rw [bT_size]; omega)
    have hP3 := fun w => mayPart_c (bT (cutB 62 (cutA 59 s.data.toList))) w (by rw [bT_size]; omega)
    rw [bT_list] at hP1 hP2 hP3
    refine (read_walk s _ _ _ _ _ _ _ _ _ _ w hF (by omega) rfl hC1 hC2 hP1 hP2 hP3).mono ?_
    rintro e w' ⟨rfl, hb⟩
    refine ⟨congrArg Ending.returned ?_, hb⟩
    rw [← read_same]
    unfold readL
    have hlen : s.data.toList.length ≤ 240 := by omega
    simp only [hlen, true_and]
    generalize cutF 59 s.data.toList = f1
    generalize cutF 62 (cutA 59 s.data.toList) = f2
    generalize partB (cutA 62 (cutA 59 s.data.toList)) = p1
    generalize partB (cutB 59 s.data.toList) = p2
    generalize partB (cutB 62 (cutA 59 s.data.toList)) = p3
    cases f1 <;> cases f2 <;> cases p1 <;> cases p2 <;> cases p3 <;> simp [readV]
theorem results_tmp4 {fn : Func} {a b c d : Tmp} (h : fn.results = #[.tmp a, .tmp b, .tmp c, .tmp d]) (tmps : Array Value) (P : Program) (w : World) :
    (results fn tmps).run P w = .ok (.tuple #[tmps.getD a undef, tmps.getD b undef, tmps.getD c undef, tmps.getD d undef]) w := by simp [results, h]
def parseV : Option Parts → Value
  | some p => .tuple #[.string (bT p.1), .string (bT p.2.1), .string (bT p.2.2), .int .i64 0]
  | none => .tuple #[.string ⟨#[]⟩, .string ⟨#[]⟩, .string ⟨#[]⟩, .int .i64 4]
set_option maxHeartbeats 1000000 in
theorem parse_c (s : ByteArray) (w : World) (hF : FormsIs w) (hs : s.size ≤ 140737488351232) :
    Calls Tryd.prog 15 #[.string s] w fun e w' => e = .returned (parseV (parseL s.data.toList)) ∧ Below w.heap.size w w' := by
  have hR := read_c s w hF hs
  cases hp : parseL s.data.toList with
  | none =>
    rw [hp] at hR
    unfold readV noneV at hR
    unfold parseV
    clear hp
    go_enter Tryd.func15, Tryd.ntmps15
    go_wp2_with (go_at_call 18; refine hR.mono ?_; rintro e w2 ⟨rfl, hb2⟩)
    refine bodyPost_ret (results_tmp4 rfl _ _ _) rfl ?_
    exact ⟨rfl, hb2.alloc hb2.size _⟩
  | some p =>
    obtain ⟨a, b, c⟩ := p
    rw [hp] at hR
    unfold readV someV at hR
    unfold parseV
    simp only at hR ⊢
    generalize bT a = a at *
    generalize bT b = b at *
    generalize bT c = c at *
    clear hp
    go_enter Tryd.func15, Tryd.ntmps15
    go_wp2_with (go_at_call 18; refine hR.mono ?_; rintro e w2 ⟨rfl, hb2⟩)
    go_quiet (fail)
    go_wp2
    refine bodyPost_ret (results_tmp4 rfl _ _ _) rfl ?_
    exact ⟨rfl, below_drewN (hb2.alloc hb2.size _) _⟩
end Go.Proofs.YtdbhlnokhfflmaaDoor
