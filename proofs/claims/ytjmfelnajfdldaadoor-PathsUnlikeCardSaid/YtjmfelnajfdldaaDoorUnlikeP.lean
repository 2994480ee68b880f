/-
  PathsUnlike: unlike names have unlike pages, and unlike anchors on one page unlike links, which begin with the page; a page of a name is a file's name just if it has at most 60 bytes; for any three texts of at most 1048576 bytes together, and true is answered beyond. The row lists two tables of the library, tied to the program's text; no condition: every three strings that can be read.
-/
import Derived.Test.YtjmfelnajfdldaaDoorCards
import Derived.Test.YtjmfelnajfdldaaDoorTie
import Derived.Test.YtjmfelnajfdldaaDoorAlive02
import Derived.Test.YtjmfelnajfdldaaDoorWitness
namespace Go.Proofs.YtjmfelnajfdldaaDoor.unlikeLaw
open Go.ChangeShapes Go.WideShapes Go.ChangeAt Go.RowKit
open Go.ChangeMaps (open_string)
set_option maxRecDepth 100000

/-- a page -/
def pageA (s : ByteArray) : ByteArray := s ++ ⟨#[46, 104, 116, 109, 108]⟩
theorem page_k (s : ByteArray) (w : World) (hs : s.size ≤ 140737488351232) : Calls Tryd.prog 13 #[.string s] w fun e w' => e = .returned (.string (pageA s)) ∧ w = w' := page_any s w hs
theorem page_inj {a b : ByteArray} (h : pageA a = pageA b) : a = b := cat_right a b _ h
theorem page_size (a : ByteArray) : (pageA a).size = a.size + 5 := by unfold pageA; rw [cat_size]; rfl
theorem page_data (a : ByteArray) : (pageA a).data.toList = a.data.toList ++ 46 :: html := by unfold pageA; rw [cat_data]; rfl
theorem page_check (a : ByteArray) (h : checkB a.data.toList = true) : checkB (pageA a).data.toList = decide ((pageA a).size ≤ 60) := by
  rw [page_data, check_page _ h, page_size, decide_eq_decide]
  simp
theorem link_size (page a : ByteArray) : page.size ≤ (linkA page a).size := by
  unfold linkA
  split
  · exact Nat.le_refl _
  · rw [cat_size, cat_size]; omega
theorem link_inj {page a b : ByteArray} (h : linkA page a = linkA page b) : a = b := by
  have hz : ∀ c : ByteArray, (page ++ ⟨#[35]⟩ ++ c).size = page.size + 1 + c.size := fun c => by rw [cat_size, cat_size]; rfl
  unfold linkA at h
  by_cases ha : a = ⟨#[]⟩ <;> by_cases hb : b = ⟨#[]⟩
  · rw [ha, hb]
  · rw [if_pos ha, if_neg hb] at h
    have := congrArg ByteArray.size h
    rw [hz] at this; omega
  · rw [if_neg ha, if_pos hb] at h
    have := congrArg ByteArray.size h
    rw [hz] at this; omega
  · rw [if_neg ha, if_neg hb] at h
    exact cat_left a b _ h
theorem link_begins (page a : ByteArray) : (linkA page a).extract 0 page.size = page := by
  apply data_inj
  rw [Lib.extract_data]
  unfold linkA
  split
  · simp [List.take_of_length_le]
  · rw [cat_data, cat_data, List.append_assoc]
    simp

/-- texts are the same just if their bytes are -/
theorem beq_same (a : ByteArray) : (a.toList == a.toList) = true := by simp
theorem beq_other {a b : ByteArray} (h : ¬ a = b) : (a.toList == b.toList) = false := by
  rw [beq_eq_false_iff_ne, Lib.toList_data, Lib.toList_data]
  exact fun e => h (data_inj e)

/-- what the walk wants of pages and links: names of their own, and the tests on them -/
theorem facts (a b page : ByteArray) : ∃ (x y p q : ByteArray) (r : Bool), pageA a = x ∧ pageA b = y ∧ linkA page a = p ∧ linkA page b = q ∧ (a.toList == b.toList) = r ∧ (x.toList == y.toList) = r ∧ (p.toList == q.toList) = r ∧
    x.size = a.size + 5 ∧ page.size ≤ p.size ∧ ((p.extract 0 page.size).toList == page.toList) = true := by
  refine ⟨_, _, _, _, decide (a = b), rfl, rfl, rfl, rfl, ?_, ?_, ?_, page_size a, link_size _ _, by rw [link_begins]; exact beq_same _⟩
  · by_cases h : a = b
    · subst h; simp
    · rw [decide_eq_false h]; exact beq_other h
  · by_cases h : a = b
    · subst h; simp
    · rw [decide_eq_false h]; exact beq_other fun e => h (page_inj e)
  · by_cases h : a = b
    · subst h; simp
    · rw [decide_eq_false h]; exact beq_other fun e => h (link_inj e)

theorem page_x {a x : ByteArray} (h : pageA a = x) (w : World) (hs : a.size ≤ 140737488351232) : Calls Tryd.prog 13 #[.string a] w fun e w' => e = .returned (.string x) ∧ w = w' := by subst h; exact page_k a w hs
theorem link_x {page a p : ByteArray} (h : linkA page a = p) (w : World) (h1 : page.size ≤ 140737488351232) (h2 : a.size ≤ 140737488351232) : Calls Tryd.prog 14 #[.string page, .string a] w fun e w' => e = .returned (.string p) ∧ w = w' := by subst h; exact link_any page a w h1 h2

set_option maxHeartbeats 2000000 in
theorem walk (a : ByteArray) (_hs : a.size ≤ maxLen) (ha : a.size ≤ 140737488351232) (b : ByteArray) (_ht : b.size ≤ maxLen) (hb : b.size ≤ 140737488351232) (page : ByteArray) (_hu : page.size ≤ maxLen) (hp : page.size ≤ 140737488351232) (W : World) :
    Calls Tryd.prog 6 #[.string a, .string b, .string page] W fun e w' => e = .returned (.bool true) ∧ Below W.heap.size W w' := by
  obtain ⟨x, y, p, q, r, h1, h2, h3, h4, h5, h6, h7, h8, h9, h10⟩ := facts a b page
  have HP := Lib.hid (page_check a)
  rw [h1] at HP
  have H1 := Lib.hid h1
  have H2 := Lib.hid h2
  have H3 := Lib.hid h3
  have H4 := Lib.hid h4
  have H5 := Lib.hid h5
  have H6 := Lib.hid h6
  have H7 := Lib.hid h7
  have H8 : Hid (((x.size : Int) != (a.size : Int) + 5) = false) := by exact Lib.hid (by rw [h8]; simp)
  have H10 := Lib.hid h10
  clear h1 h2 h3 h4 h5 h6 h7 h8 h10
  go_enter Tryd.func6, Tryd.ntmps6
  go_wp2_with fail
  refine (alive_any W _ (Below.refl _ _)).mono ?_
  rintro e w1 ⟨rfl, hb1⟩
  go_wp2_with fail
  refine (beyond3 _ (a.size : Int) (b.size : Int) (page.size : Int) _ (by simp) (by simp) (by simp) (by omega) (by omega) (by omega)).mono ?_
  rintro e w2 ⟨rfl, hw2⟩
  have hb2 : Below W.heap.size W w2 := by rw [← hw2]; exact behind hb1 (laidNew _ _)
  clear hw2 hb1
  go_wp2_with fail
  · refine (alive_any W _ hb2).mono ?_
    rintro e w3 ⟨rfl, hb3⟩
    go_wp2
    go_ret
    exact ⟨rfl, hb3⟩
  · refine (page_x H1.out _ ha).mono ?_
    rintro e w' ⟨rfl, rfl⟩
    go_wp2_with fail
    refine (page_x H2.out _ hb).mono ?_
    rintro e w' ⟨rfl, rfl⟩
    have h5 := H5.out
    have h6 := H6.out
    have h8 := H8.out
    cases hc : checkB a.data.toList
    · have HC := Lib.hid hc
      clear hc
      go_wp2_with fail
      refine (check_k W a false HC.out _ hb2).mono ?_
      rintro e w3 ⟨rfl, hb3⟩
      go_wp2_with fail
      refine (link_x H3.out _ hp ha).mono ?_
      rintro e w' ⟨rfl, rfl⟩
      go_wp2_with fail
      refine (link_x H4.out _ hp hb).mono ?_
      rintro e w' ⟨rfl, rfl⟩
      have h7 := H7.out
      have h10 := H10.out
      go_wp2
      go_ret
      exact ⟨rfl, hb3⟩
    · have HX := Lib.hid (HP.out hc)
      have HC := Lib.hid hc
      clear hc
      by_cases hx : x.size ≤ 60
      · go_wp2_with fail
        refine (check_k W a true HC.out _ hb2).mono ?_
        rintro e w3 ⟨rfl, hb3⟩
        go_wp2_with fail
        refine (check_k W x true (by rw [HX.out]; exact decide_eq_true hx) _ hb3).mono ?_
        rintro e w4 ⟨rfl, hb4⟩
        have hd : decide ((x.size : Int) ≤ 60) = true := decide_eq_true (by omega)
        go_wp2_with fail
        refine (link_x H3.out _ hp ha).mono ?_
        rintro e w' ⟨rfl, rfl⟩
        go_wp2_with fail
        refine (link_x H4.out _ hp hb).mono ?_
        rintro e w' ⟨rfl, rfl⟩
        have h7 := H7.out
        have h10 := H10.out
        go_wp2
        go_ret
        exact ⟨rfl, hb4⟩
      · go_wp2_with fail
        refine (check_k W a true HC.out _ hb2).mono ?_
        rintro e w3 ⟨rfl, hb3⟩
        go_wp2_with fail
        refine (check_k W x false (by rw [HX.out]; exact decide_eq_false hx) _ hb3).mono ?_
        rintro e w4 ⟨rfl, hb4⟩
        have hd : decide ((x.size : Int) ≤ 60) = false := decide_eq_false (by omega)
        go_wp2_with fail
        refine (link_x H3.out _ hp ha).mono ?_
        rintro e w' ⟨rfl, rfl⟩
        go_wp2_with fail
        refine (link_x H4.out _ hp hb).mono ?_
        rintro e w' ⟨rfl, rfl⟩
        have h7 := H7.out
        have h10 := H10.out
        go_wp2
        go_ret
        exact ⟨rfl, hb4⟩

theorem readable : ∀ t ∈ #[9, 9, 9].toList, Tryd.prog.readableRec t = true ∧ t < Tryd.prog.types.size := by
  intro t ht
  have h : t ∈ ([9, 9, 9] : List TypeId) := ht
  simp only [List.mem_cons, List.not_mem_nil, or_false] at h
  rcases h with rfl | rfl | rfl
  · exact ⟨by kernel_rfl, of_decide_eq_true (by kernel_rfl)⟩
  · exact ⟨by kernel_rfl, of_decide_eq_true (by kernel_rfl)⟩
  · exact ⟨by kernel_rfl, of_decide_eq_true (by kernel_rfl)⟩

theorem contract (H : Type) (enc : TypeId × Value → H) (W : World) (base : Nat) (args : Array Value) (ds gs : List (DataW H)) (before : List MemPlace)
    (hval : ∀ (j : Nat) t v, Tryd.f6.params[j]? = some t → args[j]? = some v → Value.okWide Tryd.prog W .any base t v)
    (hW : DataW.Whole enc Tryd.prog Tryd.f6.params.toList Rows.pathsUnlikeSpec.vars false W args.toList ds gs before)
    (hz : (DataW.weightsEach Tryd.prog (Tryd.f6.params.toList ++ (OpenSpec.ofChange Rows.pathsUnlikeSpec).bare.plain.varTypes Tryd.prog) (ds ++ gs)).all (· ≤ reachBytes) = true) :
    Calls Tryd.prog 6 args W fun e W' => ∃ v, e = .returned v ∧ Rows.pathsUnlikeSpec.post enc Tryd.prog Tryd.f6 false true false false W args v W' := by
  have hW' := hW
  obtain ⟨p, q, hA, hV, rfl, hfz, hnd⟩ := hW
  rw [Tryd.params6] at hA hval
  obtain ⟨v0, vs0, d0, ds0, p0, q0, hargs0, rfl, rfl, h0, r0⟩ := trodAll_cons hA
  obtain ⟨v1, vs1, d1, ds1, p1, q1, hargs1, rfl, rfl, h1, r1⟩ := trodAll_cons r0
  obtain ⟨v2, vs2, d2, ds2, p2, q2, hargs2, rfl, rfl, h2, r2⟩ := trodAll_cons r1
  obtain ⟨rfl, rfl, rfl⟩ := trodAll_nil r2
  subst hargs1
  subst hargs2
  obtain rfl : args = #[v0, v1, v2] := by cases args; simp_all
  obtain ⟨rfl, rfl⟩ := trodVars_none hV
  obtain ⟨s0, rfl, rfl, rfl, hs0⟩ := string_arg (hval 0 9 v0 rfl rfl) h0
  have hr0 := string_reach hz (j := 0) (s := s0) rfl rfl
  obtain ⟨s1, rfl, rfl, rfl, hs1⟩ := string_arg (hval 1 9 v1 rfl rfl) h1
  have hr1 := string_reach hz (j := 1) (s := s1) rfl rfl
  obtain ⟨s2, rfl, rfl, rfl, hs2⟩ := string_arg (hval 2 9 v2 rfl rfl) h2
  have hr2 := string_reach hz (j := 2) (s := s2) rfl rfl
  refine (walk s0 hs0 hr0 s1 hs1 hr1 s2 hs2 hr2 W).mono fun e W' ⟨he, hb⟩ => ⟨_, he, law_post rfl rfl ?_ hW' rfl hb⟩
  rw [Tryd.params6]
  exact readable

theorem met (os : Os) : laidMet Tryd.prog Rows.pathsUnlikeRow.laid ((laidWorld os).forCall (fun _ _ => 0) ⟨#[], #[.string ⟨#[]⟩, .string ⟨#[]⟩, .string ⟨#[]⟩], []⟩).memory := laid_met os
theorem reads (os : Os) {H : Type} (enc : TypeId × Value → H) : ∃ places, DataW.whole enc Tryd.prog ((laidWorld os).forCall (fun _ _ => 0) ⟨#[], #[.string ⟨#[]⟩, .string ⟨#[]⟩, .string ⟨#[]⟩], []⟩).memory Tryd.f6.params.toList Rows.pathsUnlikeSpec.vars false (#[.string ⟨#[]⟩, .string ⟨#[]⟩, .string ⟨#[]⟩] : Array Value).toList 8 = some ([.lit (.string []), .lit (.string []), .lit (.string [])], [], places) :=
  ⟨[], by kernel_rfl⟩

set_option maxRecDepth 100000 in
theorem lifted (os : Os) (started : os.Started) (H : Type) (enc : TypeId × Value → H) (F : Stop.Interp) :
    ReturnsInHanded {} Tryd.checked os 6 .any ((OpenSpec.ofChange Rows.pathsUnlikeSpec).preRow enc Tryd.prog Tryd.f6 Rows.pathsUnlikeRow.domain false Rows.pathsUnlikeRow.laid) (((OpenSpec.ofChange Rows.pathsUnlikeSpec).at F).post enc Tryd.prog Tryd.f6 false true false false) := by
  obtain ⟨places, hx⟩ := reads os enc
  refine returnsInHanded_of_row (C := Tryd.checked) (s := OpenSpec.ofChange Rows.pathsUnlikeSpec) own started (by kernel_rfl) Tryd.func6
    (witness_row_at (enc := enc) (C := Tryd.checked) false (laidWorld os) #[.string ⟨#[]⟩, .string ⟨#[]⟩, .string ⟨#[]⟩] rfl (by kernel_rfl) (by kernel_rfl) (by kernel_rfl)
      (OpenSpec.preRow_of_cond 8 hx (by kernel_rfl) (fun k hk => by cases hk) (by kernel_rfl) (met os))) ?_
  intro W base args ds gs before hval hW _ _ hz _ _ _
  exact contract H enc W base args ds gs before hval hW hz

theorem said : Rows.PathsUnlikeSaid :=
  OpenClaim.holds_of_cond 6 Tryd.f6 rfl rfl rfl rfl rfl rfl rfl ⟨rfl, rfl, rfl, rfl, rfl⟩ rfl rfl rfl rfl rfl (by kernel_rfl) Tryd.func6 (by kernel_rfl)
    (of_decide_eq_true (by kernel_rfl)) (by unfold Func.isWrapper; first | (rw [if_pos (by decide +kernel)]; kernel_rfl) | (rw [if_neg (by decide +kernel)]; exact ⟨rfl, rfl⟩))
    (fun os started H enc _ F => by rw [OpenClaim.pre_eq_preRow]; exact lifted os started H enc F)

theorem plain (f : FuncId) (fn : Func) (hf : Tryd.pinned.checked.prog.funcNamed "bindery/binderylaw02.PathsUnlike" = some f) (hfn : Tryd.pinned.checked.prog.funcs[f]? = some fn) :
    false = Tryd.pinned.checked.prog.looks [] ∧ ∀ (j : Nat) t, fn.params[j]? = some t → Tryd.pinned.checked.prog.wantsStandIn t = false := by
  obtain rfl : f = 6 := Option.some.inj ((show Tryd.prog.funcNamed "bindery/binderylaw02.PathsUnlike" = some 6 by kernel_rfl).symm.trans hf) |>.symm
  obtain rfl : fn = Tryd.f6 := (Option.some.inj (Tryd.func6.symm.trans hfn)).symm
  refine ⟨by kernel_rfl, fun j t ht => ?_⟩
  rw [Tryd.params6] at ht
  have h : t ∈ ([9, 9, 9] : List TypeId) := Array.mem_toList_iff.2 (Array.mem_of_getElem? ht)
  simp only [List.mem_cons, List.not_mem_nil, or_false] at h
  rcases h with rfl | rfl | rfl
  · exact (show Tryd.prog.wantsStandIn 9 = false by kernel_rfl)
  · exact (show Tryd.prog.wantsStandIn 9 = false by kernel_rfl)
  · exact (show Tryd.prog.wantsStandIn 9 = false by kernel_rfl)

theorem card : Rows.PathsUnlikeCardSaid :=
  Claim7.holds_tied_plain_at .later [] _ _ _ _ said (fun _ h => by cases h) (by kernel_rfl) (fun _ h => by cases h) pathsUnlike_row_tie rfl ⟨rfl, rfl⟩ (by kernel_rfl) rfl plain (by kernel_rfl)
end Go.Proofs.YtjmfelnajfdldaaDoor.unlikeLaw
