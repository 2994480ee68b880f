/-
  PathsLinks: the page of a name, and a link, are just those that the document's own answer gives, for any three texts of at most 1048576 bytes together, and true is answered beyond. No conditions: every three strings that can be read.
-/
import Derived.Test.YtjmfelnajfdldaaLaw
import Derived.Test.YtjmfelnajfdldaaBeyond
import Derived.Lib.IndexBytes
namespace Go.Proofs.Ytjmfelnajfdldaa.linksLaw
open Go.ChangeShapes Go.WideShapes Go.ChangeAt Go.RowKit
open Go.ChangeMaps (open_string)

/-- a page -/
def pageA (s : ByteArray) : ByteArray := s ++ ⟨#[46, 104, 116, 109, 108]⟩
set_option maxHeartbeats 400000 in
theorem page_any (s : ByteArray) (w : World) (hs : s.size ≤ 140737488351232) : Calls Try.prog 5 #[.string s] w fun e w' => e = .returned (.string (pageA s)) ∧ w = w' := by
  unfold pageA
  go_enter Try.func5, Try.ntmps5
  go_wp2
  go_ret
  exact ⟨rfl, rfl⟩
set_option maxHeartbeats 400000 in
theorem refPage_any (s : ByteArray) (w : World) (hs : s.size ≤ 140737488351232) : Calls Try.prog 6 #[.string s] w fun e w' => e = .returned (.string (pageA s)) ∧ w = w' := by
  unfold pageA
  go_enter Try.func6, Try.ntmps6
  go_wp2
  go_ret
  exact ⟨rfl, rfl⟩

theorem data_inj {a b : ByteArray} (h : a.data.toList = b.data.toList) : a = b := by
  apply ByteArray.ext; exact Array.toList_inj.1 h
theorem filled {a : ByteArray} (h : ¬ a = ⟨#[]⟩) : a.toList.isEmpty = false := by
  rw [Lib.toList_data]
  cases he : a.data.toList with
  | nil => exact absurd (data_inj he) h
  | cons x l => rfl
/-- a link -/
def linkA (page anchor : ByteArray) : ByteArray := if anchor = ⟨#[]⟩ then page else page ++ ⟨#[35]⟩ ++ anchor
theorem link_any (page anchor : ByteArray) (w : World) (h3 : page.size ≤ 140737488351232) (h4 : anchor.size ≤ 140737488351232) : Calls Try.prog 7 #[.string page, .string anchor] w fun e w' => e = .returned (.string (linkA page anchor)) ∧ w = w' := by
  unfold linkA
  by_cases h : anchor = ⟨#[]⟩
  · rw [if_pos h]; subst h
    go_enter Try.func7, Try.ntmps7
    go_wp2
    go_ret
    exact ⟨rfl, rfl⟩
  · rw [if_neg h]
    have h2 := filled h
    clear h
    go_enter Try.func7, Try.ntmps7
    go_wp2
    go_ret
    exact ⟨rfl, rfl⟩
theorem refLink_any (page anchor : ByteArray) (w : World) (h3 : page.size ≤ 140737488351232) (h4 : anchor.size ≤ 140737488351232) : Calls Try.prog 8 #[.string page, .string anchor] w fun e w' => e = .returned (.string (linkA page anchor)) ∧ w = w' := by
  unfold linkA
  by_cases h : anchor = ⟨#[]⟩
  · rw [if_pos h]; subst h
    go_enter Try.func8, Try.ntmps8
    go_wp2
    go_ret
    exact ⟨rfl, rfl⟩
  · rw [if_neg h]
    have h2 := filled h
    clear h
    go_enter Try.func8, Try.ntmps8
    go_wp2
    go_ret
    exact ⟨rfl, rfl⟩

set_option maxHeartbeats 400000 in
theorem walk (n : ByteArray) (_hs : n.size ≤ maxLen) (hn : n.size ≤ 140737488351232) (p : ByteArray) (_ht : p.size ≤ maxLen) (hp : p.size ≤ 140737488351232) (a : ByteArray) (_hu : a.size ≤ maxLen) (ha : a.size ≤ 140737488351232) (w : World) :
    Calls Try.prog 3 #[.string n, .string p, .string a] w fun e w' => e = .returned (.bool true) ∧ Below w.heap.size w w' := by
  have hb1 : ((pageA n).toList == (pageA n).toList) = true := by simp
  have hb2 : ((linkA p a).toList == (linkA p a).toList) = true := by simp
  go_enter Try.func3, Try.ntmps3
  go_wp2_with fail
  refine (beyond3 _ (n.size : Int) (p.size : Int) (a.size : Int) _ (by simp) (by simp) (by simp) (by omega) (by omega) (by omega)).mono ?_
  rintro e w' ⟨rfl, rfl⟩
  go_wp2_with fail
  · go_ret
    exact ⟨rfl, laidNew _ _⟩
  · refine (page_any n _ hn).mono ?_
    rintro e w' ⟨rfl, rfl⟩
    go_wp2_with fail
    refine (refPage_any n _ hn).mono ?_
    rintro e w' ⟨rfl, rfl⟩
    go_wp2_with fail
    refine (link_any p a _ hp ha).mono ?_
    rintro e w' ⟨rfl, rfl⟩
    go_wp2_with fail
    refine (refLink_any p a _ hp ha).mono ?_
    rintro e w' ⟨rfl, rfl⟩
    go_wp2
    go_ret
    exact ⟨rfl, laidNew _ _⟩

theorem readable : ∀ t ∈ #[9, 9, 9].toList, Try.prog.readableRec t = true ∧ t < Try.prog.types.size := by
  intro t ht
  have h : t ∈ ([9, 9, 9] : List TypeId) := ht
  simp only [List.mem_cons, List.not_mem_nil, or_false] at h
  rcases h with rfl | rfl | rfl
  · exact ⟨by kernel_rfl, of_decide_eq_true (by kernel_rfl)⟩
  · exact ⟨by kernel_rfl, of_decide_eq_true (by kernel_rfl)⟩
  · exact ⟨by kernel_rfl, of_decide_eq_true (by kernel_rfl)⟩

theorem lifted (os : Os) (started : os.Started) (H : Type) (enc : TypeId × Value → H) :
    ReturnsInHanded {} Try.checked os 3 .any (Rows.pathsLinksSpec.pre6 enc Try.prog Try.f3 Rows.pathsLinksRow.domain false) (Rows.pathsLinksSpec.post enc Try.prog Try.f3 false true false false) := by
  refine returnsInHanded_of_change_sized (C := Try.checked) own started (by kernel_rfl) Try.func3
    (ChangeSpec.witness6 (enc := enc) (C := Try.checked) false ⟨#[], #[.string ⟨#[]⟩, .string ⟨#[]⟩, .string ⟨#[]⟩], []⟩ 8 (by kernel_rfl) (by kernel_rfl) (by kernel_rfl) (by kernel_rfl)) ?_
  intro W base args ds gs before hval hW _ hz _
  have hW' := hW
  obtain ⟨p, q, hA, hV, rfl, hfz, hnd⟩ := hW
  rw [Try.params3] at hA hval
  obtain ⟨v0, vs0, d0, ds0, p0, q0, hargs0, rfl, rfl, h0, r0⟩ := trodAll_cons hA
  obtain ⟨v1, vs1, d1, ds1, p1, q1, hargs1, rfl, rfl, h1, r1⟩ := trodAll_cons r0
  obtain ⟨v2, vs2, d2, ds2, p2, q2, hargs2, rfl, rfl, h2, r2⟩ := trodAll_cons r1
  obtain ⟨rfl, rfl, rfl⟩ := trodAll_nil r2
  subst hargs1
  subst hargs2
  obtain rfl : args = #[v0, v1, v2] := by cases args; simp_all
  obtain ⟨rfl, rfl⟩ := trodVars_none hV
  obtain ⟨s0, rfl, rfl, rfl, hs0⟩ := string_arg (hval 0 9 v0 rfl rfl) h0
  have hr0 := string_reach hz (j := 0) (s := s0) rfl rfl
  obtain ⟨s1, rfl, rfl, rfl, hs1⟩ := string_arg (hval 1 9 v1 rfl rfl) h1
  have hr1 := string_reach hz (j := 1) (s := s1) rfl rfl
  obtain ⟨s2, rfl, rfl, rfl, hs2⟩ := string_arg (hval 2 9 v2 rfl rfl) h2
  have hr2 := string_reach hz (j := 2) (s := s2) rfl rfl
  refine (walk s0 hs0 hr0 s1 hs1 hr1 s2 hs2 hr2 W).mono fun e W' ⟨he, hb⟩ => ⟨_, he, law_post rfl rfl ?_ hW' rfl hb⟩
  rw [Try.params3]
  exact readable

theorem proved : Rows.PathsLinksSaid :=
  OpenClaim.holds_of_wide 3 Try.f3 rfl rfl rfl rfl rfl rfl rfl ⟨rfl, rfl, rfl, rfl, rfl⟩ rfl rfl rfl rfl rfl (by kernel_rfl) Try.func3 (by kernel_rfl)
    (of_decide_eq_true (by kernel_rfl)) (by unfold Func.isWrapper; first | (rw [if_pos (by decide +kernel)]; kernel_rfl) | (rw [if_neg (by decide +kernel)]; exact ⟨rfl, rfl⟩))
    (fun os started H enc _ => lifted os started H enc)
end Go.Proofs.Ytjmfelnajfdldaa.linksLaw
