import Derived.Test.YtjmfelnajfdldaaDoorCheck
import Derived.Test.YtjmfelnajfdldaaDoorPlain02
import Derived.Test.YtjmfelnajfdldaaDoorLaw
namespace Go.Proofs.YtjmfelnajfdldaaDoor
open Go.RowKit

/-- one Check, behind others: below W's heap nothing has turned -/
theorem check_k (W : World) (s : ByteArray) (r : Bool) (h : checkB s.data.toList = r) (w : World) (hb : Below W.heap.size W w) :
    Calls Tryd.prog 8 #[.string s] w fun e w' => e = .returned (.bool r) ∧ Below W.heap.size W w' := by
  subst h
  exact (check_any s w).mono fun e w' ⟨he, h⟩ => ⟨he, behind hb h⟩
theorem name_k (W : World) (s : ByteArray) (r : Bool) (hs : s.size ≤ maxLen) (h : nameB s.data.toList = r) (w : World) (hb : Below W.heap.size W w) :
    Calls Tryd.prog 11 #[.string s] w fun e w' => e = .returned (.bool r) ∧ Below W.heap.size W w' := by
  subst h
  exact (name_any s w hs).mono fun e w' ⟨he, h⟩ => ⟨he, by subst h; exact hb⟩

set_option maxHeartbeats 400000 in
theorem page_any (s : ByteArray) (w : World) (hs : s.size ≤ 140737488351232) : Calls Tryd.prog 13 #[.string s] w fun e w' => e = .returned (.string (s ++ ⟨#[46, 104, 116, 109, 108]⟩)) ∧ w = w' := by
  go_enter Tryd.func13, Tryd.ntmps13
  go_wp2
  go_ret
  exact ⟨rfl, rfl⟩

theorem page_c (s t : ByteArray) (h : s ++ ⟨#[46, 104, 116, 109, 108]⟩ = t) (w : World) (hs : s.size ≤ 140737488351232) : Calls Tryd.prog 13 #[.string s] w fun e w' => e = .returned (.string t) ∧ w = w' := by
  subst h; exact page_any s w hs

/-- a link, in plain words -/
def linkA (page anchor : ByteArray) : ByteArray := if anchor = ⟨#[]⟩ then page else page ++ ⟨#[35]⟩ ++ anchor
theorem link_none (page : ByteArray) (w : World) : Calls Tryd.prog 14 #[.string page, .string ⟨#[]⟩] w fun e w' => e = .returned (.string page) ∧ w = w' := by
  go_enter Tryd.func14, Tryd.ntmps14
  go_wp2
  go_ret
  exact ⟨rfl, rfl⟩
theorem link_some (page anchor : ByteArray) (h : ¬ anchor = ⟨#[]⟩) (w : World) (h3 : page.size ≤ 140737488351232) (h4 : anchor.size ≤ 140737488351232) : Calls Tryd.prog 14 #[.string page, .string anchor] w fun e w' => e = .returned (.string (page ++ ⟨#[35]⟩ ++ anchor)) ∧ w = w' := by
  have h2 : anchor.toList.isEmpty = false := by
    rw [Lib.toList_data]
    cases he : anchor.data.toList with
    | nil => exact absurd (data_inj he) h
    | cons a l => rfl
  clear h
  go_enter Tryd.func14, Tryd.ntmps14
  go_wp2
  go_ret
  exact ⟨rfl, rfl⟩
theorem link_c (page anchor t : ByteArray) (w : World) (h : ¬ anchor = ⟨#[]⟩) (h2 : page ++ ⟨#[35]⟩ ++ anchor = t) (h3 : page.size ≤ 140737488351232) (h4 : anchor.size ≤ 140737488351232) : Calls Tryd.prog 14 #[.string page, .string anchor] w fun e w' => e = .returned (.string t) ∧ w = w' := by
  subst h2; exact link_some page anchor h w h3 h4
theorem link_any (page anchor : ByteArray) (w : World) (h3 : page.size ≤ 140737488351232) (h4 : anchor.size ≤ 140737488351232) : Calls Tryd.prog 14 #[.string page, .string anchor] w fun e w' => e = .returned (.string (linkA page anchor)) ∧ w = w' := by
  unfold linkA
  by_cases h : anchor = ⟨#[]⟩
  · rw [if_pos h]; subst h; exact link_none page w
  · rw [if_neg h]; exact link_some page anchor h w h3 h4

set_option maxHeartbeats 1000000 in
theorem alive_any (W w : World) (hb : Below W.heap.size W w) : Calls Tryd.prog 10 #[] w fun e w' => e = .returned (.bool true) ∧ Below W.heap.size W w' := by
  go_enter Tryd.func10, Tryd.ntmps10
  go_wp2_with fail
  refine (check_k W ⟨#[102, 105, 103, 46, 112, 110, 103]⟩ true (by decide) _ hb).mono ?_
  rintro e w1 ⟨rfl, hb1⟩
  go_wp2_with fail
  refine (check_k W ⟨#[97, 46, 98, 46, 99]⟩ true (by decide) _ hb1).mono ?_
  rintro e w2 ⟨rfl, hb2⟩
  go_wp2_with fail
  refine (check_k W ⟨#[]⟩ false (by decide) _ hb2).mono ?_
  rintro e w3 ⟨rfl, hb3⟩
  go_wp2_with fail
  refine (check_k W ⟨#[46, 97]⟩ false (by decide) _ hb3).mono ?_
  rintro e w4 ⟨rfl, hb4⟩
  go_wp2_with fail
  refine (check_k W ⟨#[97, 46, 49]⟩ false (by decide) _ hb4).mono ?_
  rintro e w5 ⟨rfl, hb5⟩
  go_wp2_with fail
  refine (check_k W ⟨#[97, 47, 98]⟩ false (by decide) _ hb5).mono ?_
  rintro e w6 ⟨rfl, hb6⟩
  go_wp2_with fail
  refine (page_c ⟨#[105, 110, 116, 114, 111]⟩ ⟨#[105, 110, 116, 114, 111, 46, 104, 116, 109, 108]⟩ (by decide +kernel) _ (by decide)).mono ?_
  rintro e w' ⟨rfl, rfl⟩
  go_wp2_with fail
  refine (link_c ⟨#[97, 46, 104, 116, 109, 108]⟩ ⟨#[120]⟩ ⟨#[97, 46, 104, 116, 109, 108, 35, 120]⟩ _ (by decide +kernel) (by decide +kernel) (by decide) (by decide)).mono ?_
  rintro e w' ⟨rfl, rfl⟩
  go_wp2_with fail
  refine (link_none ⟨#[97, 46, 104, 116, 109, 108]⟩ _).mono ?_
  rintro e w' ⟨rfl, rfl⟩
  go_wp2
  go_ret
  exact ⟨rfl, hb6⟩
end Go.Proofs.YtjmfelnajfdldaaDoor
