import Derived.Test.YtcdlleeonfnamaaCondsC
import Derived.Test.YtcdlleeonfnamaaLaw
namespace Go.Proofs.Ytcdlleeonfnamaa
open Go.RowKit
set_option maxRecDepth 100000

theorem one_any (n u : ByteArray) (W w : World) (hb : Below W.heap.size W w) (hn : n.size ≤ 140737488351232) (hu : u.size ≤ 140737488351232) : Calls Try.prog 20 #[.string n, .string u] w fun e w' =>
    ∃ a, e = .returned a ∧ Attrs w' a [(n, u)] ∧ Below W.heap.size W w' ∧ Below w.heap.size w w' := by
  go_enter Try.func20, Try.ntmps20
  go_wp2
  go_ret
  refine ⟨_, rfl, ⟨some ⟨w.heap.size, 0, none⟩, 1, rfl, by simp, ⟨?_, (fun h => by cases h), by simp⟩, fun _ => ⟨w.heap.size, 0, rfl, by simp, ?_⟩⟩, behind hb (laidNew _ _), laidNew _ _⟩
  · intro a ha; simp only [List.mem_singleton] at ha; subst ha; exact ⟨hn, hu⟩
  · intro i hi
    obtain rfl : i = 0 := by simp at hi; omega
    simp only [Nat.zero_mul, Nat.zero_add, World.cell?_alloc_new]
    exact ⟨rfl, rfl⟩
theorem attrs_nil (w : World) : Attrs w (.slice none 0 0) [] := ⟨none, 0, rfl, by simp, ⟨by intro a ha; simp at ha, fun _ => rfl, by simp⟩, fun h => by simp at h⟩

theorem ba_eq {x y : ByteArray} (h : x.data.toList = y.data.toList) : x = y := ByteArray.ext (Array.toList_inj.1 h)
abbrev tA : ByteArray := ⟨#[97]⟩
abbrev tB : ByteArray := ⟨#[98]⟩
abbrev t1 : ByteArray := ⟨#[49]⟩
abbrev t2 : ByteArray := ⟨#[50]⟩
abbrev tX : ByteArray := ⟨#[120]⟩
theorem fx1 : setE [(tB, t2)] tA t1 = 0 := by decide +kernel
theorem fx2 : setL [(tB, t2)] tA t1 = [(tA, t1), (tB, t2)] := by decide +kernel
theorem fx3 : cutE [(tA, t1), (tB, t2)] tA = 0 := by decide +kernel
theorem fx4 : unsL [(tA, t1), (tB, t2)] tA = [(tB, t2)] := by decide +kernel
theorem fx5 : setE [] t1 ⟨#[]⟩ = 1 := by decide +kernel
theorem fx6 : askL [(tA, t1)] [98, 33, 61, 49] = some ([98], true) := by decide +kernel
theorem fx7 : askL [(tA, t1)] [97, 33, 61, 49] = some ([97], false) := by decide +kernel
theorem ax6 : askV (askL [(tA, t1)] [98, 33, 61, 49]) = .tuple #[.string ⟨#[98]⟩, .bool true, .int .i64 0] := by rw [fx6]; rfl
theorem ax7 : askV (askL [(tA, t1)] [97, 33, 61, 49]) = .tuple #[.string ⟨#[97]⟩, .bool false, .int .i64 0] := by rw [fx7]; rfl
theorem fx8 : askL [] [33, 97, 61, 49] = none := by decide +kernel
theorem fx9 : fillL [(tA, tX)] [123, 97, 125, 123, 98, 125, 123, 97, 125, 32, 123, 123, 97, 125, 125, 32, 123, 97, 32, 98, 125] = ([120, 123, 98, 125, 120, 32, 123, 120, 125, 32, 123, 97, 32, 98, 125], [[97], [98]]) := by decide +kernel
theorem fx10 : getL [(tA, t1), (tB, t2)] tB = some ⟨#[50]⟩ := by decide +kernel
theorem fx11 : checkL [(tA, t1), (tB, t2)] = true := by decide +kernel

theorem dec_self {α : Type} [DecidableEq α] (x : α) : decide (x = x) = true := decide_eq_true rfl
theorem two_attrs (w : World) (a b c d : ByteArray) (h1 : a.size ≤ 140737488351232) (h2 : b.size ≤ 140737488351232) (h3 : c.size ≤ 140737488351232) (h4 : d.size ≤ 140737488351232) :
    Attrs (w.alloc (.cells #[.string a, .string b, .string c, .string d] 46)) (.slice (some ⟨w.heap.size, 0, none⟩) 2 2) [(a, b), (c, d)] := by
  refine ⟨some ⟨w.heap.size, 0, none⟩, _, rfl, by simp, ⟨?_, (fun h => by cases h), by simp⟩, fun _ => ⟨w.heap.size, 0, rfl, by simp, ?_⟩⟩
  · intro x hx
    simp only [List.mem_cons, List.not_mem_nil, or_false] at hx
    rcases hx with rfl | rfl
    · exact ⟨h1, h2⟩
    · exact ⟨h3, h4⟩
  · intro i hi
    have : i = 0 ∨ i = 1 := by simp at hi; omega
    rcases this with rfl | rfl <;> simp [World.cell?_alloc_new]
theorem two_texts (w : World) (a b : List UInt8) : Texts (w.alloc (.cells #[.string ⟨a.toArray⟩, .string ⟨b.toArray⟩] 9)) (.slice (some ⟨w.heap.size, 0, none⟩) 2 2) [a, b] := by
  refine ⟨_, _, rfl, by simp, fun _ => ⟨w.heap.size, rfl, ?_⟩⟩
  intro i hi
  have : i = 0 ∨ i = 1 := by simp at hi; omega
  rcases this with rfl | rfl <;> simp [World.cell?_alloc_new, strV]
theorem Texts.below {w w' : World} {base n : Nat} {v : Value} {l : List (List UInt8)} (h : w.ownsRow base 9 1 v n (l.map strV)) (hb : Below w.heap.size w w') : w'.ownsRow base 9 1 v n (l.map strV) := by
  obtain ⟨h1, h2⟩ := h
  refine ⟨h1, ?_⟩
  rcases h2 with h2 | ⟨g, cap, cur, rfl, hB, hg, r⟩
  · exact .inl h2
  · exact .inr ⟨g, cap, cur, rfl, hB, by rw [hb.block g (Array.getElem?_eq_some_iff.1 hg).1]; exact hg, r⟩

theorem sameAttrs_c (va vb : Value) (la lb : List At) (W w : World) (hb : Below W.heap.size W w) (h1 : Attrs w va la) (h2 : Attrs w vb lb) : Calls Try.prog 16 #[va, vb] w fun e w' => e = .returned (.bool (decide (la = lb))) ∧ Below W.heap.size W w' ∧ Below w.heap.size w w' :=
  (sameAttrs_any va vb la lb w h1 h2).mono fun _ _ ⟨he, q, hw⟩ => ⟨he, by rw [hw]; exact below_drewN hb q, by rw [hw]; exact below_drewN (Below.refl _ _) q⟩

set_option maxHeartbeats 4000000 in
theorem alive_any (W w : World) (hb : Below W.heap.size W w) : Calls Try.prog 9 #[] w fun e w' => e = .returned (.bool true) ∧ Below W.heap.size W w' ∧ Below w.heap.size w w' := by
  go_enter Try.func9, Try.ntmps9
  go_wp2_with fail
  refine (one_any tB t2 W w hb (by decide) (by decide)).mono ?_
  rintro e w1 ⟨a1, rfl, hA1, hb1, hk1⟩
  go_wp2_with fail
  refine (set_c a1 _ tA t1 W w1 hb1 hA1 (by decide) (by decide)).mono ?_
  rintro e w2 ⟨a2, rfl, hO2, hb2, hk2⟩
  rw [fx1]
  rw [fx2] at hO2
  have k2 := behind hk1 hk2
  go_wp2_with fail
  refine (unset_c a2 _ tA W w2 hb2 (hO2.attrs (by simp)) (by decide)).mono ?_
  rintro e w3 ⟨a3, rfl, hO3, hb3, hk3⟩
  rw [fx3]
  rw [fx4] at hO3
  have hO2 := hO2.below hk3
  have k3 := behind k2 hk3
  go_wp2_with fail
  refine (set_c _ [] t1 ⟨#[]⟩ W w3 hb3 (attrs_nil _) (by decide) (by decide)).mono ?_
  rintro e w4 ⟨a4, rfl, -, hb4, hk4⟩
  rw [fx5]
  have hO2 := hO2.below hk4
  have hO3 := hO3.below hk4
  have k4 := behind k3 hk4
  go_wp2_with fail
  refine (one_any tA t1 W w4 hb4 (by decide) (by decide)).mono ?_
  rintro e w5 ⟨a5, rfl, hA5, hb5, hk5⟩
  have hO2 := hO2.below hk5
  have hO3 := hO3.below hk5
  have k5 := behind k4 hk5
  go_wp2_with fail
  refine (ask_c a5 _ ⟨#[98, 33, 61, 49]⟩ W w5 hb5 hA5 (by decide)).mono ?_
  rintro e w6 ⟨rfl, hb6, hk6⟩
  rw [ax6]
  have hO2 := hO2.below hk6
  have hO3 := hO3.below hk6
  have k6 := behind k5 hk6
  go_wp2_with fail
  refine (one_any tA t1 W w6 hb6 (by decide) (by decide)).mono ?_
  rintro e w7 ⟨a7, rfl, hA7, hb7, hk7⟩
  have hO2 := hO2.below hk7
  have hO3 := hO3.below hk7
  have k7 := behind k6 hk7
  go_wp2_with fail
  refine (ask_c a7 _ ⟨#[97, 33, 61, 49]⟩ W w7 hb7 hA7 (by decide)).mono ?_
  rintro e w8 ⟨rfl, hb8, hk8⟩
  rw [ax7]
  have hO2 := hO2.below hk8
  have hO3 := hO3.below hk8
  have k8 := behind k7 hk8
  go_wp2_with fail
  refine (ask_c _ [] ⟨#[33, 97, 61, 49]⟩ W w8 hb8 (attrs_nil _) (by decide)).mono ?_
  rintro e w9 ⟨rfl, hb9, hk9⟩
  rw [fx8]
  unfold askV
  have hO2 := hO2.below hk9
  have hO3 := hO3.below hk9
  have k9 := behind k8 hk9
  go_wp2_with fail
  refine (one_any tA tX W w9 hb9 (by decide) (by decide)).mono ?_
  rintro e w10 ⟨a10, rfl, hA10, hb10, hk10⟩
  have hO2 := hO2.below hk10
  have hO3 := hO3.below hk10
  have k10 := behind k9 hk10
  go_wp2_with fail
  refine (fill_c a10 _ ⟨#[123, 97, 125, 123, 98, 125, 123, 97, 125, 32, 123, 123, 97, 125, 125, 32, 123, 97, 32, 98, 125]⟩ W w10 hb10 hA10 (by unfold Small; decide) (by decide)).mono ?_
  rintro e w11 ⟨a11, rfl, hT, hb11, hk11⟩
  rw [fx9] at hT ⊢
  rw [show bT [120, 123, 98, 125, 120, 32, 123, 120, 125, 32, 123, 97, 32, 98, 125] = (⟨#[120, 123, 98, 125, 120, 32, 123, 120, 125, 32, 123, 97, 32, 98, 125]⟩ : ByteArray) from rfl]
  have hO2 := hO2.below hk11
  have hO3 := hO3.below hk11
  have k11 := behind k10 hk11
  go_wp2_with fail
  refine (get_c a2 _ tB W w11 hb11 (hO2.attrs (by simp)) (by decide)).mono ?_
  rintro e w12 ⟨rfl, hb12, hk12⟩
  rw [fx10]
  unfold getV
  have hO2 := hO2.below hk12
  have hO3 := hO3.below hk12
  have hT := Texts.below hT hk12
  have k12 := behind k11 hk12
  go_wp2_with fail
  have hb13 := behind hb12 (laidNew w12 (.cells #[.string tA, .string t1, .string tB, .string t2] 46))
  refine (sameAttrs_c a2 _ _ _ W _ (behind hb12 (laidNew _ _)) ((hO2.below (laidNew _ _)).attrs (by simp)) (two_attrs w12 tA t1 tB t2 (by decide) (by decide) (by decide) (by decide))).mono ?_
  rintro e w14 ⟨rfl, hb14, hk14⟩
  rw [dec_self]
  have hk14 := behind (laidNew w12 _) hk14
  have hO2 := hO2.below hk14
  have hO3 := hO3.below hk14
  have hT := Texts.below hT hk14
  have k14 := behind k12 hk14
  clear hb13
  go_wp2_with fail
  refine (one_any tB t2 W w14 hb14 (by decide) (by decide)).mono ?_
  rintro e w15 ⟨a15, rfl, hA15, hb15, hk15⟩
  have hO2 := hO2.below hk15
  have hO3 := hO3.below hk15
  have hT := Texts.below hT hk15
  have k15 := behind k14 hk15
  go_wp2_with fail
  refine (sameAttrs_c a3 _ _ _ W _ hb15 (hO3.attrs (by simp)) hA15).mono ?_
  rintro e w16 ⟨rfl, hb16, hk16⟩
  rw [dec_self]
  have hO2 := hO2.below hk16
  have hT := Texts.below hT hk16
  have k16 := behind k15 hk16
  go_wp2_with fail
  refine (sameTexts_any a11 _ [[97], [98]] [[97], [98]] _ (texts_owned (Texts.below hT (laidNew _ _)) rfl (by simp)) (two_texts w16 [97] [98])).mono ?_
  rintro e w17 ⟨rfl, q, hw17⟩
  rw [dec_self]
  have hb17 : Below W.heap.size W w17 := by rw [hw17]; exact below_drewN (behind hb16 (laidNew _ _)) q
  have hk17 : Below w16.heap.size w16 w17 := by rw [hw17]; exact below_drewN (laidNew _ _) q
  clear hw17
  have hO2 := hO2.below hk17
  have k17 := behind k16 hk17
  go_wp2_with fail
  refine (check_c a2 _ W w17 hb17 (hO2.attrs (by simp))).mono ?_
  rintro e w18 ⟨rfl, hb18, hk18⟩
  rw [fx11]
  go_wp2
  go_ret
  exact ⟨rfl, hb18, behind k17 hk18⟩
end Go.Proofs.Ytcdlleeonfnamaa
