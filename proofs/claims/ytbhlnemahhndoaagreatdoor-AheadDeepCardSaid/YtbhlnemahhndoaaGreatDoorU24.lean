/- Merged: UnsetC, SetC. -/
import Derived.Test.YtbhlnemahhndoaaGreatDoorVConcat
import Derived.Test.YtbhlnemahhndoaaGreatDoorU4
import Derived.Test.YtbhlnemahhndoaaGreatDoorU23
import Derived.Deep.RegionWith
namespace Go.Proofs.YtbhlnemahhndoaaGreatDoor
open Go.RowKit
set_option maxRecDepth 100000

theorem attrs_lo {w : World} {p : Option Addr} {cap k : Nat} {l : List At} (h : Attrs w (.slice p l.length cap) l) (hk : k ≤ l.length) : Attrs w (.slice p k cap) (l.take k) := by
  obtain ⟨p2, c2, hv, hl, ⟨hs, h0, hle⟩, hc⟩ := h
  injection hv with e1 e2 e3
  subst e1; subst e3
  have hlen : (l.take k).length = k := by rw [List.length_take]; omega
  refine ⟨p, cap, by rw [hlen], by omega, ⟨fun a ha => hs a (List.mem_of_mem_take ha), h0, by omega⟩, fun hpos => ?_⟩
  rw [hlen] at hpos
  obtain ⟨b, o, hp, hb, hcc⟩ := hc (by omega)
  refine ⟨b, o, hp, hb, fun i hi => ?_⟩
  rw [hlen] at hi
  rw [List.getElem_take]
  exact hcc i (by omega)
theorem attrs_hi {w : World} {p q : Option Addr} {cap t : Nat} {l : List At} (h : Attrs w (.slice p l.length cap) l) (ht : t ≤ l.length) (hq : t < l.length → q = p.map (·.add (t * 2))) (hn : q = none → p = none) : Attrs w (.slice q (l.length - t) (cap - t)) (l.drop t) := by
  obtain ⟨p2, c2, hv, hl, ⟨hs, h0, hle⟩, hc⟩ := h
  injection hv with e1 e2 e3
  subst e1; subst e3
  have hlen : (l.drop t).length = l.length - t := by rw [List.length_drop]
  refine ⟨q, cap - t, by rw [hlen], by omega, ⟨fun a ha => hs a (List.mem_of_mem_drop ha), fun e => by have := h0 (hn e); omega, by omega⟩, fun hpos => ?_⟩
  rw [hlen] at hpos
  obtain ⟨b, o, hp, hb, hcc⟩ := hc (by omega)
  refine ⟨b, o + t * 2, by rw [hq (by omega), hp]; exact congrArg some (add_any b o (t * 2)), hb, fun i hi => ?_⟩
  rw [hlen] at hi
  rw [List.getElem_drop]
  have := hcc (t + i) (by omega)
  rw [show o + t * 2 + i * 2 = o + (t + i) * 2 by omega]
  exact this
theorem own_base {w : World} {a b n sz : Nat} {e : TypeId} {v : Value} {xs : List Value} (h : w.ownsRow b e sz v n xs) (hab : a ≤ b) : w.ownsRow a e sz v n xs := by
  obtain ⟨h1, h2⟩ := h
  refine ⟨h1, ?_⟩
  rcases h2 with h2 | ⟨g, cap, cur, rfl, hB, r⟩
  · exact .inl h2
  · exact .inr ⟨g, cap, cur, rfl, Nat.le_trans hab hB, r⟩

theorem concat_two (w : World) (v1 v2 : Value) (l1 l2 : List At) (h1 : Attrs w v1 l1) (h2 : Attrs w v2 l2) (hn : (l1 ++ l2).length ≤ 100000) :
    Calls Tryz.prog 195 #[.slice (some ⟨w.heap.size, 0, none⟩) 2 2] (w.alloc (.cells #[v1, v2] 22)).drew fun e w' =>
      ∃ v, e = .returned v ∧ w'.ownsRow w.heap.size 84 2 v (l1 ++ l2).length (atCells (l1 ++ l2)) ∧ Below w.heap.size w w' := by
  have hb : Below w.heap.size w (w.alloc (.cells #[v1, v2] 22)).drew := (laidNew _ _).drew
  have hc := concat_c w.heap.size (fun k => if k = 0 then v1 else v2) [l1, l2] (w.alloc (.cells #[v1, v2] 22)).drew (by simp) (by simpa using hn) (by simp) (fun k hk => by
    have : k = 0 ∨ k = 1 := by simp at hk; omega
    rcases this with rfl | rfl
    · exact ⟨by rw [World.cell?_drew, World.cell?_alloc_new]; rfl, h1.below hb⟩
    · exact ⟨by rw [World.cell?_drew, World.cell?_alloc_new]; rfl, h2.below hb⟩)
  have e : [l1, l2].flatten = l1 ++ l2 := by simp
  rw [e] at hc
  refine hc.mono ?_
  rintro e w2 ⟨v, he, hr, hb2⟩
  exact ⟨v, he, own_base hr (by simp), behind hb hb2⟩
theorem hi_eq {b o t cap n : Nat} (h : n ≤ cap) : t < n → (if cap = t then some (⟨b, o, none⟩ : Addr) else some ⟨b, o + t * 2, none⟩) = (some (⟨b, o, none⟩ : Addr)).map (·.add (t * 2)) := fun ht => by
  rw [if_neg (by omega)]; exact congrArg some (add_any b o (t * 2)).symm
theorem if_some {c : Prop} [Decidable c] {a b : Addr} {q : Prop} : (if c then some a else some b) = none → q := by split <;> intro h <;> cases h
theorem attrs_empty {w : World} {q : Option Addr} {c : Nat} (h : q = none → False) : Attrs w (.slice q 0 c) [] := ⟨q, c, rfl, by simp, ⟨fun a ha => (by cases ha), fun e => (h e).elim, Nat.zero_le _⟩, fun h => absurd h (by simp)⟩
theorem cut_sized {l : List At} (h : Sized l) (n : ByteArray) : Sized (cutL l n) := fun a ha => h a (List.mem_filter.1 ha).1

set_option maxHeartbeats 4000000 in
theorem unset_hit (b o : Nat) (cap : Nat) (l : List At) (n : ByteArray) (w : World) (h : Attrs w (.slice (some ⟨b, o, none⟩) l.length cap) l) (hn : n.size ≤ 140737488351232)
    (hck : checkL l = true) (hname : nameB n.data.toList = true) (k : Nat) (hk : l.findIdx (isP n) = k) (hkl : k < l.length) (hcap : l.length ≤ cap) (hlen : l.length ≤ 64) (hs : Sized l) :
    Calls Tryz.prog 175 #[.slice (some ⟨b, o, none⟩) l.length cap, .string n] w fun e w' => ∃ a, e = .returned (.tuple #[a, .int .i64 0]) ∧ OwnA w' w.heap.size a (cutL l n) ∧ Below w.heap.size w w' := by
  have HCUT := Lib.hid (cut_place n (check_parts hck).2.2)
  rw [hk, Nat.min_eq_left (show k + 1 ≤ l.length by omega)] at HCUT
  have hC := fun w h => check_any (.slice (some ⟨b, o, none⟩) l.length cap) l w h
  rw [hck] at hC
  have hN := fun w => name_any n w (by unfold maxLen; omega)
  rw [hname] at hN
  have hF := fun B w h hB hlt => find_named (.slice (some ⟨b, o, none⟩) l.length cap) l n B w h hB hlt
  rw [hk] at hF
  have e1 : IntKind.i64.wrap ((k : Int) + 1) = (k : Int) + 1 := by rw [IntKind.wrap_i64]; omega
  have f1 : (0 : Int) ≤ (k : Int) := by omega
  have f2 : (k : Int) ≤ (cap : Int) := by omega
  have f3 : (0 : Int) ≤ (k : Int) + 1 := by omega
  have f4 : (k : Int) + 1 ≤ (l.length : Int) := by omega
  have f5 : ((k : Int) + 1).toNat = k + 1 := by omega
  obtain ⟨q, hq⟩ : ∃ q, (if cap = k + 1 then some (⟨b, o, none⟩ : Addr) else some ⟨b, o + (k + 1) * 2, none⟩) = q := ⟨_, rfl⟩
  have Q1 : Hid (k + 1 < l.length → q = (some (⟨b, o, none⟩ : Addr)).map (·.add ((k + 1) * 2))) := Lib.hid (by rw [← hq]; exact hi_eq hcap)
  have Q2 : Hid (q = none → some (⟨b, o, none⟩ : Addr) = none) := Lib.hid (by rw [← hq]; exact if_some)
  clear hck hname hk
  go_enter Tryz.func175, Tryz.ntmps175
  go_wp2_with (first
    | (go_at_call 147; refine (hC _ h).mono ?_; rintro e w2 ⟨rfl, hb2⟩; have h2 := h.below hb2)
    | (go_at_call 37; refine (hN _).mono ?_; rintro e w3 ⟨rfl, rfl⟩)
    | (go_at_call 196; refine (named_c n _).mono ?_; rintro e w3 ⟨rfl, rfl⟩)
    | (go_at_call 193; refine (hF _ _ (h2.below (laidNew _ _)) (by rw [World.cell?_alloc_new]; rfl) (by simp)).mono ?_; rintro e w4 ⟨rfl, hb4⟩; have h4 := (h2.below (laidNew _ _)).below hb4; have b4 := behind (behind hb2 (laidNew _ _)) hb4))
  (first | (go_region_with ((go_at_call 195; refine (concat_two w4 _ _ (l.take k) (l.drop (k + 1)) (attrs_lo h4 (by omega)) (attrs_hi h4 (by omega) Q1.out Q2.out) (by simp; omega)).mono ?_; rintro e w6 ⟨v6, rfl, r6, b6⟩))))
  go_wp2
  go_ret2
  have hz := b4.size
  rw [HCUT.out] at r6
  exact ⟨_, rfl, ⟨own_base r6 hz, cut_sized hs n⟩, behind b4 b6⟩

set_option maxHeartbeats 4000000 in
theorem unset_miss (ad : Addr) (cap : Nat) (l : List At) (n : ByteArray) (w : World) (h : Attrs w (.slice (some ad) l.length cap) l) (hn : n.size ≤ 140737488351232)
    (hck : checkL l = true) (hname : nameB n.data.toList = true) (hk : l.findIdx (isP n) = l.length) (hcap : l.length ≤ cap) (hlen : l.length ≤ 64) (hs : Sized l) :
    Calls Tryz.prog 175 #[.slice (some ad) l.length cap, .string n] w fun e w' => ∃ a, e = .returned (.tuple #[a, .int .i64 0]) ∧ OwnA w' w.heap.size a (cutL l n) ∧ Below w.heap.size w w' := by
  have HCUT := Lib.hid (cut_place n (check_parts hck).2.2)
  rw [hk, Nat.min_eq_right (show l.length ≤ l.length + 1 by omega), List.take_length, List.drop_length] at HCUT
  have hC := fun w h => check_any (.slice (some ad) l.length cap) l w h
  rw [hck] at hC
  have hN := fun w => name_any n w (by unfold maxLen; omega)
  rw [hname] at hN
  have hF := fun B w h hB hlt => find_named (.slice (some ad) l.length cap) l n B w h hB hlt
  rw [hk] at hF
  have e1 : IntKind.i64.wrap ((l.length : Int) + 1) = (l.length : Int) + 1 := by rw [IntKind.wrap_i64]; omega
  have f1 : (0 : Int) ≤ (l.length : Int) := by omega
  have f2 : (l.length : Int) ≤ (cap : Int) := by omega
  have f4 : ¬ ((l.length : Int) + 1 ≤ (l.length : Int)) := by omega
  obtain ⟨q, hq⟩ : ∃ q, (if cap = l.length then some ad else some (ad.add (l.length * 2))) = q := ⟨_, rfl⟩
  have Q2 : Hid (q = none → False) := Lib.hid (by rw [← hq]; exact if_some)
  clear hck hname hk
  go_enter Tryz.func175, Tryz.ntmps175
  go_wp2_with (first
    | (go_at_call 147; refine (hC _ h).mono ?_; rintro e w2 ⟨rfl, hb2⟩; have h2 := h.below hb2)
    | (go_at_call 37; refine (hN _).mono ?_; rintro e w3 ⟨rfl, rfl⟩)
    | (go_at_call 196; refine (named_c n _).mono ?_; rintro e w3 ⟨rfl, rfl⟩)
    | (go_at_call 193; refine (hF _ _ (h2.below (laidNew _ _)) (by rw [World.cell?_alloc_new]; rfl) (by simp)).mono ?_; rintro e w4 ⟨rfl, hb4⟩; have h4 := (h2.below (laidNew _ _)).below hb4; have b4 := behind (behind hb2 (laidNew _ _)) hb4))
  (first | (go_region_with ((go_at_call 195; refine (concat_two w4 _ _ l [] h4 (attrs_empty Q2.out) (by simp; omega)).mono ?_; rintro e w6 ⟨v6, rfl, r6, b6⟩))))
  go_wp2
  go_ret2
  have hz := b4.size
  rw [HCUT.out] at r6
  exact ⟨_, rfl, ⟨own_base r6 hz, cut_sized hs n⟩, behind b4 b6⟩

set_option maxHeartbeats 1000000 in
theorem unset_nil (n : ByteArray) (w : World) (h : Attrs w (.slice none 0 0) []) (hn : n.size ≤ 140737488351232) (hname : nameB n.data.toList = true) :
    Calls Tryz.prog 175 #[.slice none 0 0, .string n] w fun e w' => ∃ a, e = .returned (.tuple #[a, .int .i64 0]) ∧ OwnA w' w.heap.size a (cutL [] n) ∧ Below w.heap.size w w' := by
  have hC := fun w h => check_any (.slice none 0 0) [] w h
  rw [show checkL [] = true from by decide] at hC
  have hN := fun w => name_any n w (by unfold maxLen; omega)
  rw [hname] at hN
  have hF := fun B w h hB hlt => find_named (.slice none 0 0) [] n B w h hB hlt
  rw [show ([] : List At).findIdx (isP n) = 0 from rfl] at hF
  clear hname
  go_enter Tryz.func175, Tryz.ntmps175
  go_wp2_with (first
    | (go_at_call 147; refine (hC _ h).mono ?_; rintro e w2 ⟨rfl, hb2⟩; have h2 := h.below hb2)
    | (go_at_call 37; refine (hN _).mono ?_; rintro e w3 ⟨rfl, rfl⟩)
    | (go_at_call 196; refine (named_c n _).mono ?_; rintro e w3 ⟨rfl, rfl⟩)
    | (go_at_call 193; refine (hF _ _ (h2.below (laidNew _ _)) (by rw [World.cell?_alloc_new]; rfl) (by simp)).mono ?_; rintro e w4 ⟨rfl, hb4⟩; have h4 := (h2.below (laidNew _ _)).below hb4; have b4 := behind (behind hb2 (laidNew _ _)) hb4))
  (first | (go_region_with ((go_at_call 195; refine (concat_two w4 _ _ [] [] h4 h4 (by simp)).mono ?_; rintro e w6 ⟨v6, rfl, r6, b6⟩))))
  go_wp2
  go_ret2
  exact ⟨_, rfl, ⟨own_base r6 b4.size, fun a ha => by cases ha⟩, behind b4 b6⟩

theorem err_one (v : Value) (l : List At) (n : ByteArray) (w : World) (h : Attrs w v l) (hn : n.size ≤ 140737488351232) (he : (checkL l && nameB n.data.toList) = false) :
    Calls Tryz.prog 175 #[v, .string n] w fun e w' => e = .returned (.tuple #[.slice none 0 0, .int .i64 1]) ∧ Below w.heap.size w w' := by
  have hC := fun w h => check_any v l w h
  have hN := fun w => name_any n w (by unfold maxLen; omega)
  cases hck : checkL l with
  | false =>
    rw [hck] at hC
    clear hck he
    go_enter Tryz.func175, Tryz.ntmps175
    go_wp2_with (go_at_call 147; refine (hC _ h).mono ?_; rintro e w2 ⟨rfl, hb2⟩)
    go_ret2
    exact ⟨rfl, hb2⟩
  | true =>
    rw [hck] at he
    rw [hck] at hC
    have hname : nameB n.data.toList = false := by simpa using he
    rw [hname] at hN
    clear hck he hname
    go_enter Tryz.func175, Tryz.ntmps175
    go_wp2_with (first | (go_at_call 147; refine (hC _ h).mono ?_; rintro e w2 ⟨rfl, hb2⟩) | (go_at_call 37; refine (hN _).mono ?_; rintro e w3 ⟨rfl, rfl⟩))
    go_ret2
    exact ⟨rfl, hb2⟩

theorem unset_any (v : Value) (l : List At) (n : ByteArray) (w : World) (h : Attrs w v l) (hn : n.size ≤ 140737488351232) : Calls Tryz.prog 175 #[v, .string n] w fun e w' =>
    ∃ a, e = .returned (.tuple #[a, .int .i64 ((cutE l n : Nat) : Int)]) ∧ OwnA w' w.heap.size a (unsL l n) ∧ Below w.heap.size w w' := by
  cases he : (checkL l && nameB n.data.toList) with
  | false =>
    obtain ⟨e1, e2⟩ := cutE_no he
    rw [e1, e2]
    refine (err_one v l n w h hn he).mono ?_
    rintro e w2 ⟨rfl, hb⟩
    exact ⟨_, rfl, ⟨⟨rfl, .inl ⟨rfl, rfl⟩⟩, fun a ha => (by cases ha)⟩, hb⟩
  | true =>
    obtain ⟨e1, e2⟩ := cutE_ok he
    rw [e1, e2]
    simp only [Bool.and_eq_true] at he
    obtain ⟨hck, hname⟩ := he
    have hlen := (check_parts hck).1
    have h' := h
    obtain ⟨p, cap, rfl, hl, ⟨hs, h0, hcap⟩, hc⟩ := h'
    by_cases hlt : l.findIdx (isP n) < l.length
    · obtain ⟨b, o, rfl, _, _⟩ := hc (by omega)
      exact unset_hit b o cap l n w h hn hck hname _ rfl hlt hcap hlen hs
    · have hk : l.findIdx (isP n) = l.length := by have := idx_le (isP n) l; omega
      cases p with
      | some ad => exact unset_miss ad cap l n w h hn hck hname hk hcap hlen hs
      | none =>
        have hc0 := h0 rfl
        have hl0 : l = [] := List.length_eq_zero_iff.1 (by omega)
        subst hc0
        subst hl0
        exact unset_nil n w h hn hname
end Go.Proofs.YtbhlnemahhndoaaGreatDoor
namespace Go.Proofs.YtbhlnemahhndoaaGreatDoor
open Go.RowKit
set_option maxRecDepth 100000

/-- a row's value is a slice of its length -/
theorem own_slice {w : World} {b n sz : Nat} {e : TypeId} {v : Value} {xs : List Value} (h : w.ownsRow b e sz v n xs) : ∃ p c, v = .slice p n c := by
  rcases h.2 with ⟨rfl, h0⟩ | ⟨g, cap, cur, rfl, r⟩
  · exact ⟨none, 0, by rw [h0]⟩
  · exact ⟨_, _, rfl⟩
theorem one_attr (w : World) (a b : ByteArray) (h1 : a.size ≤ 140737488351232) (h2 : b.size ≤ 140737488351232) :
    Attrs (w.alloc (.cells #[.string a, .string b] 84)) (.slice (some ⟨w.heap.size, 0, none⟩) 1 1) [(a, b)] := by
  refine ⟨some ⟨w.heap.size, 0, none⟩, 1, rfl, by simp, ⟨?_, (fun h => by cases h), by simp⟩, fun _ => ⟨w.heap.size, 0, rfl, by simp, ?_⟩⟩
  · intro x hx; simp only [List.mem_singleton] at hx; subst hx; exact ⟨h1, h2⟩
  · intro i hi
    obtain rfl : i = 0 := by simp at hi; omega
    simp only [Nat.zero_mul, Nat.zero_add, World.cell?_alloc_new]
    exact ⟨rfl, rfl⟩
theorem concat_three (w : World) (v1 v3 : Value) (n u : ByteArray) (l1 l3 : List At) (h1 : Attrs w v1 l1) (h3 : Attrs w v3 l3) (hn : n.size ≤ 140737488351232) (hu : u.size ≤ 140737488351232) (M : Nat) (hM : (l1 ++ (n, u) :: l3).length = M) (hz : M ≤ 100000) :
    Calls Tryz.prog 195 #[.slice (some ⟨w.heap.size + 1, 0, none⟩) 3 3] ((w.alloc (.cells #[.string n, .string u] 84)).alloc (.cells #[v1, .slice (some ⟨w.heap.size, 0, none⟩) 1 1, v3] 22)).drew fun e w' =>
      ∃ p c, e = .returned (.slice p M c) ∧ w'.ownsRow w.heap.size 84 2 (.slice p M c) M (atCells (l1 ++ (n, u) :: l3)) ∧ Below w.heap.size w w' := by
  obtain ⟨w1, hw1⟩ : ∃ w1, w.alloc (.cells #[.string n, .string u] 84) = w1 := ⟨_, rfl⟩
  have b1 : Below w.heap.size w w1 := by rw [← hw1]; exact laidNew _ _
  have z1 : w1.heap.size = w.heap.size + 1 := by rw [← hw1]; simp
  have h2 : Attrs w1 (.slice (some ⟨w.heap.size, 0, none⟩) 1 1) [(n, u)] := by rw [← hw1]; exact one_attr w n u hn hu
  rw [hw1]
  have hb : Below w1.heap.size w1 (w1.alloc (.cells #[v1, .slice (some ⟨w.heap.size, 0, none⟩) 1 1, v3] 22)).drew := (laidNew _ _).drew
  have e : [l1, [(n, u)], l3].flatten = l1 ++ (n, u) :: l3 := by simp
  have hc := concat_c w1.heap.size (fun k => if k = 0 then v1 else if k = 1 then .slice (some ⟨w.heap.size, 0, none⟩) 1 1 else v3) [l1, [(n, u)], l3] (w1.alloc (.cells #[v1, .slice (some ⟨w.heap.size, 0, none⟩) 1 1, v3] 22)).drew (by simp) (by rw [e, hM]; exact hz) (by simp) (fun k hk => by
    have : k = 0 ∨ k = 1 ∨ k = 2 := by simp at hk; omega
    rcases this with rfl | rfl | rfl
    · exact ⟨by rw [World.cell?_drew, World.cell?_alloc_new]; rfl, (h1.below b1).below hb⟩
    · exact ⟨by rw [World.cell?_drew, World.cell?_alloc_new]; rfl, h2.below hb⟩
    · exact ⟨by rw [World.cell?_drew, World.cell?_alloc_new]; rfl, (h3.below b1).below hb⟩)
  rw [e, hM, z1] at hc
  refine hc.mono ?_
  rintro e w2 ⟨v, he, hr, hb2⟩
  obtain ⟨p, c, rfl⟩ := own_slice hr
  exact ⟨p, c, he, own_base hr (by simp; omega), behind (behind b1 hb) hb2⟩
theorem putc_sized {l : List At} {n u : ByteArray} (hs : Sized l) (hn : n.size ≤ 140737488351232) (hu : u.size ≤ 140737488351232) (k t : Nat) : Sized (l.take k ++ (n, u) :: l.drop t) := by
  intro a ha
  rcases List.mem_append.1 ha with ha | ha
  · exact hs a (List.mem_of_mem_take ha)
  · rcases List.mem_cons.1 ha with rfl | ha
    · exact ⟨hn, hu⟩
    · exact hs a (List.mem_of_mem_drop ha)
theorem putn_sized {l : List At} {n u : ByteArray} (hs : Sized l) (hn : n.size ≤ 140737488351232) (hu : u.size ≤ 140737488351232) : Sized (l ++ (n, u) :: []) := by
  intro a ha
  rcases List.mem_append.1 ha with ha | ha
  · exact hs a ha
  · simp only [List.mem_singleton] at ha; subst ha; exact ⟨hn, hu⟩
theorem laid_one (w : World) (n : Nat) (hn : w.heap.size = n) (x : Value) (t : TypeId) : (w.alloc (.cells #[x] t)).cell? ⟨n, 0, none⟩ = some x := by
  subst hn; rw [World.cell?_alloc_new]; rfl
theorem laid_two (w : World) (n : Nat) (hn : w.heap.size = n) (x y : Value) (t : TypeId) (j : Nat) (v : Value) (hj : (#[x, y] : Array Value)[j]? = some v) : (w.alloc (.cells #[x, y] t)).cell? ⟨n, j, none⟩ = some v := by
  subst hn; rw [World.cell?_alloc_new]; exact hj

set_option maxHeartbeats 4000000 in
theorem set_at (b o cap : Nat) (l : List At) (n u : ByteArray) (w : World) (h : Attrs w (.slice (some ⟨b, o, none⟩) l.length cap) l) (hn : n.size ≤ 140737488351232) (hu : u.size ≤ 140737488351232)
    (hatt : attB (n, u) = true) (hck : checkL l = true) (k : Nat) (hk : l.findIdx (geP n) = k) (hkl : k < l.length) (hp : (l[k].1.toList == n.toList) = true) (hcap : l.length ≤ cap) (hlen : l.length ≤ 64) (hs : Sized l) (hb : b < w.heap.size) (hcc : AtCells w b o l) :
    Calls Tryz.prog 173 #[.slice (some ⟨b, o, none⟩) l.length cap, .string n, .string u] w fun e w' => ∃ a, e = .returned (.tuple #[a, .int .i64 ((if ((l.take k) ++ (n, u) :: (l.drop (k + 1))).length ≤ 64 then 0 else 3 : Nat) : Int)]) ∧ OwnA w' w.heap.size a (if ((l.take k) ++ (n, u) :: (l.drop (k + 1))).length ≤ 64 then (l.take k) ++ (n, u) :: (l.drop (k + 1)) else []) ∧ Below w.heap.size w w' := by
  have hC := fun w h => check_any (.slice (some ⟨b, o, none⟩) l.length cap) l w h
  rw [hck] at hC
  have hM := fun w => may_c n u w hn hu
  rw [hatt] at hM
  have hF := fun B w h hB hlt => find_set (.slice (some ⟨b, o, none⟩) l.length cap) l n B w h hB hlt
  rw [hk] at hF
  have HS : Hid (Sized ((l.take k) ++ (n, u) :: (l.drop (k + 1)))) := Lib.hid (putc_sized hs hn hu _ _)
  obtain ⟨M, hMd⟩ : ∃ M, ((l.take k) ++ (n, u) :: (l.drop (k + 1))).length = M := ⟨_, rfl⟩
  have hMz : M ≤ 100000 := by rw [← hMd]; simp; omega
  have HM := Lib.hid hMd
  rw [hMd]
  have b1 := behind (laidNew w (.cells #[.string n] 9)) (laidNew _ (.cells #[.string n, .string u] 84))
  have x1 := keep_cell (laidNew _ (.cells #[.string n, .string u] 84)) (laid_one w _ rfl (.string n) 9)
  have y1 : ((w.alloc (.cells #[.string n] 9)).alloc (.cells #[.string n, .string u] 84)).cell? ⟨w.heap.size + 1, 0, none⟩ = some (.string n) := laid_two _ _ (by simp) _ _ _ 0 _ rfl
  have y2 : ((w.alloc (.cells #[.string n] 9)).alloc (.cells #[.string n, .string u] 84)).cell? ⟨w.heap.size + 1, 1, none⟩ = some (.string u) := laid_two _ _ (by simp) _ _ _ 1 _ rfl
  obtain ⟨c1, _⟩ := hcc k hkl
  have e1 : IntKind.i64.wrap ((k : Int) + 1) = (k : Int) + 1 := by rw [IntKind.wrap_i64]; omega
  have f1 : (0 : Int) ≤ (k : Int) := by omega
  have f2 : (k : Int) ≤ (cap : Int) := by omega
  have f3 : (0 : Int) ≤ (k : Int) + 1 := by omega
  have f4 : (k : Int) + 1 ≤ (l.length : Int) := by omega
  have f5 : ((k : Int) + 1).toNat = k + 1 := by omega
  have f6 : (k : Int) < (l.length : Int) := by omega
  have f7 : (k : Int) ≤ (l.length : Int) := by omega
  have hd : decide ((k : Int) < (l.length : Int)) = true := by simp; omega
  obtain ⟨q, hq⟩ : ∃ q, (if cap = k + 1 then some (⟨b, o, none⟩ : Addr) else some ⟨b, o + (k + 1) * 2, none⟩) = q := ⟨_, rfl⟩
  have Q1 : Hid (k + 1 < l.length → q = (some (⟨b, o, none⟩ : Addr)).map (·.add ((k + 1) * 2))) := Lib.hid (by rw [← hq]; exact hi_eq hcap)
  have Q2 : Hid (q = none → some (⟨b, o, none⟩ : Addr) = none) := Lib.hid (by rw [← hq]; exact if_some)
  clear hcc
  clear hck hatt hk hMd
  by_cases hcase : M ≤ 64
  all_goals
    first | rw [if_pos hcase, if_pos hcase] | rw [if_neg hcase, if_neg hcase]
    go_enter Tryz.func173, Tryz.ntmps173
    go_wp2_with (first
      | (go_at_call 147; refine (hC _ (h.below b1)).mono ?_; rintro e w2 ⟨rfl, hb2⟩; have b2 := behind b1 hb2; have x1 := keep_cell hb2 x1; have y1 := keep_cell hb2 y1; have y2 := keep_cell hb2 y2)
      | (go_at_call 164; refine (hM _).mono ?_; rintro e w3 ⟨rfl, hb3⟩; have b3 := behind b2 hb3; have x1 := keep_cell hb3 x1; have y1 := keep_cell hb3 y1; have y2 := keep_cell hb3 y2)
      | (go_at_call 193; refine (hF _ _ (h.below b3) x1 (World.block_lt_of_cell? _ _ x1)).mono ?_; rintro e w4 ⟨rfl, hb4⟩; have b4 := behind b3 hb4; have x1 := keep_cell hb4 x1; have y1 := keep_cell hb4 y1; have y2 := keep_cell hb4 y2; have h4 := h.below b4; have c1 := (b4.cell (p := ⟨b, o + k * 2, none⟩) hb).trans c1))
    go_quiet (fail)
    go_wp2
    have b5 := below_drewN b4 nq
    have h5 : Attrs (w4.drewN nq) _ _ := h4.below (below_drewN (Below.refl _ _) nq)
    have y1 := keep_cell (below_drewN (Below.refl _ _) nq) y1
    have y2 := keep_cell (below_drewN (Below.refl _ _) nq) y2
    generalize w4.drewN nq = w5 at b5 h5 y1 y2
    (first | (go_region_with ((go_at_call 195; refine (concat_three w5 _ _ n u (l.take k) (l.drop (k + 1)) (attrs_lo h5 (by omega)) (attrs_hi h5 (by omega) Q1.out Q2.out) hn hu M HM.out hMz).mono ?_; rintro e w6 ⟨pp, cc, rfl, r6, b6⟩))))
    go_wp2
    go_ret2
    first
      | exact ⟨_, rfl, ⟨by rw [HM.out]; exact own_base r6 b5.size, HS.out⟩, behind b5 b6⟩
      | exact ⟨_, rfl, ⟨⟨rfl, .inl ⟨rfl, rfl⟩⟩, fun a ha => (by cases ha)⟩, behind b5 b6⟩

set_option maxHeartbeats 4000000 in
theorem set_ahead (b o cap : Nat) (l : List At) (n u : ByteArray) (w : World) (h : Attrs w (.slice (some ⟨b, o, none⟩) l.length cap) l) (hn : n.size ≤ 140737488351232) (hu : u.size ≤ 140737488351232)
    (hatt : attB (n, u) = true) (hck : checkL l = true) (k : Nat) (hk : l.findIdx (geP n) = k) (hkl : k < l.length) (hp : (l[k].1.toList == n.toList) = false) (hcap : l.length ≤ cap) (hlen : l.length ≤ 64) (hs : Sized l) (hb : b < w.heap.size) (hcc : AtCells w b o l) :
    Calls Tryz.prog 173 #[.slice (some ⟨b, o, none⟩) l.length cap, .string n, .string u] w fun e w' => ∃ a, e = .returned (.tuple #[a, .int .i64 ((if ((l.take k) ++ (n, u) :: (l.drop k)).length ≤ 64 then 0 else 3 : Nat) : Int)]) ∧ OwnA w' w.heap.size a (if ((l.take k) ++ (n, u) :: (l.drop k)).length ≤ 64 then (l.take k) ++ (n, u) :: (l.drop k) else []) ∧ Below w.heap.size w w' := by
  have hC := fun w h => check_any (.slice (some ⟨b, o, none⟩) l.length cap) l w h
  rw [hck] at hC
  have hM := fun w => may_c n u w hn hu
  rw [hatt] at hM
  have hF := fun B w h hB hlt => find_set (.slice (some ⟨b, o, none⟩) l.length cap) l n B w h hB hlt
  rw [hk] at hF
  have HS : Hid (Sized ((l.take k) ++ (n, u) :: (l.drop k))) := Lib.hid (putc_sized hs hn hu _ _)
  obtain ⟨M, hMd⟩ : ∃ M, ((l.take k) ++ (n, u) :: (l.drop k)).length = M := ⟨_, rfl⟩
  have hMz : M ≤ 100000 := by rw [← hMd]; simp; omega
  have HM := Lib.hid hMd
  rw [hMd]
  have b1 := behind (laidNew w (.cells #[.string n] 9)) (laidNew _ (.cells #[.string n, .string u] 84))
  have x1 := keep_cell (laidNew _ (.cells #[.string n, .string u] 84)) (laid_one w _ rfl (.string n) 9)
  have y1 : ((w.alloc (.cells #[.string n] 9)).alloc (.cells #[.string n, .string u] 84)).cell? ⟨w.heap.size + 1, 0, none⟩ = some (.string n) := laid_two _ _ (by simp) _ _ _ 0 _ rfl
  have y2 : ((w.alloc (.cells #[.string n] 9)).alloc (.cells #[.string n, .string u] 84)).cell? ⟨w.heap.size + 1, 1, none⟩ = some (.string u) := laid_two _ _ (by simp) _ _ _ 1 _ rfl
  obtain ⟨c1, _⟩ := hcc k hkl
  have f1 : (0 : Int) ≤ (k : Int) := by omega
  have f2 : (k : Int) ≤ (cap : Int) := by omega
  have f3 : (0 : Int) ≤ (k : Int) + 1 := by omega
  have f4 : (k : Int) + 1 ≤ (l.length : Int) := by omega
  have f5 : ((k : Int) + 1).toNat = k + 1 := by omega
  have f6 : (k : Int) < (l.length : Int) := by omega
  have f7 : (k : Int) ≤ (l.length : Int) := by omega
  have hd : decide ((k : Int) < (l.length : Int)) = true := by simp; omega
  obtain ⟨q, hq⟩ : ∃ q, (if cap = k then some (⟨b, o, none⟩ : Addr) else some ⟨b, o + k * 2, none⟩) = q := ⟨_, rfl⟩
  have Q1 : Hid (k < l.length → q = (some (⟨b, o, none⟩ : Addr)).map (·.add (k * 2))) := Lib.hid (by rw [← hq]; exact hi_eq hcap)
  have Q2 : Hid (q = none → some (⟨b, o, none⟩ : Addr) = none) := Lib.hid (by rw [← hq]; exact if_some)
  clear hcc
  clear hck hatt hk hMd
  by_cases hcase : M ≤ 64
  all_goals
    first | rw [if_pos hcase, if_pos hcase] | rw [if_neg hcase, if_neg hcase]
    go_enter Tryz.func173, Tryz.ntmps173
    go_wp2_with (first
      | (go_at_call 147; refine (hC _ (h.below b1)).mono ?_; rintro e w2 ⟨rfl, hb2⟩; have b2 := behind b1 hb2; have x1 := keep_cell hb2 x1; have y1 := keep_cell hb2 y1; have y2 := keep_cell hb2 y2)
      | (go_at_call 164; refine (hM _).mono ?_; rintro e w3 ⟨rfl, hb3⟩; have b3 := behind b2 hb3; have x1 := keep_cell hb3 x1; have y1 := keep_cell hb3 y1; have y2 := keep_cell hb3 y2)
      | (go_at_call 193; refine (hF _ _ (h.below b3) x1 (World.block_lt_of_cell? _ _ x1)).mono ?_; rintro e w4 ⟨rfl, hb4⟩; have b4 := behind b3 hb4; have x1 := keep_cell hb4 x1; have y1 := keep_cell hb4 y1; have y2 := keep_cell hb4 y2; have h4 := h.below b4; have c1 := (b4.cell (p := ⟨b, o + k * 2, none⟩) hb).trans c1))
    go_quiet (fail)
    go_wp2
    have b5 := below_drewN b4 nq
    have h5 : Attrs (w4.drewN nq) _ _ := h4.below (below_drewN (Below.refl _ _) nq)
    have y1 := keep_cell (below_drewN (Below.refl _ _) nq) y1
    have y2 := keep_cell (below_drewN (Below.refl _ _) nq) y2
    generalize w4.drewN nq = w5 at b5 h5 y1 y2
    (first | (go_region_with ((go_at_call 195; refine (concat_three w5 _ _ n u (l.take k) (l.drop k) (attrs_lo h5 (by omega)) (attrs_hi h5 (by omega) Q1.out Q2.out) hn hu M HM.out hMz).mono ?_; rintro e w6 ⟨pp, cc, rfl, r6, b6⟩))))
    go_wp2
    go_ret2
    first
      | exact ⟨_, rfl, ⟨by rw [HM.out]; exact own_base r6 b5.size, HS.out⟩, behind b5 b6⟩
      | exact ⟨_, rfl, ⟨⟨rfl, .inl ⟨rfl, rfl⟩⟩, fun a ha => (by cases ha)⟩, behind b5 b6⟩

set_option maxHeartbeats 4000000 in
theorem set_miss (ad : Addr) (cap : Nat) (l : List At) (n u : ByteArray) (w : World) (h : Attrs w (.slice (some ad) l.length cap) l) (hn : n.size ≤ 140737488351232) (hu : u.size ≤ 140737488351232)
    (hatt : attB (n, u) = true) (hck : checkL l = true) (hk : l.findIdx (geP n) = l.length) (hcap : l.length ≤ cap) (hlen : l.length ≤ 64) (hs : Sized l) :
    Calls Tryz.prog 173 #[.slice (some ad) l.length cap, .string n, .string u] w fun e w' => ∃ a, e = .returned (.tuple #[a, .int .i64 ((if (l ++ (n, u) :: []).length ≤ 64 then 0 else 3 : Nat) : Int)]) ∧ OwnA w' w.heap.size a (if (l ++ (n, u) :: []).length ≤ 64 then l ++ (n, u) :: [] else []) ∧ Below w.heap.size w w' := by
  have hC := fun w h => check_any (.slice (some ad) l.length cap) l w h
  rw [hck] at hC
  have hM := fun w => may_c n u w hn hu
  rw [hatt] at hM
  have hF := fun B w h hB hlt => find_set (.slice (some ad) l.length cap) l n B w h hB hlt
  rw [hk] at hF
  have HS : Hid (Sized (l ++ (n, u) :: [])) := Lib.hid (putn_sized hs hn hu)
  obtain ⟨M, hMd⟩ : ∃ M, (l ++ (n, u) :: []).length = M := ⟨_, rfl⟩
  have hMz : M ≤ 100000 := by rw [← hMd]; simp; omega
  have HM := Lib.hid hMd
  rw [hMd]
  have b1 := behind (laidNew w (.cells #[.string n] 9)) (laidNew _ (.cells #[.string n, .string u] 84))
  have x1 := keep_cell (laidNew _ (.cells #[.string n, .string u] 84)) (laid_one w _ rfl (.string n) 9)
  have y1 : ((w.alloc (.cells #[.string n] 9)).alloc (.cells #[.string n, .string u] 84)).cell? ⟨w.heap.size + 1, 0, none⟩ = some (.string n) := laid_two _ _ (by simp) _ _ _ 0 _ rfl
  have y2 : ((w.alloc (.cells #[.string n] 9)).alloc (.cells #[.string n, .string u] 84)).cell? ⟨w.heap.size + 1, 1, none⟩ = some (.string u) := laid_two _ _ (by simp) _ _ _ 1 _ rfl
  have f1 : (0 : Int) ≤ (l.length : Int) := by omega
  have f2 : (l.length : Int) ≤ (cap : Int) := by omega
  have hd : decide ((l.length : Int) < (l.length : Int)) = false := by simp
  obtain ⟨q, hq⟩ : ∃ q, (if cap = l.length then some ad else some (ad.add (l.length * 2))) = q := ⟨_, rfl⟩
  have Q2 : Hid (q = none → False) := Lib.hid (by rw [← hq]; exact if_some)
  clear hck hatt hk hMd
  by_cases hcase : M ≤ 64
  all_goals
    first | rw [if_pos hcase, if_pos hcase] | rw [if_neg hcase, if_neg hcase]
    go_enter Tryz.func173, Tryz.ntmps173
    go_wp2_with (first
      | (go_at_call 147; refine (hC _ (h.below b1)).mono ?_; rintro e w2 ⟨rfl, hb2⟩; have b2 := behind b1 hb2; have x1 := keep_cell hb2 x1; have y1 := keep_cell hb2 y1; have y2 := keep_cell hb2 y2)
      | (go_at_call 164; refine (hM _).mono ?_; rintro e w3 ⟨rfl, hb3⟩; have b3 := behind b2 hb3; have x1 := keep_cell hb3 x1; have y1 := keep_cell hb3 y1; have y2 := keep_cell hb3 y2)
      | (go_at_call 193; refine (hF _ _ (h.below b3) x1 (World.block_lt_of_cell? _ _ x1)).mono ?_; rintro e w4 ⟨rfl, hb4⟩; have b4 := behind b3 hb4; have x1 := keep_cell hb4 x1; have y1 := keep_cell hb4 y1; have y2 := keep_cell hb4 y2; have h4 := h.below b4))
    go_quiet (fail)
    go_wp2
    have b5 := below_drewN b4 nq
    have h5 : Attrs (w4.drewN nq) _ _ := h4.below (below_drewN (Below.refl _ _) nq)
    have y1 := keep_cell (below_drewN (Below.refl _ _) nq) y1
    have y2 := keep_cell (below_drewN (Below.refl _ _) nq) y2
    generalize w4.drewN nq = w5 at b5 h5 y1 y2
    (first | (go_region_with ((go_at_call 195; refine (concat_three w5 _ _ n u l [] (h5) (attrs_empty Q2.out) hn hu M HM.out hMz).mono ?_; rintro e w6 ⟨pp, cc, rfl, r6, b6⟩))))
    go_wp2
    go_ret2
    first
      | exact ⟨_, rfl, ⟨by rw [HM.out]; exact own_base r6 b5.size, HS.out⟩, behind b5 b6⟩
      | exact ⟨_, rfl, ⟨⟨rfl, .inl ⟨rfl, rfl⟩⟩, fun a ha => (by cases ha)⟩, behind b5 b6⟩

set_option maxHeartbeats 4000000 in
theorem set_nil (n u : ByteArray) (w : World) (h : Attrs w (.slice none 0 0) []) (hn : n.size ≤ 140737488351232) (hu : u.size ≤ 140737488351232)
    (hatt : attB (n, u) = true) (hck : checkL [] = true) (hk : ([] : List At).findIdx (geP n) = 0) :
    Calls Tryz.prog 173 #[.slice none 0 0, .string n, .string u] w fun e w' => ∃ a, e = .returned (.tuple #[a, .int .i64 ((if ([(n, u)]).length ≤ 64 then 0 else 3 : Nat) : Int)]) ∧ OwnA w' w.heap.size a (if ([(n, u)]).length ≤ 64 then [(n, u)] else []) ∧ Below w.heap.size w w' := by
  have hC := fun w h => check_any (.slice none 0 0) [] w h
  rw [hck] at hC
  have hM := fun w => may_c n u w hn hu
  rw [hatt] at hM
  have hF := fun B w h hB hlt => find_set (.slice none 0 0) [] n B w h hB hlt
  rw [hk] at hF
  have HS : Hid (Sized ([(n, u)])) := Lib.hid (putn_sized (l := []) (fun a ha => (by cases ha)) hn hu)
  obtain ⟨M, hMd⟩ : ∃ M, ([(n, u)]).length = M := ⟨_, rfl⟩
  have hMz : M ≤ 100000 := by rw [← hMd]; simp; skip
  have HM := Lib.hid hMd
  rw [hMd]
  have b1 := behind (laidNew w (.cells #[.string n] 9)) (laidNew _ (.cells #[.string n, .string u] 84))
  have x1 := keep_cell (laidNew _ (.cells #[.string n, .string u] 84)) (laid_one w _ rfl (.string n) 9)
  have y1 : ((w.alloc (.cells #[.string n] 9)).alloc (.cells #[.string n, .string u] 84)).cell? ⟨w.heap.size + 1, 0, none⟩ = some (.string n) := laid_two _ _ (by simp) _ _ _ 0 _ rfl
  have y2 : ((w.alloc (.cells #[.string n] 9)).alloc (.cells #[.string n, .string u] 84)).cell? ⟨w.heap.size + 1, 1, none⟩ = some (.string u) := laid_two _ _ (by simp) _ _ _ 1 _ rfl
  have hd : decide ((0 : Int) < 0) = false := by simp
  clear hck hatt hk hMd
  by_cases hcase : M ≤ 64
  all_goals
    first | rw [if_pos hcase, if_pos hcase] | rw [if_neg hcase, if_neg hcase]
    go_enter Tryz.func173, Tryz.ntmps173
    go_wp2_with (first
      | (go_at_call 147; refine (hC _ (h.below b1)).mono ?_; rintro e w2 ⟨rfl, hb2⟩; have b2 := behind b1 hb2; have x1 := keep_cell hb2 x1; have y1 := keep_cell hb2 y1; have y2 := keep_cell hb2 y2)
      | (go_at_call 164; refine (hM _).mono ?_; rintro e w3 ⟨rfl, hb3⟩; have b3 := behind b2 hb3; have x1 := keep_cell hb3 x1; have y1 := keep_cell hb3 y1; have y2 := keep_cell hb3 y2)
      | (go_at_call 193; refine (hF _ _ (h.below b3) x1 (World.block_lt_of_cell? _ _ x1)).mono ?_; rintro e w4 ⟨rfl, hb4⟩; have b4 := behind b3 hb4; have x1 := keep_cell hb4 x1; have y1 := keep_cell hb4 y1; have y2 := keep_cell hb4 y2; have h4 := h.below b4))
    go_quiet (fail)
    go_wp2
    have b5 := below_drewN b4 nq
    have h5 : Attrs (w4.drewN nq) _ _ := h4.below (below_drewN (Below.refl _ _) nq)
    have y1 := keep_cell (below_drewN (Below.refl _ _) nq) y1
    have y2 := keep_cell (below_drewN (Below.refl _ _) nq) y2
    generalize w4.drewN nq = w5 at b5 h5 y1 y2
    (first | (go_region_with ((go_at_call 195; refine (concat_three w5 _ _ n u [] [] (h5) (h5) hn hu M HM.out hMz).mono ?_; rintro e w6 ⟨pp, cc, rfl, r6, b6⟩))))
    go_wp2
    go_ret2
    first
      | exact ⟨_, rfl, ⟨by rw [HM.out]; exact own_base r6 b5.size, HS.out⟩, behind b5 b6⟩
      | exact ⟨_, rfl, ⟨⟨rfl, .inl ⟨rfl, rfl⟩⟩, fun a ha => (by cases ha)⟩, behind b5 b6⟩

theorem err_set (v : Value) (l : List At) (n u : ByteArray) (w : World) (h : Attrs w v l) (hn : n.size ≤ 140737488351232) (hu : u.size ≤ 140737488351232) (he : (checkL l && attB (n, u)) = false) :
    Calls Tryz.prog 173 #[v, .string n, .string u] w fun e w' => e = .returned (.tuple #[.slice none 0 0, .int .i64 1]) ∧ Below w.heap.size w w' := by
  have hC := fun w h => check_any v l w h
  have hM := fun w => may_c n u w hn hu
  have b1 := behind (laidNew w (.cells #[.string n] 9)) (laidNew _ (.cells #[.string n, .string u] 84))
  have y1 : ((w.alloc (.cells #[.string n] 9)).alloc (.cells #[.string n, .string u] 84)).cell? ⟨w.heap.size + 1, 0, none⟩ = some (.string n) := laid_two _ _ (by simp) _ _ _ 0 _ rfl
  have y2 : ((w.alloc (.cells #[.string n] 9)).alloc (.cells #[.string n, .string u] 84)).cell? ⟨w.heap.size + 1, 1, none⟩ = some (.string u) := laid_two _ _ (by simp) _ _ _ 1 _ rfl
  cases hck : checkL l with
  | false =>
    rw [hck] at hC
    clear hck he
    go_enter Tryz.func173, Tryz.ntmps173
    go_wp2_with (go_at_call 147; refine (hC _ (h.below b1)).mono ?_; rintro e w2 ⟨rfl, hb2⟩)
    go_ret2
    exact ⟨rfl, behind b1 hb2⟩
  | true =>
    rw [hck] at he
    rw [hck] at hC
    have hatt : attB (n, u) = false := by simpa using he
    rw [hatt] at hM
    clear hck he hatt
    go_enter Tryz.func173, Tryz.ntmps173
    go_wp2_with (first | (go_at_call 147; refine (hC _ (h.below b1)).mono ?_; rintro e w2 ⟨rfl, hb2⟩; have y1 := keep_cell hb2 y1; have y2 := keep_cell hb2 y2) | (go_at_call 164; refine (hM _).mono ?_; rintro e w3 ⟨rfl, hb3⟩))
    go_ret2
    exact ⟨rfl, behind (behind b1 hb2) hb3⟩

/-- how what is put together stands to the attributes with one more, or another value -/
theorem set_end {l : List At} {n u : ByteArray} {out : List At} {w w' : World} {e : Ending} (hck : checkL l = true) (hatt : attB (n, u) = true) (ho : out = putL l n u)
    (h : ∃ a, e = .returned (.tuple #[a, .int .i64 ((if out.length ≤ 64 then 0 else 3 : Nat) : Int)]) ∧ OwnA w' w.heap.size a (if out.length ≤ 64 then out else []) ∧ Below w.heap.size w w') :
    ∃ a, e = .returned (.tuple #[a, .int .i64 ((setE l n u : Nat) : Int)]) ∧ OwnA w' w.heap.size a (setL l n u) ∧ Below w.heap.size w w' := by
  subst ho
  have h3 : (checkL l && nameB n.data.toList && mayL u.data.toList) = true := by
    have : (nameB n.data.toList && mayL u.data.toList) = true := hatt
    rw [Bool.and_assoc, hck, this]; rfl
  by_cases hz : (putL l n u).length ≤ 64
  · obtain ⟨e1, e2⟩ := setE_ok h3 hz
    rw [if_pos hz, if_pos hz] at h
    rw [e1, e2]; exact h
  · obtain ⟨e1, e2⟩ := setE_full h3 hz
    rw [if_neg hz, if_neg hz] at h
    rw [e1, e2]; exact h
theorem set_any (v : Value) (l : List At) (n u : ByteArray) (w : World) (h : Attrs w v l) (hn : n.size ≤ 140737488351232) (hu : u.size ≤ 140737488351232) : Calls Tryz.prog 173 #[v, .string n, .string u] w fun e w' =>
    ∃ a, e = .returned (.tuple #[a, .int .i64 ((setE l n u : Nat) : Int)]) ∧ OwnA w' w.heap.size a (setL l n u) ∧ Below w.heap.size w w' := by
  cases he : (checkL l && attB (n, u)) with
  | false =>
    have h3 : (checkL l && nameB n.data.toList && mayL u.data.toList) = false := by rw [Bool.and_assoc]; exact he
    obtain ⟨e1, e2⟩ := setE_no h3
    rw [e1, e2]
    refine (err_set v l n u w h hn hu he).mono ?_
    rintro e w2 ⟨rfl, hb⟩
    exact ⟨_, rfl, ⟨⟨rfl, .inl ⟨rfl, rfl⟩⟩, fun a ha => (by cases ha)⟩, hb⟩
  | true =>
    simp only [Bool.and_eq_true] at he
    obtain ⟨hck, hatt⟩ := he
    have hlen := (check_parts hck).1
    obtain ⟨p1, p2, p3⟩ := put_place n (check_parts hck).2.2
    have h' := h
    obtain ⟨p, cap, rfl, hl, ⟨hs, h0, hcap⟩, hc⟩ := h'
    by_cases hlt : l.findIdx (geP n) < l.length
    · obtain ⟨b, o, rfl, hb, hcc⟩ := hc (by omega)
      cases hp : (l[l.findIdx (geP n)].1.toList == n.toList) with
      | true =>
        refine (set_at b o cap l n u w h hn hu hatt hck _ rfl hlt hp hcap hlen hs hb hcc).mono fun e w2 hx => set_end hck hatt ?_ hx
        rw [p1, p2 hlt hp]; rfl
      | false =>
        refine (set_ahead b o cap l n u w h hn hu hatt hck _ rfl hlt hp hcap hlen hs hb hcc).mono fun e w2 hx => set_end hck hatt ?_ hx
        rw [p1, p3 (fun _ => hp)]; rfl
    · have hk : l.findIdx (geP n) = l.length := by have := idx_le (geP n) l; omega
      rw [hk, List.take_length] at p1
      have p4 := p3 (fun h => absurd h hlt)
      rw [hk, List.drop_length] at p4
      have ho : l ++ (n, u) :: [] = putL l n u := by unfold putL; rw [← p1, ← p4]
      cases p with
      | some ad => exact (set_miss ad cap l n u w h hn hu hatt hck hk hcap hlen hs).mono fun e w2 hx => set_end hck hatt ho hx
      | none =>
        have hc0 := h0 rfl
        have hl0 : l = [] := List.length_eq_zero_iff.1 (by omega)
        subst hc0
        subst hl0
        exact (set_nil n u w h hn hu hatt hck hk).mono fun e w2 hx => set_end hck hatt ho hx
end Go.Proofs.YtbhlnemahhndoaaGreatDoor
