import Derived.Test.YtcdlleeonfnamaaConcat
import Derived.Test.YtcdlleeonfnamaaGet
import Derived.Test.YtcdlleeonfnamaaCheckC
import Derived.Deep.RegionWith
namespace Go.Proofs.Ytcdlleeonfnamaa
open Go.RowKit
set_option maxRecDepth 100000

theorem attrs_lo {w : World} {p : Option Addr} {cap k : Nat} {l : List At} (h : Attrs w (.slice p l.length cap) l) (hk : k ≤ l.length) : Attrs w (.slice p k cap) (l.take k) := by
  obtain ⟨p2, c2, hv, hl, ⟨hs, h0, hle⟩, hc⟩ := h
  injection hv with e1 e2 e3
  subst e1; subst e3
  have hlen : (l.take k).length = k := by rw [List.length_take]; omega
  refine ⟨p, cap, by rw [hlen], by omega, ⟨fun a ha => hs a (List.mem_of_mem_take ha), h0, by omega⟩, fun hpos => ?_⟩
  rw [hlen] at hpos
  obtain ⟨b, o, hp, hb, hcc⟩ := hc (by omega)
  refine ⟨b, o, hp, hb, fun i hi => ?_⟩
  rw [hlen] at hi
  rw [List.getElem_take]
  exact hcc i (by omega)
theorem attrs_hi {w : World} {p q : Option Addr} {cap t : Nat} {l : List At} (h : Attrs w (.slice p l.length cap) l) (ht : t ≤ l.length) (hq : t < l.length → q = p.map (·.add (t * 2))) (hn : q = none → p = none) : Attrs w (.slice q (l.length - t) (cap - t)) (l.drop t) := by
  obtain ⟨p2, c2, hv, hl, ⟨hs, h0, hle⟩, hc⟩ := h
  injection hv with e1 e2 e3
  subst e1; subst e3
  have hlen : (l.drop t).length = l.length - t := by rw [List.length_drop]
  refine ⟨q, cap - t, by rw [hlen], by omega, ⟨fun a ha => hs a (List.mem_of_mem_drop ha), fun e => by have := h0 (hn e); omega, by omega⟩, fun hpos => ?_⟩
  rw [hlen] at hpos
  obtain ⟨b, o, hp, hb, hcc⟩ := hc (by omega)
  refine ⟨b, o + t * 2, by rw [hq (by omega), hp]; exact congrArg some (add_any b o (t * 2)), hb, fun i hi => ?_⟩
  rw [hlen] at hi
  rw [List.getElem_drop]
  have := hcc (t + i) (by omega)
  rw [show o + t * 2 + i * 2 = o + (t + i) * 2 by omega]
  exact this
theorem own_base {w : World} {a b n sz : Nat} {e : TypeId} {v : Value} {xs : List Value} (h : w.ownsRow b e sz v n xs) (hab : a ≤ b) : w.ownsRow a e sz v n xs := by
  obtain ⟨h1, h2⟩ := h
  refine ⟨h1, ?_⟩
  rcases h2 with h2 | ⟨g, cap, cur, rfl, hB, r⟩
  · exact .inl h2
  · exact .inr ⟨g, cap, cur, rfl, Nat.le_trans hab hB, r⟩

theorem concat_two (w : World) (v1 v2 : Value) (l1 l2 : List At) (h1 : Attrs w v1 l1) (h2 : Attrs w v2 l2) (hn : (l1 ++ l2).length ≤ 100000) :
    Calls Try.prog 25 #[.slice (some ⟨w.heap.size, 0, none⟩) 2 2] (w.alloc (.cells #[v1, v2] 22)).drew fun e w' =>
      ∃ v, e = .returned v ∧ w'.ownsRow w.heap.size 46 2 v (l1 ++ l2).length (atCells (l1 ++ l2)) ∧ Below w.heap.size w w' := by
  have hb : Below w.heap.size w (w.alloc (.cells #[v1, v2] 22)).drew := (laidNew _ _).drew
  have hc := concat_c w.heap.size (fun k => if k = 0 then v1 else v2) [l1, l2] (w.alloc (.cells #[v1, v2] 22)).drew (by simp) (by simpa using hn) (by simp) (fun k hk => by
    have : k = 0 ∨ k = 1 := by simp at hk; omega
    rcases this with rfl | rfl
    · exact ⟨by rw [World.cell?_drew, World.cell?_alloc_new]; rfl, h1.below hb⟩
    · exact ⟨by rw [World.cell?_drew, World.cell?_alloc_new]; rfl, h2.below hb⟩)
  have e : [l1, l2].flatten = l1 ++ l2 := by simp
  rw [e] at hc
  refine hc.mono ?_
  rintro e w2 ⟨v, he, hr, hb2⟩
  exact ⟨v, he, own_base hr (by simp), behind hb hb2⟩
theorem hi_eq {b o t cap n : Nat} (h : n ≤ cap) : t < n → (if cap = t then some (⟨b, o, none⟩ : Addr) else some ⟨b, o + t * 2, none⟩) = (some (⟨b, o, none⟩ : Addr)).map (·.add (t * 2)) := fun ht => by
  rw [if_neg (by omega)]; exact congrArg some (add_any b o (t * 2)).symm
theorem if_some {c : Prop} [Decidable c] {a b : Addr} {q : Prop} : (if c then some a else some b) = none → q := by split <;> intro h <;> cases h
theorem attrs_empty {w : World} {q : Option Addr} {c : Nat} (h : q = none → False) : Attrs w (.slice q 0 c) [] := ⟨q, c, rfl, by simp, ⟨fun a ha => (by cases ha), fun e => (h e).elim, Nat.zero_le _⟩, fun h => absurd h (by simp)⟩
theorem cut_sized {l : List At} (h : Sized l) (n : ByteArray) : Sized (cutL l n) := fun a ha => h a (List.mem_filter.1 ha).1

set_option maxHeartbeats 4000000 in
theorem unset_hit (b o : Nat) (cap : Nat) (l : List At) (n : ByteArray) (w : World) (h : Attrs w (.slice (some ⟨b, o, none⟩) l.length cap) l) (hn : n.size ≤ 140737488351232)
    (hck : checkL l = true) (hname : nameB n.data.toList = true) (k : Nat) (hk : l.findIdx (isP n) = k) (hkl : k < l.length) (hcap : l.length ≤ cap) (hlen : l.length ≤ 64) (hs : Sized l) :
    Calls Try.prog 12 #[.slice (some ⟨b, o, none⟩) l.length cap, .string n] w fun e w' => ∃ a, e = .returned (.tuple #[a, .int .i64 0]) ∧ OwnA w' w.heap.size a (cutL l n) ∧ Below w.heap.size w w' := by
  have HCUT := Lib.hid (cut_place n (check_parts hck).2.2)
  rw [hk, Nat.min_eq_left (show k + 1 ≤ l.length by omega)] at HCUT
  have hC := fun w h => check_any (.slice (some ⟨b, o, none⟩) l.length cap) l w h
  rw [hck] at hC
  have hN := fun w => name_any n w (by unfold maxLen; omega)
  rw [hname] at hN
  have hF := fun B w h hB hlt => find_named (.slice (some ⟨b, o, none⟩) l.length cap) l n B w h hB hlt
  rw [hk] at hF
  have e1 : IntKind.i64.wrap ((k : Int) + 1) = (k : Int) + 1 := by rw [IntKind.wrap_i64]; omega
  have f1 : (0 : Int) ≤ (k : Int) := by omega
  have f2 : (k : Int) ≤ (cap : Int) := by omega
  have f3 : (0 : Int) ≤ (k : Int) + 1 := by omega
  have f4 : (k : Int) + 1 ≤ (l.length : Int) := by omega
  have f5 : ((k : Int) + 1).toNat = k + 1 := by omega
  obtain ⟨q, hq⟩ : ∃ q, (if cap = k + 1 then some (⟨b, o, none⟩ : Addr) else some ⟨b, o + (k + 1) * 2, none⟩) = q := ⟨_, rfl⟩
  have Q1 : Hid (k + 1 < l.length → q = (some (⟨b, o, none⟩ : Addr)).map (·.add ((k + 1) * 2))) := Lib.hid (by rw [← hq]; exact hi_eq hcap)
  have Q2 : Hid (q = none → some (⟨b, o, none⟩ : Addr) = none) := Lib.hid (by rw [← hq]; exact if_some)
  clear hck hname hk
  go_enter Try.func12, Try.ntmps12
  go_wp2_with (first
    | (go_at_call 13; refine (hC _ h).mono ?_; rintro e w2 ⟨rfl, hb2⟩; have h2 := h.below hb2)
    | (go_at_call 14; refine (hN _).mono ?_; rintro e w3 ⟨rfl, rfl⟩)
    | (go_at_call 26; refine (named_c n _).mono ?_; rintro e w3 ⟨rfl, rfl⟩)
    | (go_at_call 23; refine (hF _ _ (h2.below (laidNew _ _)) (by rw [World.cell?_alloc_new]; rfl) (by simp)).mono ?_; rintro e w4 ⟨rfl, hb4⟩; have h4 := (h2.below (laidNew _ _)).below hb4; have b4 := behind (behind hb2 (laidNew _ _)) hb4))
  (first | (go_region_with ((go_at_call 25; refine (concat_two w4 _ _ (l.take k) (l.drop (k + 1)) (attrs_lo h4 (by omega)) (attrs_hi h4 (by omega) Q1.out Q2.out) (by simp; omega)).mono ?_; rintro e w6 ⟨v6, rfl, r6, b6⟩))))
  go_wp2
  go_ret2
  have hz := b4.size
  rw [HCUT.out] at r6
  exact ⟨_, rfl, ⟨own_base r6 hz, cut_sized hs n⟩, behind b4 b6⟩

set_option maxHeartbeats 4000000 in
theorem unset_miss (ad : Addr) (cap : Nat) (l : List At) (n : ByteArray) (w : World) (h : Attrs w (.slice (some ad) l.length cap) l) (hn : n.size ≤ 140737488351232)
    (hck : checkL l = true) (hname : nameB n.data.toList = true) (hk : l.findIdx (isP n) = l.length) (hcap : l.length ≤ cap) (hlen : l.length ≤ 64) (hs : Sized l) :
    Calls Try.prog 12 #[.slice (some ad) l.length cap, .string n] w fun e w' => ∃ a, e = .returned (.tuple #[a, .int .i64 0]) ∧ OwnA w' w.heap.size a (cutL l n) ∧ Below w.heap.size w w' := by
  have HCUT := Lib.hid (cut_place n (check_parts hck).2.2)
  rw [hk, Nat.min_eq_right (show l.length ≤ l.length + 1 by omega), List.take_length, List.drop_length] at HCUT
  have hC := fun w h => check_any (.slice (some ad) l.length cap) l w h
  rw [hck] at hC
  have hN := fun w => name_any n w (by unfold maxLen; omega)
  rw [hname] at hN
  have hF := fun B w h hB hlt => find_named (.slice (some ad) l.length cap) l n B w h hB hlt
  rw [hk] at hF
  have e1 : IntKind.i64.wrap ((l.length : Int) + 1) = (l.length : Int) + 1 := by rw [IntKind.wrap_i64]; omega
  have f1 : (0 : Int) ≤ (l.length : Int) := by omega
  have f2 : (l.length : Int) ≤ (cap : Int) := by omega
  have f4 : ¬ ((l.length : Int) + 1 ≤ (l.length : Int)) := by omega
  obtain ⟨q, hq⟩ : ∃ q, (if cap = l.length then some ad else some (ad.add (l.length * 2))) = q := ⟨_, rfl⟩
  have Q2 : Hid (q = none → False) := Lib.hid (by rw [← hq]; exact if_some)
  clear hck hname hk
  go_enter Try.func12, Try.ntmps12
  go_wp2_with (first
    | (go_at_call 13; refine (hC _ h).mono ?_; rintro e w2 ⟨rfl, hb2⟩; have h2 := h.below hb2)
    | (go_at_call 14; refine (hN _).mono ?_; rintro e w3 ⟨rfl, rfl⟩)
    | (go_at_call 26; refine (named_c n _).mono ?_; rintro e w3 ⟨rfl, rfl⟩)
    | (go_at_call 23; refine (hF _ _ (h2.below (laidNew _ _)) (by rw [World.cell?_alloc_new]; rfl) (by simp)).mono ?_; rintro e w4 ⟨rfl, hb4⟩; have h4 := (h2.below (laidNew _ _)).below hb4; have b4 := behind (behind hb2 (laidNew _ _)) hb4))
  (first | (go_region_with ((go_at_call 25; refine (concat_two w4 _ _ l [] h4 (attrs_empty Q2.out) (by simp; omega)).mono ?_; rintro e w6 ⟨v6, rfl, r6, b6⟩))))
  go_wp2
  go_ret2
  have hz := b4.size
  rw [HCUT.out] at r6
  exact ⟨_, rfl, ⟨own_base r6 hz, cut_sized hs n⟩, behind b4 b6⟩

set_option maxHeartbeats 1000000 in
theorem unset_nil (n : ByteArray) (w : World) (h : Attrs w (.slice none 0 0) []) (hn : n.size ≤ 140737488351232) (hname : nameB n.data.toList = true) :
    Calls Try.prog 12 #[.slice none 0 0, .string n] w fun e w' => ∃ a, e = .returned (.tuple #[a, .int .i64 0]) ∧ OwnA w' w.heap.size a (cutL [] n) ∧ Below w.heap.size w w' := by
  have hC := fun w h => check_any (.slice none 0 0) [] w h
  rw [show checkL [] = true from by decide] at hC
  have hN := fun w => name_any n w (by unfold maxLen; omega)
  rw [hname] at hN
  have hF := fun B w h hB hlt => find_named (.slice none 0 0) [] n B w h hB hlt
  rw [show ([] : List At).findIdx (isP n) = 0 from rfl] at hF
  clear hname
  go_enter Try.func12, Try.ntmps12
  go_wp2_with (first
    | (go_at_call 13; refine (hC _ h).mono ?_; rintro e w2 ⟨rfl, hb2⟩; have h2 := h.below hb2)
    | (go_at_call 14; refine (hN _).mono ?_; rintro e w3 ⟨rfl, rfl⟩)
    | (go_at_call 26; refine (named_c n _).mono ?_; rintro e w3 ⟨rfl, rfl⟩)
    | (go_at_call 23; refine (hF _ _ (h2.below (laidNew _ _)) (by rw [World.cell?_alloc_new]; rfl) (by simp)).mono ?_; rintro e w4 ⟨rfl, hb4⟩; have h4 := (h2.below (laidNew _ _)).below hb4; have b4 := behind (behind hb2 (laidNew _ _)) hb4))
  (first | (go_region_with ((go_at_call 25; refine (concat_two w4 _ _ [] [] h4 h4 (by simp)).mono ?_; rintro e w6 ⟨v6, rfl, r6, b6⟩))))
  go_wp2
  go_ret2
  exact ⟨_, rfl, ⟨own_base r6 b4.size, fun a ha => by cases ha⟩, behind b4 b6⟩

theorem err_one (v : Value) (l : List At) (n : ByteArray) (w : World) (h : Attrs w v l) (hn : n.size ≤ 140737488351232) (he : (checkL l && nameB n.data.toList) = false) :
    Calls Try.prog 12 #[v, .string n] w fun e w' => e = .returned (.tuple #[.slice none 0 0, .int .i64 1]) ∧ Below w.heap.size w w' := by
  have hC := fun w h => check_any v l w h
  have hN := fun w => name_any n w (by unfold maxLen; omega)
  cases hck : checkL l with
  | false =>
    rw [hck] at hC
    clear hck he
    go_enter Try.func12, Try.ntmps12
    go_wp2_with (go_at_call 13; refine (hC _ h).mono ?_; rintro e w2 ⟨rfl, hb2⟩)
    go_ret2
    exact ⟨rfl, hb2⟩
  | true =>
    rw [hck] at he
    rw [hck] at hC
    have hname : nameB n.data.toList = false := by simpa using he
    rw [hname] at hN
    clear hck he hname
    go_enter Try.func12, Try.ntmps12
    go_wp2_with (first | (go_at_call 13; refine (hC _ h).mono ?_; rintro e w2 ⟨rfl, hb2⟩) | (go_at_call 14; refine (hN _).mono ?_; rintro e w3 ⟨rfl, rfl⟩))
    go_ret2
    exact ⟨rfl, hb2⟩

theorem unset_any (v : Value) (l : List At) (n : ByteArray) (w : World) (h : Attrs w v l) (hn : n.size ≤ 140737488351232) : Calls Try.prog 12 #[v, .string n] w fun e w' =>
    ∃ a, e = .returned (.tuple #[a, .int .i64 ((cutE l n : Nat) : Int)]) ∧ OwnA w' w.heap.size a (unsL l n) ∧ Below w.heap.size w w' := by
  cases he : (checkL l && nameB n.data.toList) with
  | false =>
    obtain ⟨e1, e2⟩ := cutE_no he
    rw [e1, e2]
    refine (err_one v l n w h hn he).mono ?_
    rintro e w2 ⟨rfl, hb⟩
    exact ⟨_, rfl, ⟨⟨rfl, .inl ⟨rfl, rfl⟩⟩, fun a ha => (by cases ha)⟩, hb⟩
  | true =>
    obtain ⟨e1, e2⟩ := cutE_ok he
    rw [e1, e2]
    simp only [Bool.and_eq_true] at he
    obtain ⟨hck, hname⟩ := he
    have hlen := (check_parts hck).1
    have h' := h
    obtain ⟨p, cap, rfl, hl, ⟨hs, h0, hcap⟩, hc⟩ := h'
    by_cases hlt : l.findIdx (isP n) < l.length
    · obtain ⟨b, o, rfl, _, _⟩ := hc (by omega)
      exact unset_hit b o cap l n w h hn hck hname _ rfl hlt hcap hlen hs
    · have hk : l.findIdx (isP n) = l.length := by have := idx_le (isP n) l; omega
      cases p with
      | some ad => exact unset_miss ad cap l n w h hn hck hname hk hcap hlen hs
      | none =>
        have hc0 := h0 rfl
        have hl0 : l = [] := List.length_eq_zero_iff.1 (by omega)
        subst hc0
        subst hl0
        exact unset_nil n w h hn hname
end Go.Proofs.Ytcdlleeonfnamaa
