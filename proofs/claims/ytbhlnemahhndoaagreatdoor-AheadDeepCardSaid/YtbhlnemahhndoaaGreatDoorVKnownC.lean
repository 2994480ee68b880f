/- Merged: KnownC. -/
import Derived.Test.YtbhlnemahhndoaaGreatDoorU18
import Derived.Test.YtbhlnemahhndoaaGreatDoorU23
import Derived.Test.YtbhlnemahhndoaaGreatDoorU19
namespace Go.Proofs.YtbhlnemahhndoaaGreatDoor
open Go.RowKit Go.Maps
set_option maxRecDepth 100000

/-! ### attributes as they are ahead of all lines -/
def AttL (D : DataW Value) (l : List At) : Prop := IsMap D ∧ ∀ nm : List UInt8, D.atKey (.string nm) (.held attZ) = .held (attV (getL l (bT nm)) false false)
theorem attL_nil : AttL (.map []) [] := ⟨⟨[], rfl⟩, fun _ => rfl⟩
theorem rise_fresh {l : List At} (h : Rise l) {k : Nat} (hk : k < l.length) : getL (l.take k) l[k].1 = none := by
  unfold getL
  rw [Option.map_eq_none_iff, List.find?_eq_none]
  intro a ha e
  obtain ⟨j, hj, rfl⟩ := List.mem_take_iff_getElem.1 ha
  have h1 := List.pairwise_iff_getElem.1 h j k (by omega) hk (by omega)
  have h2 := less_ne h1
  rw [e] at h2; cases h2
theorem attL_put {D : DataW Value} {l : List At} (h : AttL D l) (a : At) (hn : getL l a.1 = none) : AttL (D.put (.string a.1.data.toList) (.held (attV (some a.2) false false))) (l ++ [a]) := by
  obtain ⟨hm, h⟩ := h
  refine ⟨hm.put _ _, fun x => ?_⟩
  rw [getL_snoc]
  by_cases e : x = a.1.data.toList
  · subst e
    rw [atKey_put_same (k := Lit.string _) hm trivial, bT_data, hn]
    simp
  · have hne : (Lit.string x : Lit) ≠ .string a.1.data.toList := fun h => by injection h with h; exact e h
    have h2 : ¬ (a.1.toList == (bT x).toList) = true := fun h3 => by
      have := congrArg (fun t : ByteArray => t.data.toList) (bytes_same.1 h3)
      simp only [bT_list] at this
      exact e this.symm
    rw [atKey_put_other hne, h x, if_neg h2]
    cases getL l (bT x) <;> rfl
theorem attL_is {D : DataW Value} {l : List At} (h : AttL D l) (c : Nat) : AttIs D ⟨l, [], [], [], [], [], c, false⟩ := ⟨h.1, fun nm => by rw [h.2 nm]; simp⟩

set_option maxHeartbeats 4000000 in
theorem known_m (v : Value) (l : List At) (w : World) (h : Attrs w v l) : Calls Tryz.prog 102 #[v] w fun e w' =>
    e = .returned (.map (some w.heap.size)) ∧ (∃ D n, w'.ownsMap Tryz.prog 9 heldR w.heap.size n D ∧ n ≤ 64 ∧ AttL D (if checkL l = true then l else [])) ∧ Below w.heap.size w w' := by
  have hmm := @run_makeMap Tryz.prog
  have hC := fun w h => check_any v l w h
  have h0 := h.below (laidNew w (.map #[] 0))
  have hCh := hC _ h0
  clear hC
  obtain ⟨p, cap, rfl, hl, -, hc⟩ := h
  have O0 := Lib.hid (World.ownsMap_made w Tryz.prog 9 heldR)
  clear h0
  cases hck : checkL l with
  | false =>
    rw [hck] at hCh
    clear hck
    go_enter Tryz.func102, Tryz.ntmps102
    go_wp2_with (go_at_call 147; refine hCh.mono ?_; rintro e w2 ⟨rfl, hb2⟩)
    go_ret
    exact ⟨rfl, ⟨_, 0, keep_map O0.out (hb2.block _ (by simp)), by omega, by simpa using attL_nil⟩, behind (laidNew _ _) hb2⟩
  | true =>
    rw [hck] at hCh
    obtain ⟨hlen, hatt, hrise⟩ := check_parts hck
    have hszs : ∀ k (hk : k < l.length), l[k].1.size ≤ maxLen := fun k hk => by
      have := hatt l[k] (List.getElem_mem hk)
      unfold attB at this
      simp only [Bool.and_eq_true] at this
      have := (name_size this.1).2
      simp at this
      unfold maxLen; omega
    have HSZ := Lib.hid hszs
    have HRI := Lib.hid hrise
    clear hck hatt hrise hszs
    go_enter Tryz.func102, Tryz.ntmps102
    go_wp2_with (go_at_call 147; refine hCh.mono ?_; rintro e w2 ⟨rfl, hb2⟩)
    clear hCh
    have hb02 := behind (laidNew w (.map #[] 0)) hb2
    have O2 : Hid (w2.ownsMap Tryz.prog 9 heldR w.heap.size 0 (.map [])) := Lib.hid (keep_map O0.out (hb2.block _ (by simp)))
    have B02 := Lib.hid hb02
    clear O0 hb2 hb02
    go_loopw [13] (fun i wr => ∃ (k : Nat) (D : DataW Value), k ≤ l.length ∧ i = .int .i64 k ∧ wr.ownsMap Tryz.prog 9 heldR w.heap.size k D ∧ AttL D (l.take k) ∧ Below w.heap.size w wr) (fun i _ => l.length - (intOf i).toNat)
    case atStart => exact ⟨0, .map [], Nat.zero_le _, rfl, O2.out, attL_nil, B02.out⟩
    case round =>
      clear O2 B02
      obtain ⟨k, D, hk, rfl, hown, hM, hbel⟩ := hrel
      have HM := Lib.hid hM
      have HO := Lib.hid hown
      clear hM hown
      by_cases hlt : k < l.length
      · obtain ⟨b, o, rfl, hb, hcc⟩ := hc (by omega)
        obtain ⟨c1, c2⟩ := hcc k hlt
        have d1 := (hbel.cell (p := ⟨b, o + k * 2, none⟩) hb).trans c1
        have d2 := (hbel.cell (p := ⟨b, o + k * 2 + 1, none⟩) hb).trans c2
        have hn := HSZ.out k hlt
        have HT : Hid (l.take (k + 1) = l.take k ++ [l[k]]) := Lib.hid (List.take_succ_eq_append_getElem hlt)
        have HF := Lib.hid (rise_fresh HRI.out hlt)
        obtain ⟨nb, hnb⟩ : ∃ nb, l[k].1 = nb := ⟨_, rfl⟩
        obtain ⟨vb, hvb⟩ : ∃ vb, l[k].2 = vb := ⟨_, rfl⟩
        have HP : Hid (l[k] = (nb, vb)) := Lib.hid (by rw [← hnb, ← hvb])
        rw [hnb] at d1 hn
        rw [hvb] at d2
        clear hc hcc c1 c2 hnb hvb
        have hkm : k < maxLen := by unfold maxLen; omega
        go_wp2_with (at_mapUpdate; refine wpList_mapUpdate_own _ rfl _ _ _ 109 rfl 9 222 key_k Tryz.underlying109 heldR w.heap.size k D rfl (HO.out.alloc _) hkm _ _ _ rfl rfl (key_of nb hn) _ [] rfl ?_; intro w5 hm5 hg5)
        go_roundw
        case rel => exact ⟨k + 1, _, by omega, by go_num, hm5, by have hf := HF.out; rw [HP.out] at hf; rw [HT.out, HP.out]; exact attL_put HM.out (nb, vb) hf, (behind hbel (laidNew _ _)).grown hg5 (by have := hbel.size; simp; omega) (fun j e => by injection e with e; omega)⟩
        case measure => simp [intOf]; omega
      · have HE : Hid (l.take k = l) := Lib.hid (List.take_of_length_le (by omega))
        go_wp2
        go_ret
        exact ⟨rfl, ⟨D, k, HO.out, by omega, by rw [← HE.out]; exact HM.out⟩, hbel⟩
end Go.Proofs.YtbhlnemahhndoaaGreatDoor
