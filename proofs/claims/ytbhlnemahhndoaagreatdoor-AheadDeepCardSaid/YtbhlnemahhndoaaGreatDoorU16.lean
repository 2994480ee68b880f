/- Merged: Split, Check. -/
import Derived.Test.YtbhlnemahhndoaaGreatDoorShelf
import Derived.Test.YtbhlnemahhndoaaGreatDoorVParts
namespace Go.Proofs.YtbhlnemahhndoaaGreatDoor
open Go.RowKit

/-- strings.genSplit at a point: what it asks of strings.Index and strings.Count is had at one byte without any variable -/
theorem genSplit_dot (s : ByteArray) (w : World) (hs : s.size < 4294967281) :
    Calls Tryz.prog 146 #[.string s, .string dot, .int .i64 0, .int .i64 (-1)] w fun e w' =>
      e = .returned (.slice (some ⟨w.heap.size, 0, none⟩) (Lib.countB s dot + 1) (Lib.countB s dot + 1)) ∧ w' = w.alloc (.cells ((Lib.splitB dot 0 (Lib.countB s dot) s).map Value.string).toArray 9) := by
  have h1 : 1 ≤ dot.size := Nat.le_refl _
  have hle := Lib.countB_le dot h1 s.size s (Nat.le_refl _)
  have hlen := Lib.splitB_all dot h1 0 _ s rfl
  have c := Any.strings_genSplit_core Tryz.lays221 (by kernel_rfl) s dot 0 (-1) (Lib.countB s dot + 1) w hs h1 (Nat.zero_le _)
    (fun x c hx => by
      have := Tryz.strings_Index_one x 46 (w.alloc (.cells c 9))
      have e : Lib.indexByte x.data.toList 46 = Lib.indexB x dot := (Lib.index_one _ 46).symm
      rw [e] at this; exact this)
    (by
      have := Tryz.strings_Count_one s 46 w
      have e : Lib.countByte s.data.toList 46 = Lib.countB s dot := (Lib.count_one 46 _).symm
      rw [e] at this; exact this)
    (by decide) (by decide) (by rw [if_pos (by decide)]; omega)
  rw [Nat.add_sub_cancel, hlen] at c
  have e2 : Lib.cellsOf (Lib.splitB dot 0 (Lib.countB s dot) s) (Lib.countB s dot + 1) = ((Lib.splitB dot 0 (Lib.countB s dot) s).map Value.string).toArray := by rw [← hlen]; exact Lib.cellsOf_full _
  rw [e2] at c
  exact c

set_option maxHeartbeats 400000 in
theorem split_dot (s : ByteArray) (w : World) (hs : s.size < 4294967281) :
    Calls Tryz.prog 98 #[.string s, .string dot] w fun e w' =>
      e = .returned (.slice (some ⟨w.heap.size, 0, none⟩) (Lib.countB s dot + 1) (Lib.countB s dot + 1)) ∧ w' = w.alloc (.cells ((Lib.splitB dot 0 (Lib.countB s dot) s).map Value.string).toArray 9) := by
  have c := genSplit_dot s w hs
  unfold dot at c ⊢
  go_enter Tryz.func98, Tryz.ntmps98
  go_wp2_with fail
  refine c.mono ?_
  rintro e w' ⟨rfl, rfl⟩
  go_wp2
  go_ret
  exact ⟨rfl, rfl⟩
end Go.Proofs.YtbhlnemahhndoaaGreatDoor
namespace Go.Proofs.YtbhlnemahhndoaaGreatDoor
open Go.RowKit

theorem take_all_succ (l : List ByteArray) (k : Nat) (h : k < l.length) (h1 : (l.take k).all (fun x => nameB x.data.toList) = true) (h2 : nameB l[k].data.toList = true) : (l.take (k + 1)).all (fun x => nameB x.data.toList) = true := by
  rw [List.take_succ_eq_append_getElem h, List.all_append, h1]; simp [h2]
theorem names_false (l : List ByteArray) (k : Nat) (h : k < l.length) (h2 : nameB l[k].data.toList = false) : l.all (fun x => nameB x.data.toList) = false := by
  rw [List.all_eq_false]; exact ⟨l[k], List.getElem_mem h, by simp [h2]⟩

/-- are all texts names? -/
def namesB (l : List ByteArray) : Bool := l.all fun x => nameB x.data.toList

set_option maxHeartbeats 400000 in
theorem all_any (b cap : Nat) (l : List ByteArray) (w : World) (hl : l.length ≤ 9223372036854775807) (hs : ∀ (j : Nat) (h : j < l.length), l[j].size ≤ maxLen) (hc : ∀ (j : Nat) (h : j < l.length), w.cell? ⟨b, j, none⟩ = some (.string l[j])) :
    Calls Tryz.prog 189 #[.func (.func 37) #[] #[], .slice (some ⟨b, 0, none⟩) l.length cap] w fun e w' => e = .returned (.bool (namesB l)) ∧ w = w' := by
  have HS := Lib.hid hs
  have HC := Lib.hid hc
  clear hs hc
  go_enter Tryz.func189, Tryz.ntmps189
  go_wp2
  go_loop [9] (fun i => ∃ k : Nat, k ≤ l.length ∧ i = .int .i64 k ∧ (l.take k).all (fun x => nameB x.data.toList) = true) (fun i => l.length - (intOf i).toNat)
  case atStart => exact ⟨0, by omega, rfl, by simp⟩
  case round =>
    obtain ⟨k, hk, rfl, ha⟩ := hrel
    have HA := Lib.hid ha
    clear ha
    by_cases hlt : k < l.length
    · have c1 := HC.out k hlt
      cases h1 : nameB l[k].data.toList
      · have HN := Lib.hid (names_false l k hlt h1)
        have H1 := Lib.hid h1
        clear h1
        go_wp2_with fail
        refine (name_any l[k] _ (HS.out k hlt)).mono ?_
        rintro e w' ⟨rfl, rfl⟩
        have h1 := H1.out
        go_wp2
        go_ret
        exact ⟨ret_bool HN.out.symm, rfl⟩
      · have HY := Lib.hid (take_all_succ l k hlt HA.out h1)
        have H1 := Lib.hid h1
        clear h1
        go_wp2_with fail
        refine (name_any l[k] _ (HS.out k hlt)).mono ?_
        rintro e w' ⟨rfl, rfl⟩
        have h1 := H1.out
        go_wp2
        go_round
        case rel => exact ⟨k + 1, by omega, by go_num, HY.out⟩
        case measure => simp [intOf]; omega
    · have HE := Lib.hid (show l.take k = l from List.take_of_length_le (by omega))
      go_wp2
      go_ret
      exact ⟨ret_bool (by unfold namesB; rw [HE.out] at HA; exact HA.out.symm), rfl⟩

theorem names_split (s : ByteArray) : namesB (Lib.splitB dot 0 (Lib.countB s dot) s) = (parts s.data.toList).all nameB := by
  unfold namesB
  rw [← split_parts, List.all_map]; rfl

theorem split_sizes (s : ByteArray) : ∀ x ∈ Lib.splitB dot 0 (Lib.countB s dot) s, x.size ≤ s.size := by
  have h : ∀ (k : Nat) (s : ByteArray), ∀ x ∈ Lib.splitB dot 0 k s, x.size ≤ s.size := by
    intro k
    induction k with
    | zero => intro s x hx; simp [Lib.splitB] at hx; subst hx; exact Nat.le_refl _
    | succ k ih =>
      intro s x hx
      unfold Lib.splitB at hx
      split at hx
      · simp at hx; subst hx; exact Nat.le_refl _
      · rcases List.mem_cons.1 hx with rfl | hx
        · rw [ByteArray.size_extract]; omega
        · have := ih _ x hx
          rw [ByteArray.size_extract] at this; omega
  exact h _ s

set_option maxHeartbeats 400000 in
theorem path_any (s : ByteArray) (w : World) :
    Calls Tryz.prog 169 #[.string s] w fun e w' => e = .returned (.bool (checkB s.data.toList)) ∧ Below w.heap.size w w' := by
  have hz : s.data.toList.length = s.size := by simp
  by_cases h60 : s.size ≤ 60
  · have HF := Lib.hid (checkB_short s.data.toList (by omega))
    have HS := Lib.hid (split_sizes s)
    have HL := Lib.hid (Lib.splitB_all dot (Nat.le_refl _) 0 _ s rfl)
    have HN := Lib.hid (names_split s)
    clear hz
    have hcl : Lib.countB s dot ≤ 60 := by have := Lib.countB_le dot (Nat.le_refl _) s.size s (Nat.le_refl _); omega
    have HB := Lib.hid (all_any w.heap.size (Lib.countB s dot + 1) (Lib.splitB dot 0 (Lib.countB s dot) s) (w.alloc (.cells ((Lib.splitB dot 0 (Lib.countB s dot) s).map Value.string).toArray 9)) (by rw [HL.out]; omega)
      (fun j h => by have := HS.out _ (List.getElem_mem h); unfold maxLen; omega) (fun j h => by
        rw [World.cell?_alloc_new]
        simp [h]))
    rw [HL.out] at HB
    have HSp := Lib.hid (split_dot s w (by omega))
    unfold dot at HSp HB
    go_enter Tryz.func169, Tryz.ntmps169
    go_wp2_with fail
    refine HSp.out.mono ?_
    rintro e w' ⟨rfl, rfl⟩
    go_wp2_with fail
    refine HB.out.mono ?_
    rintro e w' ⟨rfl, rfl⟩
    go_wp2
    go_ret
    refine ⟨ret_bool ?_, (Below.refl _ _).alloc (Nat.le_refl _) _⟩
    rw [HF.out]
    exact HN.out
  · have HF := Lib.hid (checkB_long s.data.toList (by omega))
    clear hz
    go_enter Tryz.func169, Tryz.ntmps169
    go_wp2
    go_ret
    exact ⟨ret_bool HF.out.symm, Below.refl _ _⟩
end Go.Proofs.YtbhlnemahhndoaaGreatDoor
