import Derived.Test.YtcdlleeonfnamaaCutC
namespace Go.Proofs.Ytcdlleeonfnamaa
open Go.RowKit
set_option maxRecDepth 100000

/-- what next answers -/
def nextV (s : ByteArray) : Option (List UInt8 × List UInt8 × List UInt8) → Value
  | none => .tuple #[.string s, .string ⟨#[]⟩, .string ⟨#[]⟩]
  | some (a, nm, b) => .tuple #[.string (bT a), .string (bT nm), .string (bT b)]
theorem next_none {s : ByteArray} {o : Option (List UInt8 × List UInt8 × List UInt8)} (h : o = none) : Value.tuple #[.string s, .string ⟨#[]⟩, .string ⟨#[]⟩] = nextV s o := by rw [h]; rfl
theorem next_some {s a nm b : ByteArray} {o : Option (List UInt8 × List UInt8 × List UInt8)} (h : o = some (a.data.toList, nm.data.toList, b.data.toList)) : Value.tuple #[.string a, .string nm, .string b] = nextV s o := by
  rw [h]; show _ = Value.tuple #[.string (bT a.data.toList), .string (bT nm.data.toList), .string (bT b.data.toList)]; rw [bT_data, bT_data, bT_data]

set_option maxHeartbeats 4000000 in
theorem next_c (s : ByteArray) (w : World) (hs : s.size ≤ 140737488351232) : Calls Try.prog 32 #[.string s] w fun e w' => e = .returned (nextV s (nextL s.data.toList)) ∧ Below w.heap.size w w' := by
  have HZ := Lib.hid (show s.data.toList.length = s.size by simp)
  go_enter Try.func32, Try.ntmps32
  go_wp2
  go_loopw [12] (fun i wr => ∃ k : Nat, k ≤ s.size ∧ i = .int .i64 k ∧ nextL s.data.toList = nextK s.data.toList k ∧ Below w.heap.size w wr) (fun i _ => s.size - (intOf i).toNat)
  case atStart => exact ⟨0, by omega, rfl, (nextK_zero _).symm, Below.refl _ _⟩
  case round =>
    obtain ⟨k, hk, rfl, hn, hbel⟩ := hrel
    have HN := Lib.hid hn
    clear hn
    by_cases hlt : k < s.size
    · have hlt' : k < s.data.toList.length := by rw [HZ.out]; exact hlt
      have HS := Lib.hid (fun h => nextK_none s.data.toList k hlt' h)
      have hdrop : s.data.toList.drop k = s[k] :: s.data.toList.drop (k + 1) := by rw [List.drop_eq_getElem_cons hlt']; congr 1
      have e1 : IntKind.i64.wrap ((k : Int) + 1) = ((k + 1 : Nat) : Int) := by rw [IntKind.wrap_i64]; omega
      by_cases h123 : s[k] = 123
      · have hne : ((s[k].toNat : Int) != 123) = false := by rw [h123]; rfl
        obtain ⟨r, hr⟩ : ∃ r : ByteArray, s.extract (k + 1) s.size = r := ⟨_, rfl⟩
        have hrl : r.data.toList = s.data.toList.drop (k + 1) := by rw [← hr, extract_list]
        have hrz : r.size ≤ s.size := by
          have h1 : r.data.toList.length = r.size := by simp
          have h2 := HZ.out
          rw [hrl, List.length_drop] at h1; omega
        rw [h123, ← hrl] at hdrop
        obtain ⟨u, hu⟩ : ∃ u : ByteArray, r.extract 0 (min r.size 61) = u := ⟨_, rfl⟩
        have hul : u.data.toList = r.data.toList.take 61 := by
          rw [← hu, extract_take]
          have h1 : r.data.toList.length = r.size := by simp
          by_cases h : r.size ≤ 61
          · rw [Nat.min_eq_left h, List.take_of_length_le (by omega), List.take_of_length_le (by omega)]
          · rw [Nat.min_eq_right (by omega)]
        have huz : u.size ≤ 61 := by
          have h1 : u.data.toList.length = u.size := by simp
          rw [hul, List.length_take] at h1; omega
        have hmin : min (r.size : Int) 61 = ((min r.size 61 : Nat) : Int) := by omega
        rcases index_at 125 u.data.toList with ⟨hi, _⟩ | ⟨p, q, hpq, hp, _⟩
        · have HY : Hid (nextL s.data.toList = nextK s.data.toList (k + 1)) := Lib.hid (by rw [HN.out]; exact HS.out (by rw [hdrop]; exact asked_no (by rw [← hul]; exact hi)))
          have hC := fun w => cut_no u 125 w hi
          clear hdrop hul hi HS hrl
          go_wp2_with (go_at_call 39; refine (hC _).mono ?_; rintro e w2 ⟨rfl, hb2⟩)
          go_roundw
          case rel => exact ⟨k + 1, by omega, by go_num, HY.out, behind hbel hb2⟩
          case measure => simp [intOf]; omega
        · have hak := asked_cut (t := r.data.toList) (by rw [← hul]; exact hpq) hp
          rw [← hdrop] at hak
          obtain ⟨pb, hpb⟩ : ∃ pb : ByteArray, bT p = pb := ⟨_, rfl⟩
          have hpl : pb.data.toList = p := by rw [← hpb]; exact bT_list p
          have hC := fun w => cut_at u 125 p q w (by omega) hpq hp
          rw [hpb] at hC
          have hpz : pb.size + 1 ≤ u.size := by
            have h1 : u.data.toList.length = u.size := by simp
            have h2 : pb.data.toList.length = pb.size := by simp
            rw [hpl] at h2
            rw [hpq] at h1
            simp at h1; omega
          have huz2 : u.size ≤ r.size := by
            have h1 : u.data.toList.length = u.size := by simp
            have h2 : r.data.toList.length = r.size := by simp
            rw [hul, List.length_take] at h1; omega
          have hNm := fun w => name_any pb w (by unfold maxLen; omega)
          rw [← hpl] at hak
          cases hname : nameB pb.data.toList with
          | false =>
            have HY : Hid (nextL s.data.toList = nextK s.data.toList (k + 1)) := Lib.hid (by rw [HN.out]; exact HS.out (by rw [hak, hname]; rfl))
            rw [hname] at hNm
            clear hdrop hul HS hrl hak hpl hpb hpq hp hname
            go_wp2_with (first | (go_at_call 39; refine (hC _).mono ?_; rintro e w2 ⟨rfl, hb2⟩) | (go_at_call 14; refine (hNm _).mono ?_; rintro e w3 ⟨rfl, rfl⟩))
            go_roundw
            case rel => exact ⟨k + 1, by omega, by go_num, HY.out, behind hbel hb2⟩
            case measure => simp [intOf]; omega
          | true =>
            obtain ⟨sa, hsa⟩ : ∃ sa : ByteArray, s.extract 0 k = sa := ⟨_, rfl⟩
            obtain ⟨rb, hrb⟩ : ∃ rb : ByteArray, r.extract (pb.size + 1) r.size = rb := ⟨_, rfl⟩
            have HY : Hid (nextL s.data.toList = some (sa.data.toList, pb.data.toList, rb.data.toList)) := Lib.hid (by
              rw [HN.out, nextK_some _ _ hlt' (nm := pb.data.toList) (by rw [hak, hname]; rfl), ← hsa, ← hrb, extract_take, extract_list, ← hrl]
              congr 3)
            rw [hname] at hNm
            clear hdrop hul HS hrl hak hpl hpb hpq hp hname
            have e5 : IntKind.i64.wrap ((pb.size : Int) + 1) = ((pb.size + 1 : Nat) : Int) := by rw [IntKind.wrap_i64]; omega
            have e6 : (((pb.size + 1 : Nat) : Int)).toNat = pb.size + 1 := by omega
            have e7 : (0 : Int) ≤ ((pb.size + 1 : Nat) : Int) := by omega
            have e8 : ((pb.size + 1 : Nat) : Int) ≤ (r.size : Int) := by omega
            have e9 : (k : Int) ≤ (s.size : Int) := by omega
            go_wp2_with (first | (go_at_call 39; refine (hC _).mono ?_; rintro e w2 ⟨rfl, hb2⟩) | (go_at_call 14; refine (hNm _).mono ?_; rintro e w3 ⟨rfl, rfl⟩))
            go_quiet (fail)
            go_wp2
            go_ret3
            exact ⟨ret_v (next_some HY.out), below_drewN (behind hbel hb2) _⟩
      · have hne : ((s[k].toNat : Int) != 123) = true := by
          simp only [bne_iff_ne, ne_eq]
          intro e; exact h123 (UInt8.toNat_inj.1 (by show s[k].toNat = 123; omega))
        have HY : Hid (nextL s.data.toList = nextK s.data.toList (k + 1)) := Lib.hid (by rw [HN.out]; exact HS.out (by rw [hdrop]; exact asked_other _ h123))
        clear hdrop h123 HS
        go_wp2
        go_roundw
        case rel => exact ⟨k + 1, by omega, by go_num, HY.out, hbel⟩
        case measure => simp [intOf]; omega
    · have HE : Hid (nextL s.data.toList = none) := Lib.hid (by rw [HN.out]; exact nextK_end _ _ (by rw [HZ.out]; omega))
      go_wp2
      go_ret3
      exact ⟨ret_v (next_none HE.out), hbel⟩
end Go.Proofs.Ytcdlleeonfnamaa
