import Derived.Test.YtikeaiibociapaaGreatDoorLinesL
import Derived.Test.YtikeaiibociapaaGreatDoorSameT
import Derived.OwnWalk
import Derived.Maps.AppendAt
namespace Go.Proofs.YtikeaiibociapaaGreatDoor.src
open Go.RowKit
set_option maxRecDepth 100000

theorem strInfo0 : (Tryz.prog.info? 9).map (fun i => (i.zero, i.size, i.bytes)) = some (some (.string ⟨#[]⟩), 1, 16) := by kernel_rfl
theorem one_new0 (w : World) (x : ByteArray) (t : TypeId) : ∀ j u, [Value.string x][j]? = some u → (w.alloc (.cells #[.string x] t)).cell? ((⟨w.heap.size, 0, none⟩ : Addr).add j) = some u := cell_one_new w (.string x) t
theorem str_one0 (x : ByteArray) : ∀ u ∈ [Value.string x], u.oneCell' = true := by intro u hu; simp only [List.mem_singleton] at hu; subst hu; rfl
theorem map_snoc0 (asked : List (List UInt8)) (nb : ByteArray) : asked.map strV ++ [.string nb] = (asked ++ [nb.data.toList]).map strV := by
  rw [List.map_append]; congr 2
theorem extract_piece (s : ByteArray) (f k : Nat) (hf : f ≤ k) (hk : k < s.size) : (s.extract f k).data.toList ++ [s[k]] = (s.extract f (k + 1)).data.toList := by
  rw [Lib.extract_data, Lib.extract_data]
  have e1 : k + 1 - f = (k - f) + 1 := by omega
  have h2 : k - f < (s.data.toList.drop f).length := by simp; omega
  rw [e1, List.take_succ_eq_append_getElem h2]
  congr 2
  simp [show f + (k - f) = k by omega]
  rfl

theorem row_form {w : World} {base n sz : Nat} {e : TypeId} {v : Value} {xs : List Value} (h : w.ownsRow base e sz v n xs) : ∃ p c, v = .slice p n c := by
  rcases h.2 with ⟨rfl, h0⟩ | ⟨g, cap, cur, rfl, r⟩
  · exact ⟨none, 0, by rw [h0]⟩
  · exact ⟨_, _, rfl⟩

/-- the loop's word -/
def LinesS (s : ByteArray) (W : World) (f k : Nat) (o : Value) (w : World) : Prop :=
  ∃ out : List (List UInt8), linesL s.data.toList = out ++ linesF (s.extract f k).data.toList (s.data.toList.drop k) ∧ out.length ≤ k ∧ f ≤ k ∧
    w.ownsRow W.heap.size 9 1 o out.length (out.map strV) ∧ Below W.heap.size W w

set_option maxHeartbeats 2000000 in
theorem refLines_any (s : ByteArray) (w : World) (hs : s.size ≤ 1048576) : Calls Tryz.prog 26 #[.string s] w fun e w' =>
    ∃ a, e = .returned a ∧ w'.ownsRow w.heap.size 9 1 a (linesL s.data.toList).length ((linesL s.data.toList).map strV) ∧ Below w.heap.size w w' := by
  obtain ⟨j0, ji, jz0, jz1, jz2⟩ := info_parts strInfo0
  have HST : Hid (LinesS s w 0 0 (.slice none 0 0) w) := Lib.hid ⟨[], by rw [Lib.extract_data]; simp [linesL], by simp, by omega, ⟨rfl, .inl ⟨rfl, rfl⟩⟩, Below.refl _ _⟩
  go_enter Tryz.func26, Tryz.ntmps26
  go_wp2
  go_loopw [3, 4, 5] (fun o f i wr => ∃ f0 k : Nat, k ≤ s.size ∧ f = .int .i64 f0 ∧ i = .int .i64 k ∧ LinesS s w f0 k o wr) (fun _ _ i _ => s.size - (intOf i).toNat)
  case atStart => exact ⟨0, 0, by omega, rfl, rfl, HST.out⟩
  case round =>
    clear HST
    obtain ⟨f, k, hk, rfl, rfl, out, hg, hol, hfk, hO, hbel⟩ := hrel
    have HG := Lib.hid hg
    clear hg
    have hsz := hbel.size
    have hm3 : Hid (out.length + 1 ≤ maxLen) := Lib.hid (by unfold maxLen; omega)
    have hm4 : Hid ((out.length + 1) * 16 ≤ 140737488355328) := Lib.hid (by omega)
    by_cases hlt : k < s.size
    · have HD : Hid (s.data.toList.drop k = s[k] :: s.data.toList.drop (k + 1)) := Lib.hid (List.drop_eq_getElem_cons (by simpa using hlt))
      by_cases h1 : (s[k].toNat : Int) = 10
      · have e1 : ((s[k].toNat : Int) == 10) = true := by simp [h1]
        have H1 : Hid (s[k] = 10) := Lib.hid (by apply UInt8.toNat.inj; simp; omega)
        clear h1
        go_wp2_with (at_builtin; refine wpList_append_own _ rfl _ _ 25 rfl w.heap.size 9 j0 (.string ⟨#[]⟩) 1 16 Tryz.underlying25 ji jz0 jz1 jz2 rfl (by decide) _ _ _ rfl (hO.alloc _) ⟨wr.heap.size, 0, none⟩ 1 1 [.string (s.extract f k)] rfl rfl (one_new0 _ _ _) (str_one0 _) hm3.out hm4.out (by simp; omega) ?_; intro o2 w2 r1 r2 _)
        go_roundw
        case rel =>
          refine ⟨k + 1, k + 1, by omega, by go_num, by go_num, out ++ [(s.extract f k).data.toList], ?_, by simp; omega, Nat.le_refl _, ?_, ?_⟩
          · rw [HG.out, HD.out, H1.out, lines_end, List.append_assoc, Lib.extract_data]; simp
          · rw [← map_snoc0, List.length_append]; exact r1
          · exact (hbel.alloc hbel.size _).grown r2 (hbel.alloc hbel.size _).size (fun g hg => (hO.lt g hg).1)
        case measure => simp [intOf]; omega
      · have e1 : ((s[k].toNat : Int) == 10) = false := by simpa using h1
        have H1 : Hid (¬ s[k] = 10) := Lib.hid (fun e => h1 (by rw [e]; rfl))
        clear h1
        go_wp2
        go_roundw
        case rel => exact ⟨f, k + 1, by omega, rfl, by go_num, out, by rw [HG.out, HD.out, lines_more _ _ H1.out, extract_piece s f k hfk hlt], by omega, by omega, hO, hbel⟩
        case measure => simp [intOf]; omega
    · have hke : k = s.size := by omega
      have HK := Lib.hid hke
      have HE : Hid (s.data.toList.drop k = []) := Lib.hid (List.drop_of_length_le (by simp; omega))
      by_cases hfl : f < s.size
      · have HF : Hid (linesL s.data.toList = out ++ [(s.extract f s.size).data.toList]) := Lib.hid (by
          rw [HG.out, HE.out, HK.out]
          unfold linesF
          rw [if_neg]
          intro e
          have h0 : (s.extract f s.size).data.toList.length = 0 := by rw [e]; rfl
          rw [Lib.extract_data] at h0
          simp at h0
          omega)
        clear hke
        go_wp2_with (at_builtin; refine wpList_append_own _ rfl _ _ 25 rfl w.heap.size 9 j0 (.string ⟨#[]⟩) 1 16 Tryz.underlying25 ji jz0 jz1 jz2 rfl (by decide) _ _ _ rfl (hO.alloc _) ⟨wr.heap.size, 0, none⟩ 1 1 [.string (s.extract f s.size)] rfl rfl (one_new0 _ _ _) (str_one0 _) hm3.out hm4.out (by simp; omega) ?_; intro o2 w2 r1 r2 _)
        go_ret
        rw [HF.out]
        refine ⟨_, rfl, ?_, (hbel.alloc hbel.size _).grown r2 (hbel.alloc hbel.size _).size (fun g hg => (hO.lt g hg).1)⟩
        rw [← map_snoc0, List.length_append]; exact r1
      · have HF : Hid (linesL s.data.toList = out) := Lib.hid (by
          rw [HG.out, HE.out]
          have e : (s.extract f k).data.toList = [] := by
            rw [Lib.extract_data]; apply List.eq_nil_of_length_eq_zero; simp; omega
          rw [e]; simp [linesF])
        clear hke
        go_wp2
        go_ret
        rw [HF.out]
        exact ⟨_, rfl, hO, hbel⟩
end Go.Proofs.YtikeaiibociapaaGreatDoor.src
