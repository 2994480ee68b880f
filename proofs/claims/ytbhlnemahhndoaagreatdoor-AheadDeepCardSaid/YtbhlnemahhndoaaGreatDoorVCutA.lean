/- Merged: CutA. -/
import Derived.Test.YtbhlnemahhndoaaGreatDoorU18
import Derived.Test.YtbhlnemahhndoaaGreatDoorVIdxAny
import Derived.Test.YtbhlnemahhndoaaGreatDoorShelf
import Derived.Test.YtbhlnemahhndoaaGreatDoorUnder
import Derived.Shelf.Strings.SlTrimAscii
namespace Go.Proofs.YtbhlnemahhndoaaGreatDoor
open Go.RowKit Go.Maps
set_option maxRecDepth 100000

/-! ### a text, up to its first blank and behind it -/
def blk2 : ByteArray := ⟨#[32, 9]⟩
theorem index_cut (l : List UInt8) : (Lib.indexAny l [32, 9] = -1 ∧ l.takeWhile (fun c => !blankB c) = l ∧ l.dropWhile (fun c => !blankB c) = []) ∨ ∃ n : Nat, n < l.length ∧ Lib.indexAny l [32, 9] = (n : Int) ∧ l.takeWhile (fun c => !blankB c) = l.take n ∧ l.dropWhile (fun c => !blankB c) = l.drop n := by
  induction l with
  | nil => exact .inl ⟨rfl, rfl, rfl⟩
  | cons c l ih =>
    unfold Lib.indexAny
    rw [blank_contains]
    cases hb : blankB c with
    | true => exact .inr ⟨0, by simp, by simp, by simp [hb], by simp [hb]⟩
    | false =>
      rcases ih with ⟨h1, h2, h3⟩ | ⟨n, hn, h1, h2, h3⟩
      · left
        rw [h1]
        exact ⟨rfl, by simp [hb, h2], by simp [hb, h3]⟩
      · right
        refine ⟨n + 1, by simpa using hn, ?_, by simp [hb, h2], by simp [hb, h3]⟩
        rw [h1]
        have : ((n : Int) == -1) = false := by rw [beq_eq_false_iff_ne]; omega
        simp [this]
theorem trimR_cons (p : UInt8 → Bool) (c : UInt8) (t : List UInt8) : ((c :: t).reverse.dropWhile p).reverse = if (t.reverse.dropWhile p).reverse = [] ∧ p c = true then [] else c :: (t.reverse.dropWhile p).reverse := by
  rw [List.reverse_cons, List.dropWhile_append]
  cases h : t.reverse.dropWhile p with
  | nil =>
    cases hp : p c <;> simp [hp]
  | cons a b => simp
theorem trim_comm (p : UInt8 → Bool) : ∀ l : List UInt8, ((l.reverse.dropWhile p).reverse).dropWhile p = ((l.dropWhile p).reverse.dropWhile p).reverse
  | [] => rfl
  | c :: t => by
    have ih := trim_comm p t
    rw [trimR_cons]
    cases hp : p c with
    | true =>
      rw [List.dropWhile_cons_of_pos hp, ← ih]
      by_cases h : (t.reverse.dropWhile p).reverse = []
      · rw [if_pos ⟨h, rfl⟩, h]
      · rw [if_neg (fun e => h e.1), List.dropWhile_cons_of_pos hp]
    | false =>
      have hn : ¬ p c = true := by rw [hp]; decide
      rw [if_neg (fun e => by cases e.2), List.dropWhile_cons_of_neg hn, List.dropWhile_cons_of_neg hn, trimR_cons, if_neg (fun e => hn e.2)]
theorem trim_same (l : List UInt8) : Lib.trimS l [32, 9] = trimL l := by
  unfold Lib.trimS Lib.trimLeftS Lib.trimRightS trimL
  have e : (fun c => ([32, 9] : List UInt8).contains c) = blankB := funext blank_contains
  rw [e]
  exact trim_comm blankB l
theorem bl2_ascii : ∀ (j : Nat) (b : UInt8), blk2.data.toList[j]? = some b → b.toNat < 128 := Go.Proofs.ascii_of_all (l := blk2.data.toList) (by decide)
/-- any text (once: of more than eight bytes, or of ASCII alone) -/
def CutOk (_ : ByteArray) : Prop := True
theorem zero256 : (Tryz.prog.info? 289).map (fun i => (i.zero, i.size)) = some (some (.agg (Array.replicate 256 (.bool false))), 256) := by kernel_rfl
theorem index_c (s : ByteArray) (w : World) (hs : s.size < 4294967281) : Calls Tryz.prog 191 #[.string s, .string blk2] w fun e w' => e = .returned (.int .i64 (Lib.indexAny s.data.toList [32, 9])) ∧ Below w.heap.size w w' := by
  by_cases h : 8 < s.size
  · refine (Tryz.strings_IndexAny_long (zero_of_info zero256).1 s blk2 w (by decide) h hs (by decide) bl2_ascii).mono ?_
    rintro e w' ⟨rfl, rfl⟩
    exact ⟨rfl, behind (laidNew _ _) (laidNew _ _)⟩
  · exact index_short s w (by omega)
theorem trim_c (s : ByteArray) (w : World) (hs : s.size < 4294967281) : Calls Tryz.prog 192 #[.string s, .string blk2] w fun e w' => e = .returned (.string (bT (trimL s.data.toList))) ∧ Below w.heap.size w w' := by
  have := Any.strings_Trim_laid Tryz.lays160 zero256 s blk2 w (by omega) (by decide) bl2_ascii
  refine Calls.mono this ?_
  rintro e w' ⟨rfl, hb⟩
  exact ⟨by rw [← trim_same]; rfl, hb⟩

def cutV (s : List UInt8) : Value := .tuple #[.string (bT (cutW s).1), .string (bT (cutW s).2)]
theorem ret_cut {a b : ByteArray} {s : List UInt8} (h1 : (cutW s).1 = a.data.toList) (h2 : (cutW s).2 = b.data.toList) : Value.tuple #[.string a, .string b] = cutV s := by
  unfold cutV; rw [h1, h2, bT_data, bT_data]

set_option maxHeartbeats 2000000 in
theorem cut_c (s : ByteArray) (w : World) (hs : s.size < 4294967281) (_ : CutOk s) : Calls Tryz.prog 171 #[.string s] w fun e w' => e = .returned (cutV s.data.toList) ∧ Below w.heap.size w w' := by
  have hI := index_c s w hs
  have hsz : s.data.toList.length = s.size := by simp
  unfold blk2 at hI
  rcases index_cut s.data.toList with ⟨h1, h2, h3⟩ | ⟨n, hn, h1, h2, h3⟩
  · rw [h1] at hI
    have HV : Hid (Value.tuple #[.string s, .string ⟨#[]⟩] = cutV s.data.toList) := Lib.hid (ret_cut (by unfold cutW; exact h2) (by unfold cutW; rw [h3]; rfl))
    clear h1 h2 h3
    go_enter Tryz.func171, Tryz.ntmps171
    go_wp2_with (go_at_call 191; refine hI.mono ?_; rintro e w2 ⟨rfl, hb2⟩)
    go_ret2
    exact ⟨ret_v HV.out, hb2⟩
  · rw [h1] at hI
    have hn1 : n < s.size := by omega
    obtain ⟨sa, hsa⟩ : ∃ sa, s.extract 0 n = sa := ⟨_, rfl⟩
    obtain ⟨sb, hsb⟩ : ∃ sb, s.extract n s.size = sb := ⟨_, rfl⟩
    have hsz2 : sb.size ≤ s.size := by
      have e : sb.data.toList = s.data.toList.drop n := by rw [← hsb, extract_list]
      have e2 : sb.data.toList.length = sb.size := by simp
      rw [e, List.length_drop] at e2; omega
    have HV : Hid (Value.tuple #[.string sa, .string (bT (trimL sb.data.toList))] = cutV s.data.toList) := Lib.hid (ret_cut (by unfold cutW; rw [h2, ← hsa, extract_take]) (by unfold cutW; rw [h3, ← hsb, extract_list]; rfl))
    have hT := fun w => trim_c sb w (by omega)
    unfold blk2 at hT
    generalize bT (trimL sb.data.toList) = tb at HV hT
    have e9 : (n : Int) ≤ (s.size : Int) := by omega
    clear h1 h2 h3 hsz hn
    go_enter Tryz.func171, Tryz.ntmps171
    go_wp2_with (go_at_call 191; refine hI.mono ?_; rintro e w2 ⟨rfl, hb2⟩)
    refine wp_region_under w2 (by kernel_rfl) (by kernel_rfl) (Below.refl _ _) ?_
    repeat (go_big_quiet_step ((go_at_call 192; exact under_call (hT _))))
    all_goals (refine wpQuiet_nil ?_; intro w3 hw3; obtain ⟨u, hu⟩ := hw3; subst hu)
    go_wp2
    go_ret2
    exact ⟨ret_v HV.out, behind hb2 u.ok⟩
end Go.Proofs.YtbhlnemahhndoaaGreatDoor
