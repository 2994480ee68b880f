/- Merged: Att, CheckL. -/
import Derived.Test.YtbhlnemahhndoaaGreatDoorU1
import Derived.Test.YtbhlnemahhndoaaGreatDoorLaw
import Derived.BigQuiet
import Derived.Deep.QuietTactic
namespace Go.Proofs.YtbhlnemahhndoaaGreatDoor
open Go.RowKit

/-- a name with a value -/
abbrev At := ByteArray × ByteArray
/-- cells of attributes -/
def AtCells (w : World) (b o : Nat) (l : List At) : Prop := ∀ i (h : i < l.length), w.cell? ⟨b, o + i * 2, none⟩ = some (.string l[i].1) ∧ w.cell? ⟨b, o + i * 2 + 1, none⟩ = some (.string l[i].2)
def Sized (l : List At) : Prop := ∀ a ∈ l, a.1.size ≤ 140737488351232 ∧ a.2.size ≤ 140737488351232
/-- a slice of attributes that reads as l -/
def Attrs (w : World) (v : Value) (l : List At) : Prop :=
  ∃ (p : Option Addr) (cap : Nat), v = .slice p l.length cap ∧ l.length ≤ 9223372036854775807 ∧ (Sized l ∧ (p = none → cap = 0) ∧ l.length ≤ cap) ∧ (0 < l.length → ∃ b o, p = some ⟨b, o, none⟩ ∧ b < w.heap.size ∧ AtCells w b o l)

theorem Attrs.below {w w' : World} {v : Value} {l : List At} (h : Attrs w v l) (hb : Below w.heap.size w w') : Attrs w' v l := by
  obtain ⟨p, cap, hv, hl, hs, hc⟩ := h
  refine ⟨p, cap, hv, hl, hs, fun h0 => ?_⟩
  obtain ⟨b, o, hp, hlt, hc⟩ := hc h0
  exact ⟨b, o, hp, Nat.lt_of_lt_of_le hlt hb.size, fun i hi => ⟨(hb.cell (p := ⟨b, o + i * 2, none⟩) hlt).trans (hc i hi).1, (hb.cell (p := ⟨b, o + i * 2 + 1, none⟩) hlt).trans (hc i hi).2⟩⟩

/-- the value of a name -/
def getL (l : List At) (n : ByteArray) : Option ByteArray := (l.find? fun a => a.1.toList == n.toList).map (·.2)
/-- what Get answers -/
def getV : Option ByteArray → Value
  | some v => .tuple #[.string v, .bool true]
  | none => .tuple #[.string ⟨#[]⟩, .bool false]
theorem get_none {o : Option ByteArray} (h : o = none) : Value.tuple #[.string ⟨#[]⟩, .bool false] = getV o := by rw [h]; rfl
theorem get_some {o : Option ByteArray} {m : ByteArray} (h : o = some m) : Value.tuple #[.string m, .bool true] = getV o := by rw [h]; rfl
theorem getL_here {l : List At} {n : ByteArray} {k : Nat} (h : k < l.length) (he : (l[k].1.toList == n.toList) = true) : getL (l.drop k) n = some l[k].2 := by
  unfold getL; rw [List.drop_eq_getElem_cons h, List.find?_cons, he]; rfl
theorem getL_next {l : List At} {n : ByteArray} {k : Nat} (h : k < l.length) (he : (l[k].1.toList == n.toList) = false) : getL (l.drop k) n = getL (l.drop (k + 1)) n := by
  unfold getL; rw [List.drop_eq_getElem_cons h, List.find?_cons, he]
theorem getL_end {l : List At} {n : ByteArray} {k : Nat} (h : l.length ≤ k) : getL (l.drop k) n = none := by
  rw [List.drop_of_length_le h]; rfl

set_option maxHeartbeats 400000 in
theorem refGet_any (v : Value) (l : List At) (n : ByteArray) (w : World) (h : Attrs w v l) : Calls Tryz.prog 44 #[v, .string n] w fun e w' => e = .returned (getV (getL l n)) ∧ w = w' := by
  obtain ⟨p, cap, rfl, hl, -, hc⟩ := h
  go_enter Tryz.func44, Tryz.ntmps44
  go_wp2
  go_loop [6] (fun i => ∃ k : Nat, k ≤ l.length ∧ i = .int .i64 k ∧ getL l n = getL (l.drop k) n) (fun i => l.length - (intOf i).toNat)
  case atStart => exact ⟨0, by omega, rfl, by simp⟩
  case round =>
    obtain ⟨k, hk, rfl, hg⟩ := hrel
    have HG := Lib.hid hg
    clear hg
    by_cases hlt : k < l.length
    · obtain ⟨b, o, rfl, hb, hcc⟩ := hc (by omega)
      obtain ⟨c1, c2⟩ := hcc k hlt
      have H1 := Lib.hid (fun h => getL_here (n := n) hlt h)
      have H2 := Lib.hid (fun h => getL_next (n := n) hlt h)
      clear hc hcc
      go_wp2
      · go_ret2
        have h : (l[k].1.toList == n.toList) = true := by assumption
        exact ⟨ret_v (get_some (by rw [HG.out, H1.out h])), rfl⟩
      · have h : (l[k].1.toList == n.toList) = false := by assumption
        go_round
        case rel => exact ⟨k + 1, by omega, by go_num, by rw [HG.out, H2.out h]⟩
        case measure => simp [intOf]; omega
    · have HE := Lib.hid (getL_end (l := l) (n := n) (k := k) (by omega))
      go_wp2
      go_ret2
      exact ⟨ret_v (get_none (by rw [HG.out, HE.out])), rfl⟩
end Go.Proofs.YtbhlnemahhndoaaGreatDoor
namespace Go.Proofs.YtbhlnemahhndoaaGreatDoor
open Go.RowKit

def lessA (a b : At) : Bool := Op.bytesLess a.1.toList b.1.toList
/-- may an attribute be? -/
def attB (a : At) : Bool := nameB a.1.data.toList && mayL a.2.data.toList
/-- do names rise? -/
def riseB : List At → Bool
  | a :: b :: l => lessA a b && riseB (b :: l)
  | _ => true
/-- may attributes be? -/
def checkL (l : List At) : Bool := decide (l.length ≤ 64) && l.all attB && riseB l

theorem rise_snoc (x y : At) : ∀ ys : List At, riseB (ys ++ [x, y]) = (riseB (ys ++ [x]) && lessA x y)
  | [] => by simp [riseB]
  | [a] => by simp [riseB]
  | a :: b :: ys => by
    have ih := rise_snoc x y (b :: ys)
    simp only [List.cons_append] at ih ⊢
    simp only [riseB]
    rw [ih, Bool.and_assoc]
theorem rise_take (l : List At) (k : Nat) (h0 : 0 < k) (h : k < l.length) : riseB (l.take (k + 1)) = (riseB (l.take k) && lessA l[k - 1] l[k]) := by
  obtain ⟨j, rfl⟩ : ∃ j, k = j + 1 := ⟨k - 1, by omega⟩
  rw [List.take_succ_eq_append_getElem h, List.take_succ_eq_append_getElem (show j < l.length by omega), List.append_assoc]
  exact rise_snoc _ _ _
theorem rise_one (l : List At) (h : 0 < l.length) : riseB (l.take 1) = true := by
  cases l with
  | nil => simp at h
  | cons a l => simp [riseB]
theorem rise_prefix (l : List At) (k : Nat) : riseB l = true → riseB (l.take k) = true := by
  intro h
  induction k with
  | zero => simp [riseB]
  | succ k ih =>
    by_cases hk : k + 1 ≤ l.length
    · by_cases h0 : 0 < k
      · have : ∀ (n : Nat), k + 1 ≤ n → n ≤ l.length → riseB (l.take n) = true → riseB (l.take (k + 1)) = true := by
          intro n
          induction n with
          | zero => intro h1 _ _; omega
          | succ n ihn =>
            intro h1 h2 h3
            by_cases e : k + 1 = n + 1
            · rw [e]; exact h3
            · rw [rise_take l n (by omega) (by omega)] at h3
              exact ihn (by omega) (by omega) (by revert h3; cases riseB (l.take n) <;> simp)
        exact this l.length hk (Nat.le_refl _) (by rw [List.take_length]; exact h)
      · have : k = 0 := by omega
        subst this
        exact rise_one l (by omega)
    · rw [List.take_of_length_le (by omega)]; exact h
theorem check_long {l : List At} (h : ¬ l.length ≤ 64) : checkL l = false := by unfold checkL; rw [decide_eq_false h]; rfl
theorem check_att {l : List At} (k : Nat) (h : k < l.length) (h2 : attB l[k] = false) : checkL l = false := by
  unfold checkL
  have : l.all attB = false := by rw [List.all_eq_false]; exact ⟨l[k], List.getElem_mem h, by simp [h2]⟩
  rw [this]; simp
theorem check_rise {l : List At} (k : Nat) (h0 : 0 < k) (h : k < l.length) (h2 : lessA l[k - 1] l[k] = false) : checkL l = false := by
  have : riseB l = false := by
    cases e : riseB l
    · rfl
    · have := rise_prefix l (k + 1) e
      rw [rise_take l k h0 h, h2] at this
      simp at this
  unfold checkL; rw [this]; simp
theorem check_yes {l : List At} (h1 : l.length ≤ 64) (h2 : l.all attB = true) (h3 : riseB l = true) : checkL l = true := by
  unfold checkL; rw [decide_eq_true h1, h2, h3]; rfl
theorem att_take (l : List At) (k : Nat) (h : k < l.length) (h1 : (l.take k).all attB = true) (h2 : attB l[k] = true) : (l.take (k + 1)).all attB = true := by
  rw [List.take_succ_eq_append_getElem h, List.all_append, h1]; simp [h2]
end Go.Proofs.YtbhlnemahhndoaaGreatDoor
