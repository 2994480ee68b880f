import Derived.Test.YtcdlleeonfnamaaFillL
import Derived.Test.YtcdlleeonfnamaaTwin
import Derived.BigQuiet
import Derived.Deep.QuietTactic
namespace Go.Proofs.Ytcdlleeonfnamaa
open Go.RowKit

def strV (x : List UInt8) : Value := .string ⟨x.toArray⟩
theorem bT_inj {a b : List UInt8} (h : bT a = bT b) : a = b := by have := congrArg (fun t : ByteArray => t.data.toList) h; simpa [bT_list] using this
/-- a slice of texts that reads as l -/
def Texts (w : World) (v : Value) (l : List (List UInt8)) : Prop :=
  ∃ (p : Option Addr) (cap : Nat), v = .slice p l.length cap ∧ l.length ≤ 9223372036854775807 ∧ (0 < l.length → ∃ A, p = some ⟨A, 0, none⟩ ∧ ∀ j (h : j < l.length), w.cell? ⟨A, j, none⟩ = some (strV l[j]))

theorem take_eq_all (la lb : List (List UInt8)) (h : la.length = lb.length) (k : Nat) (hk : la.length ≤ k) (e : la.take k = lb.take k) : la = lb := by
  rwa [List.take_of_length_le hk, List.take_of_length_le (by omega)] at e
theorem take_next (la lb : List (List UInt8)) (k : Nat) (h1 : k < la.length) (h2 : k < lb.length) (e : la.take k = lb.take k) (h : la[k] = lb[k]) : la.take (k + 1) = lb.take (k + 1) := by
  rw [List.take_succ_eq_append_getElem h1, List.take_succ_eq_append_getElem h2, e, h]
theorem ne_at (la lb : List (List UInt8)) (k : Nat) (h1 : k < la.length) (h2 : k < lb.length) (h : la[k] ≠ lb[k]) : la ≠ lb := by
  intro e; subst e; exact h rfl

set_option maxHeartbeats 400000 in
theorem sameTexts_any (va vb : Value) (la lb : List (List UInt8)) (w : World) (ha : Texts w va la) (hb : Texts w vb lb) :
    Calls Try.prog 19 #[va, vb] w fun e w' => e = .returned (.bool (decide (la = lb))) ∧ ∃ q, w' = w.drewN q := by
  obtain ⟨pa, ca, rfl, hla, hca⟩ := ha
  obtain ⟨pb, cb, rfl, hlb, hcb⟩ := hb
  by_cases hlen : la.length = lb.length
  · have hne : ((la.length : Int) != (lb.length : Int)) = false := by simp [hlen]
    have HL := Lib.hid hlen
    have hle1 : la.length ≤ lb.length := by omega
    have hle2 : lb.length ≤ la.length := by omega
    clear hlen
    go_enter Try.func19, Try.ntmps19
    go_wp2
    go_loopw [5] (fun i wr => ∃ k q : Nat, k ≤ la.length ∧ i = .int .i64 k ∧ la.take k = lb.take k ∧ wr = w.drewN q) (fun i _ => la.length - (intOf i).toNat)
    case atStart => exact ⟨0, 0, by omega, rfl, by simp, rfl⟩
    case round =>
      obtain ⟨k, q, hk, rfl, he, rfl⟩ := hrel
      have HE := Lib.hid he
      clear he
      by_cases hlt : k < la.length
      · have hlt2 : k < lb.length := by omega
        obtain ⟨A, rfl, hA⟩ := hca (by omega)
        obtain ⟨B, rfl, hB⟩ := hcb (by omega)
        have c1 := hA k hlt
        have c2 := hB k hlt2
        unfold strV at c1 c2
        clear hA hB hca hcb
        go_wp2
        go_quiet (fail)
        go_wp2
        · have h : (!la[k] == lb[k]) = true := by assumption
          go_ret
          have hne' : la[k] ≠ lb[k] := by simpa using h
          exact ⟨ret_bool (decide_eq_false (ne_at la lb k hlt hlt2 hne')).symm, _, World.drewN_drewN _ _ _⟩
        · have h : (!la[k] == lb[k]) = false := by assumption
          go_roundw
          case rel => exact ⟨k + 1, _, by omega, by go_num, take_next la lb k hlt hlt2 HE.out (by simpa using h), rfl⟩
          case measure => simp [intOf]; omega
      · go_wp2
        go_ret
        exact ⟨ret_bool (decide_eq_true (take_eq_all la lb HL.out k (by omega) HE.out)).symm, _, rfl⟩
  · have hne : ((la.length : Int) != (lb.length : Int)) = true := by simp; omega
    have hf : ¬ la = lb := fun e => hlen (by rw [e])
    have HF := Lib.hid (decide_eq_false hf)
    clear hf hlen
    go_enter Try.func19, Try.ntmps19
    go_wp2
    go_ret
    exact ⟨ret_bool HF.out.symm, 0, rfl⟩

theorem texts_owned {w : World} {B n : Nat} {v : Value} {l : List (List UInt8)} (h : w.ownsRow B 9 1 v n (l.map strV)) (hn : n = l.length) (hl : l.length ≤ 9223372036854775807) : Texts w v l := by
  subst hn
  obtain ⟨_, ⟨rfl, h0⟩ | ⟨g, cap, cur, rfl, hB, hg, hn, hm, hs, ht⟩⟩ := h
  · exact ⟨none, 0, by rw [h0], hl, fun h => by omega⟩
  · have hown : w.ownsRow B 9 1 (.slice (some ⟨g, 0, none⟩) l.length cap) l.length (l.map strV) := ⟨by simp, .inr ⟨g, cap, cur, rfl, hB, hg, hn, hm, hs, ht⟩⟩
    refine ⟨some ⟨g, 0, none⟩, cap, rfl, hl, fun _ => ⟨g, rfl, fun j hj => ?_⟩⟩
    rw [hown.cellAt j (by omega)]
    simp [hj]
end Go.Proofs.Ytcdlleeonfnamaa
