import Derived.Test.YtbhipobedijfbaaEscT
import Derived.Maps.RangeWalk
namespace Go.Proofs.Ytbhipobedijfbaa
open Go.RowKit Go.Maps
set_option maxRecDepth 100000

/-! ### the signs, by what stands for them -/
theorem sign_has {a : Int} (h : Maps.has signD (.int .i32 a) = true) : ∃ c : UInt8, a = (c.toNat : Int) ∧ ∃ m, markL c = some m ∧ signD.atKey (.int .i32 a) (.held mZero) = .held (.agg #[.string (bT m)]) := by
  by_cases h1 : a = 38
  · subst h1; exact ⟨38, rfl, _, rfl, rfl⟩
  by_cases h2 : a = 60
  · subst h2; exact ⟨60, rfl, _, rfl, rfl⟩
  by_cases h3 : a = 62
  · subst h3; exact ⟨62, rfl, _, rfl, rfl⟩
  by_cases h4 : a = 34
  · subst h4; exact ⟨34, rfl, _, rfl, rfl⟩
  by_cases h5 : a = 39
  · subst h5; exact ⟨39, rfl, _, rfl, rfl⟩
  have hn : ∀ t : Int, ¬ a = t → (Lit.int .i32 a : Lit) ≠ .int .i32 t := fun t h e => by injection e with _ e; exact h e
  exfalso
  unfold signD at h
  rw [has_put_other (hn 39 h5), has_put_other (hn 34 h4), has_put_other (hn 62 h3), has_put_other (hn 60 h2), has_put_other (hn 38 h1)] at h
  cases h
theorem markL_inj {c d : UInt8} {m : List UInt8} (h1 : markL c = some m) (h2 : markL d = some m) : c = d := by
  have e1 := headL_mark h1 []
  have e2 := headL_mark h2 []
  rw [e1] at e2
  injection e2 with e2
  injection e2
/-- the map while it is made: the marks of those signs that have come -/
def MadeD (left : Lit → Bool) (D : DataW Value) : Prop :=
  IsMap D ∧ (∀ c m, markL c = some m → Maps.has D (.string m) = !left (.int .i32 (c.toNat : Int)) ∧ (left (.int .i32 (c.toNat : Int)) = false → ∀ z, D.atKey (.string m) z = .held (.int .i32 (c.toNat : Int)))) ∧ ∀ m, (∀ c, markL c ≠ some m) → Maps.has D (.string m) = false
theorem made_start : MadeD (Maps.has signD) (.map []) := by
  refine ⟨isMap_empty, fun c m h => ?_, fun m _ => rfl⟩
  have hh : Maps.has signD (.int .i32 (c.toNat : Int)) = true := by
    rw [(sign_at c.toNat).1]
    unfold isMark
    rw [decide_eq_true_eq]
    unfold markL at h
    have e : ∀ k : UInt8, c = k → c.toNat = k.toNat := fun k e => by rw [e]
    split at h
    · next x => exact .inl (e _ x)
    · split at h
      · next x => exact .inr (.inl (e _ x))
      · split at h
        · next x => exact .inr (.inr (.inl (e _ x)))
        · split at h
          · next x => exact .inr (.inr (.inr (.inl (e _ x))))
          · split at h
            · next x => exact .inr (.inr (.inr (.inr (e _ x))))
            · cases h
  rw [hh]
  exact ⟨rfl, fun e => by cases e⟩
theorem made_step {left : Lit → Bool} {D : DataW Value} (h : MadeD left D) {c : UInt8} {m : List UInt8} (hm : markL c = some m) :
    MadeD (fun z => left z && !z.sameKey (.int .i32 (c.toNat : Int))) (D.put (.string m) (.held (.int .i32 (c.toNat : Int)))) := by
  obtain ⟨h0, h1, h2⟩ := h
  refine ⟨h0.put _ _, fun d n hn => ?_, fun n hn => ?_⟩
  · by_cases e : d = c
    · subst e
      obtain rfl : n = m := by rw [hm] at hn; exact (Option.some.inj hn).symm
      have hs : (Lit.int .i32 (d.toNat : Int) : Lit).sameKey (.int .i32 (d.toNat : Int)) = true := by simp [Lit.sameKey]
      simp only [hs, Bool.not_true, Bool.and_false, Bool.not_false]
      exact ⟨has_put_same (k := Lit.string n) h0 trivial _, fun _ z => atKey_put_same (k := Lit.string n) h0 trivial _ z⟩
    · have hne : (Lit.string n : Lit) ≠ .string m := fun x => by injection x with x; subst x; exact e (markL_inj hn hm)
      have hs : (Lit.int .i32 (d.toNat : Int) : Lit).sameKey (.int .i32 (c.toNat : Int)) = false := sameKey_ne (fun x => by injection x with _ x; exact e (UInt8.toNat_inj.1 (by omega)))
      simp only [hs, Bool.not_false, Bool.and_true]
      rw [has_put_other hne]
      exact ⟨(h1 d n hn).1, fun hl z => by rw [atKey_put_other hne]; exact (h1 d n hn).2 hl z⟩
  · have hne : (Lit.string n : Lit) ≠ .string m := fun x => by injection x with x; subst x; exact hn c hm
    rw [has_put_other hne]; exact h2 n hn
def MarksAt (w : World) (b : Nat) : Prop := ∃ n D, w.ownsMap Try.prog 9 heldR b n D ∧ n ≤ 5 ∧ MadeD (fun _ => false) D

set_option maxHeartbeats 8000000 in
theorem byMark_c (A : Nat) (w : World) (h : SignsAt w A) : Calls Try.prog 18 #[.map (some A)] w fun e w' => e = .returned (.map (some w.heap.size)) ∧ MarksAt w' w.heap.size ∧ Below w.heap.size w w' := by
  have hmm := @run_makeMap Try.prog
  have hA := h.lt
  have O0 := Lib.hid (World.ownsMap_made w Try.prog 9 heldR)
  have hA1 := Lib.hid (map_same h (fun es c hm => (laidNew w (.map #[] 0)).block _ hA) : SignsAt (w.alloc (.map #[] 0)) A)
  go_enter Try.func18, Try.ntmps18
  go_wp2_with (first
    | (at_range; refine wpList_range_own _ rfl _ 35 rfl 21 40 key_i Try.underlying35 heldR A 5 signD rfl hA1.out ?_; intro w0 hrg0 hg0 hs0)
    | go_in)
  go_frame
  have e1 : (w.alloc (.map #[] 0)).heap.size = w.heap.size + 1 := by simp
  rw [e1] at hrg0 hs0 ⊢
  have hsz : Maps.size signD = 5 := rfl
  rw [hsz] at hrg0
  have hown0 : w0.ownsMap Try.prog 9 heldR w.heap.size 0 (.map []) := map_same O0.out (fun es c hm => hg0.block _ (by omega) (fun e => by cases e))
  have hb0 : Below w.heap.size w w0 := (laidNew w (.map #[] 0)).grown hg0 (by omega) (fun k e => by cases e)
  go_loopw [] (fun wr => ∃ (left : Lit → Bool) (cnt n : Nat) (D : DataW Value), wr.ranges Try.prog 21 heldR A (w.heap.size + 1) 5 signD left cnt ∧ wr.ownsMap Try.prog 9 heldR w.heap.size n D ∧ n + cnt ≤ 5 ∧ MadeD left D ∧ Below w.heap.size w wr ∧ w.heap.size + 1 < wr.heap.size) (fun wr => wr.rangeLeft A (w.heap.size + 1))
  case atStart => exact ⟨_, 5, 0, _, hrg0, hown0, by omega, made_start, hb0, by omega⟩
  case round =>
    obtain ⟨left, cnt, n, D, hrg, hown, hn, hM, hbel, hz⟩ := hrel
    have HRG := Lib.hid hrg
    have HOW := Lib.hid hown
    have HM := Lib.hid hM
    clear hrg hown hM hrg0 hg0 h hown0 hb0 hA1 O0
    go_wp2_with (first
      | (at_next; refine wpList_next_ranges _ rfl _ rfl 21 key_i heldR (fun a : Int => Value.int .i32 a) (fun v : Value => v) (fun key kl hkey => by
            obtain ⟨x, rfl, _⟩ := Maps.keyOf_int_inv Try.underlying21 hkey
            exact ⟨_, rfl⟩) (fun v y _ => ⟨v, rfl⟩) A (w.heap.size + 1) 5 signD _ _ rfl HRG.out ?_ ?_)
      | go_in)
    · intro _ hl0
      go_wp2
      go_ret
      exact ⟨rfl, ⟨n, D, HOW.out, by omega, (by rw [← (funext hl0 : left = fun _ => false)]; exact HM.out)⟩, hbel⟩
    · intro x c kl yd yp w1 cnt1 hkey hlk hv hat hrg1 hlt hg1 hs1 hen
      obtain ⟨x', ex, rfl, hwx⟩ := Maps.keyOf_int_inv Try.underlying21 hkey
      cases ex
      unfold heldR at hv
      simp only [Option.some.injEq, Prod.mk.injEq] at hv
      obtain ⟨rfl, rfl⟩ := hv
      obtain ⟨d, rfl, m, hm, hmv⟩ := sign_has (has_true_of_atKey hat)
      have hc : c = .agg #[.string (bT m)] := by
        have h1 := hat (.held mZero)
        rw [hmv] at h1
        injection h1 with h1; exact h1.symm
      subst hc
      obtain ⟨mb, hmb⟩ : ∃ mb, bT m = mb := ⟨_, rfl⟩
      have HMB : Hid (m = mb.data.toList) := Lib.hid (by rw [← hmb, bT_list])
      rw [hmb] at hen
      have hmz : mb.size ≤ maxLen := by
        have := HMB.out
        have h2 : mb.data.toList.length = mb.size := by simp
        have h3 := oneL_len d
        unfold oneL at h3
        rw [hm, Option.getD_some, this, h2] at h3
        unfold maxLen; omega
      have hown1 : w1.ownsMap Try.prog 9 heldR w.heap.size n D := map_same HOW.out (fun es c hm => hg1.block _ (by omega) (fun e => by injection e with e; omega))
      have hbel1 : Below w.heap.size w w1 := hbel.grown hg1 (by omega) (fun k e => by injection e with e; omega)
      obtain ⟨W3, hW3⟩ : ∃ W3, w1.alloc (.cells #[.string mb] 40) = W3 := ⟨_, rfl⟩
      have z3 : W3.heap.size = wr.heap.size + 1 := by rw [← hW3]; simp [hs1]
      have HO3 : Hid (W3.ownsMap Try.prog 9 heldR w.heap.size n D) := Lib.hid (by rw [← hW3]; exact map_same hown1 (fun es c hm => (laidNew w1 _).block _ (by omega)))
      have HR3 : Hid (W3.ranges Try.prog 21 heldR A (w.heap.size + 1) 5 signD (fun z => left z && !z.sameKey (.int .i32 (d.toNat : Int))) cnt1) := Lib.hid (by rw [← hW3]; exact hrg1.alloc _)
      have HB3 : Hid (Below w.heap.size w W3) := Lib.hid (by rw [← hW3]; exact behind hbel1 (laidNew _ _))
      have e3 : W3.cell? ⟨wr.heap.size, 0, none⟩ = some (.string mb) := by rw [← hs1, ← hW3, World.cell?_alloc_new]; rfl
      have hnm : n < maxLen := by unfold maxLen; omega
      have HMD := Lib.hid hm
      clear hmb hown1 hbel1 hrg1 hat hkey hmv hlk
      go_wp2_with (first
        | (at_mapUpdate; refine wpList_mapUpdate_own _ rfl _ _ _ 37 rfl 9 21 key_s Try.underlying37 heldR w.heap.size n D rfl HO3.out hnm _ _ _ rfl rfl (keyS mb hmz) _ [] rfl ?_; intro w5 hm5 hg5)
        | go_in)
      go_frame
      have hr5 : w5.ranges Try.prog 21 heldR A (w.heap.size + 1) 5 signD (fun z => left z && !z.sameKey (.int .i32 (d.toNat : Int))) cnt1 := HR3.out.kept hg5 (fun e => by injection e with e; omega) (fun e => by injection e with e; omega)
      have hM5 := made_step HM.out HMD.out
      rw [HMB.out] at hM5
      have hb5 : Below w.heap.size w w5 := HB3.out.grown hg5 (by omega) (fun k e => by injection e with e; omega)
      have hz5 : w.heap.size + 1 < w5.heap.size := by have := hg5.size; omega
      go_roundw
      case rel => exact ⟨_, cnt1, n + 1, _, hr5, hm5, by omega, hM5, hb5, hz5⟩
      case measure => rw [hr5.left_eq, HRG.out.left_eq]; exact hlt
end Go.Proofs.Ytbhipobedijfbaa
