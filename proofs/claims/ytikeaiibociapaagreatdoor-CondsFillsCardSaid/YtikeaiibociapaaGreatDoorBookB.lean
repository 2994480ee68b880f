import Derived.Test.YtikeaiibociapaaGreatDoorApartB
import Derived.Test.YtikeaiibociapaaGreatDoorBookA
namespace Go.Proofs.YtikeaiibociapaaGreatDoor
open Go.RowKit
set_option maxRecDepth 100000

theorem textsOf_any (base K : Nat) (n : Int) (at0 : Value) (p : Option Addr) (m c : Nat) (xs : List Value) (lp : Option Addr) (ln lc : Nat) (w : World) (hn : 0 ≤ n ∧ n ≤ 1000) (hm : m ≤ 1000) (hB : BookIs w K n (.slice p m c) at0) (hbase : base ≤ w.heap.size)
    (hown : w.ownsRow base 125 3 (.slice p m c) m xs) :
    Calls Tryz.prog 18 #[.pointer (some ⟨K, 0, none⟩), .slice lp ln lc] w fun e w' => e = .returned (.tuple #[]) ∧ ∃ (g' c' : Nat), BookIs w' K (n + 1) (.slice (some ⟨g', 0, none⟩) (m + 1) c') at0 ∧
      w'.ownsRow base 125 3 (.slice (some ⟨g', 0, none⟩) (m + 1) c') (m + 1) (xs ++ [.slice lp ln lc, nilS, .int .i64 (n + 1)]) ∧ KeptBut (fun b => b = K ∨ (Value.slice p m c).ownBlock = some b) w w' := by
  have hK : (Value.slice p m c).ownBlock ≠ some K := book_not_row hB (by decide) hown
  go_enter Tryz.func18, Tryz.ntmps18
  go_wp2_with (go_at_call 46; refine (keepText_any base K n at0 p m c xs lp ln lc _ hn hm hB hbase hown hK).mono ?_; rintro e w' ⟨rfl, p', c', h1, h2, h3⟩)
  go_end0
  obtain ⟨g6, cap6, e6⟩ := ownsRow_succ h2
  cases e6
  exact ⟨rfl, g6, _, h1, h2, h3⟩

/-- a list of attributes and two lists of texts, each in its own place -/
theorem told_fills {w : World} {base K T c T' c' : Nat} {l : List At} {Y : List (List UInt8)} {Tt ct : Nat} {pa pb : Option Addr} {ca cb s3 : Nat} (hK : BookIs w K 3 (.slice (some ⟨T', 0, none⟩) 2 c') (.slice (some ⟨T, 0, none⟩) 1 c))
    (hT : w.ownsRow base 123 3 (.slice (some ⟨T, 0, none⟩) 1 c) 1 [.slice (some ⟨Tt, 0, none⟩) l.length ct, nilS, .int .i64 1])
    (hT' : w.ownsRow base 125 3 (.slice (some ⟨T', 0, none⟩) 2 c') 2 [.slice pa Y.length ca, nilS, .int .i64 2, .slice pb Y.length cb, nilS, .int .i64 3])
    (hb : base ≤ w.heap.size) (hl : l.length ≤ 1000) (hY : Y.length ≤ 100000)
    (r1 : w.ownsRow base 84 2 (.slice (some ⟨Tt, 0, none⟩) l.length ct) l.length (atCells l)) (r2 : w.ownsRow base 9 1 (.slice pa Y.length ca) Y.length (Y.map strV)) (r3 : w.ownsRow s3 9 1 (.slice pb Y.length cb) Y.length (Y.map strV))
    (b3 : base ≤ s3) (ha : ∀ g, (Value.slice pa Y.length ca).ownBlock = some g → g < s3) :
    ToldB w base K 3 T c [⟨some ⟨Tt, 0, none⟩, l.length, ct, 1⟩] (fun _ => atCells l) T' c' [⟨pa, Y.length, ca, 2⟩, ⟨pb, Y.length, cb, 3⟩] (fun _ => Y.map strV) := by
  have lo3 : ∀ g, (Value.slice pb Y.length cb).ownBlock = some g → s3 ≤ g := fun g h => (r3.lt g h).1
  exact {
    book := hK
    list := hT
    list' := hT'
    low := hb
    nu := fun i hi => by
      match i, hi with
      | 0, _ => show (1 : Nat) < 100; decide
    len := by show (1 : Nat) ≤ 1000; decide
    n := fun i hi => by
      match i, hi with
      | 0, _ => show l.length ≤ 1000000000; omega
    row := fun i hi => by
      match i, hi with
      | 0, _ => exact r1
    ne := fun i j hi hj hij g hg hg' => by
      match i, hi, j, hj with
      | 0, _, 0, _ => exact hij rfl
    nu' := fun i hi => by
      match i, hi with
      | 0, _ => show (2 : Nat) < 100; decide
      | 1, _ => show (3 : Nat) < 100; decide
    len' := by show (2 : Nat) ≤ 1000; decide
    n' := fun i hi => by
      match i, hi with
      | 0, _ => show Y.length ≤ 1000000000; omega
      | 1, _ => show Y.length ≤ 1000000000; omega
    row' := fun i hi => by
      match i, hi with
      | 0, _ => exact r2
      | 1, _ => exact row_mono r3 b3
    ne' := fun i j hi hj hij g hg hg' => by
      match i, hi, j, hj with
      | 0, _, 0, _ => exact hij rfl
      | 1, _, 1, _ => exact hij rfl
      | 0, _, 1, _ => have := ha g hg; have := lo3 g hg'; omega
      | 1, _, 0, _ => have := ha g hg'; have := lo3 g hg; omega }

theorem row_texts {w : World} {base n : Nat} {v : Value} {Y : List (List UInt8)} (h : w.ownsRow base 9 1 v n (Y.map strV)) (hn : n = Y.length) (hY : Y.length ≤ 9223372036854775807) : Texts w v Y := by
  subst hn
  rcases h.2 with ⟨rfl, h0⟩ | ⟨g, cap, cur, rfl, r⟩
  · exact ⟨none, 0, by rw [h0], hY, fun h => by omega⟩
  · refine ⟨_, _, rfl, hY, fun _ => ⟨g, rfl, fun j hj => ?_⟩⟩
    rw [h.cellAt j (by omega)]
    simp [hj]
theorem fillF_asked (l : List At) : ∀ (f : Nat) (s out : List UInt8) (asked : List (List UInt8)), (fillF l f s out asked).2.length ≤ asked.length + f
  | 0, _, _, _ => Nat.le_refl _
  | f + 1, [], _, asked => Nat.le_add_right _ _
  | f + 1, c :: t, out, asked => by
    cases h : askedL (c :: t) with
    | none => rw [fillF_plain h]; have := fillF_asked l f t (out ++ [c]) asked; omega
    | some nm =>
      rw [fillF_name h]
      have := fillF_asked l f (t.drop (nm.length + 1)) (out ++ valueL l nm) (if nm ∈ asked then asked else asked ++ [nm])
      have h2 : (if nm ∈ asked then asked else asked ++ [nm]).length ≤ asked.length + 1 := by split <;> simp
      omega
theorem fillL_asked (l : List At) (s : ByteArray) : (fillL l s.data.toList).2.length ≤ s.size := by
  have := fillF_asked l s.data.toList.length s.data.toList [] []
  simpa [fillL] using this
end Go.Proofs.YtikeaiibociapaaGreatDoor
