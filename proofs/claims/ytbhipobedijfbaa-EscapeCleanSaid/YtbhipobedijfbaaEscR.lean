import Derived.Test.YtbhipobedijfbaaEscC
namespace Go.Proofs.Ytbhipobedijfbaa
open Go.RowKit Go.Maps
set_option maxRecDepth 100000

/-! ### escape.Back: the lists' side -/
theorem back_skip : ∀ (p t : List UInt8), (∀ c ∈ p, markL c = none) → backL (p ++ t) = (backL t).map (p ++ ·)
  | [], t, _ => by simp
  | c :: p, t, h => by
    rw [List.cons_append, backL_plain _ (h c (List.mem_cons_self ..)), back_skip p t (fun x hx => h x (List.mem_cons_of_mem _ hx)), Option.map_map]
    rfl
theorem idx_first (s : ByteArray) : ∀ (f pos : Nat), pos ≤ s.size → s.size ≤ pos + f → NoMk s 0 pos →
    (Lib.idxFuncFrom isMark true s f pos = -1 ∧ NoMk s 0 s.size) ∨ ∃ p : Nat, ∃ h : p < s.size, Lib.idxFuncFrom isMark true s f pos = (p : Int) ∧ NoMk s 0 p ∧ ∃ m, markL s[p] = some m
  | 0, pos, h1, h2, h3 => by
    obtain rfl : pos = s.size := by omega
    exact .inl ⟨rfl, h3⟩
  | f + 1, pos, h1, h2, h3 => by
    unfold Lib.idxFuncFrom
    by_cases hp : pos < s.size
    · rw [if_pos hp]
      cases hm : isMark (Utf8.decode s pos).1 with
      | true =>
        rw [if_pos rfl]
        refine .inr ⟨pos, hp, rfl, h3, ?_⟩
        obtain ⟨-, e⟩ := rune_mark s pos hp hm
        obtain ⟨-, mb, -, h, -⟩ := mark_v hm
        rw [e] at h
        exact ⟨_, h⟩
      | false =>
        rw [if_neg (by decide)]
        obtain ⟨a, b⟩ := rune_none s pos hp hm
        have := Lib.width_pos s pos
        exact idx_first s f _ a (by omega) (noMk_trans h3 b)
    · rw [if_neg hp]
      obtain rfl : pos = s.size := by omega
      exact .inl ⟨rfl, h3⟩
theorem idx_mark (s : ByteArray) : (Lib.idxFunc isMark true s = -1 ∧ NoMk s 0 s.size) ∨ ∃ p : Nat, ∃ h : p < s.size, Lib.idxFunc isMark true s = (p : Int) ∧ NoMk s 0 p ∧ ∃ m, markL s[p] = some m :=
  idx_first s s.size 0 (by omega) (by omega) (fun j _ _ h => by omega)
theorem noMk_take {s : ByteArray} {p : Nat} (h : NoMk s 0 p) : ∀ c ∈ s.data.toList.take p, markL c = none := by
  have := noMk_part h
  simpa using this
theorem back_none {s : ByteArray} (h : NoMk s 0 s.size) : backL s.data.toList = some s.data.toList := by
  have h1 := noMk_take h
  rw [List.take_of_length_le (by simp)] at h1
  have := back_skip s.data.toList [] h1
  simpa [backL_nil] using this
theorem index_range : ∀ (l : List UInt8) (c : UInt8), -1 ≤ Lib.indexByte l c ∧ Lib.indexByte l c < l.length
  | [], c => by simp [Lib.indexByte]
  | b :: l, c => by
    have ih := index_range l c
    unfold Lib.indexByte
    rw [List.length_cons]
    split
    · omega
    · split <;> omega
/-- what is asked for at the first sign -/
theorem back_at {s : ByteArray} {p : Nat} (hp : p < s.size) (hn : NoMk s 0 p) {m : List UInt8} (hm : markL s[p] = some m) {K : Nat} (hK : (Lib.indexByte (s.data.toList.drop p) 59 + 1).toNat = K) :
    p + K ≤ s.size ∧ (signOf (s.extract p (p + K)).data.toList = none → backL s.data.toList = none) ∧
      ∀ d, signOf (s.extract p (p + K)).data.toList = some d → 0 < K ∧ backL s.data.toList = (backL (s.extract (p + K) s.size).data.toList).map (fun x => s.data.toList.take p ++ d :: x) := by
  have hl : s.data.toList.length = s.size := by simp
  have hr := index_range (s.data.toList.drop p) 59
  rw [List.length_drop] at hr
  have hpK : p + K ≤ s.size := by omega
  have hcand : (s.extract p (p + K)).data.toList = candL (s.data.toList.drop p) := by
    unfold candL
    rw [hK, extract_two, List.take_add, List.drop_append_of_le_length (by rw [List.length_take]; omega), List.drop_take, Nat.sub_self, List.take_zero, List.nil_append]
  have hd : s.data.toList.drop p = s[p] :: s.data.toList.drop (p + 1) := List.drop_eq_getElem_cons (by omega)
  have hsp := back_skip (s.data.toList.take p) (s.data.toList.drop p) (noMk_take hn)
  rw [List.take_append_drop] at hsp
  have hh := head_cand (s.data.toList.drop p)
  have hcl : (candL (s.data.toList.drop p)).length = K := by
    unfold candL; rw [hK, List.length_take, List.length_drop]; omega
  rw [hcl] at hh
  refine ⟨hpK, fun e => ?_, fun d e => ?_⟩
  · rw [hcand] at e
    rw [e] at hh
    rw [hsp]
    rw [hd] at hh ⊢
    rw [backL_bad hm hh]; rfl
  · rw [hcand] at e
    rw [e] at hh
    have hpos := (head_pos hh).1
    refine ⟨hpos, ?_⟩
    rw [hsp]
    have hx : backL (s.data.toList.drop p) = (backL ((s.data.toList.drop p).drop K)).map (d :: ·) := by
      rw [hd] at hh ⊢
      exact backL_mark hm hh
    rw [hx, List.drop_drop, Option.map_map, extract_end]
    rfl
theorem signOf_mark {m : List UInt8} {d : UInt8} (h : signOf m = some d) : markL d = some m := by
  unfold signOf at h
  split at h
  · next e => cases h; subst e; rfl
  · split at h
    · next e => cases h; subst e; rfl
    · split at h
      · next e => cases h; subst e; rfl
      · split at h
        · next e => cases h; subst e; rfl
        · split at h
          · next e => cases h; subst e; rfl
          · cases h
theorem signOf_of {m : List UInt8} {d : UInt8} (h : markL d = some m) : signOf m = some d := by
  unfold markL at h
  split at h
  · next e => cases h; subst e; rfl
  · split at h
    · next e => cases h; subst e; rfl
    · split at h
      · next e => cases h; subst e; rfl
      · split at h
        · next e => cases h; subst e; rfl
        · split at h
          · next e => cases h; subst e; rfl
          · cases h
theorem mark_low {c : UInt8} {m : List UInt8} (h : markL c = some m) : c.toNat < 128 := by
  by_cases e : c.toNat < 128
  · exact e
  · rw [mark_high (by omega)] at h; cases h
theorem rune_low {c : UInt8} (h : c.toNat < 128) : Lib.runeCells (c.toNat : Int) = Lib.byteCells [c] := by
  unfold Lib.runeCells
  rw [Lib.encodeRuneZ_one (by omega) (by omega)]
  simp [Lib.byteCells]

/-! ### a look among the marks -/
theorem zero_rune (w : World) : (zeroValue 21).run Try.prog w = .ok (.int .i32 0) w := by rfl
def signV (o : Option UInt8) : Value := .tuple #[.int .i32 ((o.getD 0).toNat : Int), .bool o.isSome]
theorem look_mark {w : World} {b n : Nat} {D : DataW Value} (h : w.ownsMap Try.prog 9 heldR b n D) (hM : MadeD (fun _ => false) D) (mb : ByteArray) (hz : mb.size ≤ maxLen) :
    (Instr.lookup 37 (.map (some b)) (.string mb) true).run Try.prog w = .ok (signV (signOf mb.data.toList)) w := by
  obtain ⟨v, ps, hrun, hv⟩ := h.look_ok key_s Try.underlying37 (zero_rune _) (zd := .held (.int .i32 0)) (zp := []) rfl (keyS mb hz)
  cases hs : signOf mb.data.toList with
  | none =>
    have hh := hM.2.2 mb.data.toList (fun c e => by rw [signOf_of e] at hs; cases hs)
    rw [hrun, hh, heldR_out hv (atKey_of_not_has hh _)]
    rfl
  | some d =>
    obtain ⟨h1, h2⟩ := hM.2.1 d _ (signOf_mark hs)
    rw [hrun, h1, heldR_out hv (h2 rfl _)]
    rfl
theorem wpList_lookup_mark {w : World} {ops : Array Oper} {rest : List Oper} {o : Oper} {a : Act} {Q : Exit → Act → World → Prop}
    (hg : o.guard = none) (m x : Operand) (hop : o.op = Op.lookup 37 m x true) (b : Nat) (mb : ByteArray) (hm : a.eval m = .map (some b)) (hx : a.eval x = .string mb) (hM : MarksAt w b) (hz : mb.size ≤ maxLen)
    (sg : Option UInt8) (hs : signOf mb.data.toList = sg) (r : Int) (f : Bool) (hr : ((sg.getD 0).toNat : Int) = r) (hf : sg.isSome = f) (hK : wpList Try.prog ops Q rest (a.put o.dst (.tuple #[.int .i32 r, .bool f])) w) : wpList Try.prog ops Q (o :: rest) a w := by
  subst hs; subst hr; subst hf
  obtain ⟨n, D, hO, -, hD⟩ := hM
  exact wpList_lookup_run w hg m x _ true hop _ _ hm hx _ (look_mark hO hD mb hz) hK
end Go.Proofs.Ytbhipobedijfbaa
