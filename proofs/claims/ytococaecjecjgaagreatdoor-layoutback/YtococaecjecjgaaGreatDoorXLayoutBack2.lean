/- Texts laid together: LxQ, LxV, Lx1, LayI, Lx2. -/
import Derived.Test.YtococaecjecjgaaGreatDoorXLayoutBack1
import Derived.Deep.QuietTactic
import Derived.WalkSpells
import Derived.Laws.AppendOwn
import Derived.Lib.AppendZeros
import Derived.Maps.OwnSet
import Derived.Test.YtococaecjecjgaaGreatDoorChecked
import Derived.WalkLawsBesides
import Derived.Shelf.Small.Strs
/- Tokens: where they stand; written again they are the same; going on byte by byte (pure). -/
namespace Go.Proofs.YtococaecjecjgaaGreatDoor.lx
set_option linter.unusedVariables false

/-- Tokens, each where it is told, from a place on. -/
def Ch (s : List UInt8) : Nat → List Tk → Prop
  | _, [] => True
  | p, t :: r => p ≤ t.a ∧ t.a + t.t.length ≤ s.length ∧ (s.drop t.a).take t.t.length = t.t ∧ IsT t.t ∧ Ch s (t.a + t.t.length) r
theorem Ch.low {s : List UInt8} {p q : Nat} {l : List Tk} (h : Ch s q l) (hp : p ≤ q) : Ch s p l := by
  cases l with
  | nil => trivial
  | cons t r => exact ⟨by have := h.1; omega, h.2⟩
theorem lx_ch (s : List UInt8) (n : Nat) : ∀ a, s.length - a ≤ n → a ≤ s.length → Ch s a (lx (s.drop a) a).1 := by
  induction n with
  | zero =>
    intro a h1 h2
    rw [List.drop_of_length_le (by omega), lx_nil]
    trivial
  | succ n ih =>
    intro a h1 h2
    by_cases h0 : s.drop a = []
    · rw [h0, lx_nil]; trivial
    have hl : (s.drop a).length = s.length - a := List.length_drop
    by_cases hg : 0 < gap (s.drop a)
    · have hgl := gap_le (s.drop a)
      rw [lx_gap _ _ hg, List.drop_drop]
      exact (ih (a + gap (s.drop a)) (by omega) (by omega)).low (by omega)
    · by_cases ht : 0 < tl (s.drop a)
      · have htl := tl_le (s.drop a)
        rw [lx_tok _ _ (by omega) ht, List.drop_drop]
        have e : ((s.drop a).take (tl (s.drop a))).length = tl (s.drop a) := by rw [List.length_take]; omega
        refine ⟨Nat.le_refl _, ?_, ?_, tl_isT _ ht, ?_⟩
        · dsimp only; rw [e]; omega
        · dsimp only; rw [e]
        · dsimp only; rw [e]
          exact ih (a + tl (s.drop a)) (by omega) (by omega)
      · rw [lx_bad _ _ h0 (by omega) (by omega)]
        trivial
theorem lx_len (l : List UInt8) : ∀ (n a : Nat), l.length ≤ n → (lx l a).1.length ≤ l.length := by
  intro n
  induction n generalizing l with
  | zero =>
    intro a h
    obtain rfl : l = [] := List.eq_nil_of_length_eq_zero (by omega)
    simp [lx_nil]
  | succ n ih =>
    intro a h
    by_cases h0 : l = []
    · subst h0; simp [lx_nil]
    by_cases hg : 0 < gap l
    · have := gap_le l
      rw [lx_gap _ _ hg]
      have := ih (l.drop (gap l)) (a + gap l) (by rw [List.length_drop]; omega)
      rw [List.length_drop] at this
      omega
    · by_cases ht : 0 < tl l
      · have := tl_le l
        rw [lx_tok _ _ (by omega) ht]
        have := ih (l.drop (tl l)) (a + tl l) (by rw [List.length_drop]; omega)
        rw [List.length_drop] at this
        simp only [List.length_cons]
        omega
      · rw [lx_bad _ _ h0 (by omega) (by omega)]
        simp
/-- Within a remark. -/
def Rm (s : List UInt8) (i : Nat) : List Tk × Option Nat := lx (s.drop (i + rl (s.drop i))) (i + rl (s.drop i))
theorem drop_cons (s : List UInt8) (i : Nat) (c : UInt8) (h : s[i]? = some c) : s.drop i = c :: s.drop (i + 1) := by
  obtain ⟨h1, h2⟩ := List.getElem?_eq_some_iff.1 h
  rw [List.drop_eq_getElem_cons h1, h2]
theorem rm_in (s : List UInt8) (i : Nat) (h : s[i]? = some 35) : lx (s.drop i) i = Rm s i := by
  have e := drop_cons s i 35 h
  have hg : gap (s.drop i) = rl (s.drop i) := by rw [e, gap_cons]; rfl
  have h1 : 0 < rl (s.drop i) := by
    rw [e]; unfold rl; rw [List.takeWhile_cons_of_pos (by decide)]; simp
  rw [lx_gap _ _ (by omega), hg, List.drop_drop]
  rfl
theorem lx_over (s : List UInt8) (i : Nat) (c : UInt8) (h : s[i]? = some c) (hc : isB c = true) : lx (s.drop i) i = lx (s.drop (i + 1)) (i + 1) := by
  rw [drop_cons s i c h, lx_blank _ _ _ hc]
theorem lx_end (s : List UInt8) (i : Nat) (h : s.length ≤ i) : lx (s.drop i) i = ([], none) := by
  rw [List.drop_of_length_le h]; rfl
theorem lx_mark (s : List UInt8) (i n : Nat) (hi : i < s.length) (hg : gap (s.drop i) = 0) (hn : tl (s.drop i) = n) (h0 : 0 < n) : i + n ≤ s.length ∧ lx (s.drop i) i = (⟨(s.take (i + n)).drop i, i⟩ :: (lx (s.drop (i + n)) (i + n)).1, (lx (s.drop (i + n)) (i + n)).2) := by
  have := tl_le (s.drop i)
  rw [List.length_drop] at this
  refine ⟨by omega, ?_⟩
  rw [lx_tok _ _ hg (by omega), hn, List.drop_drop, List.drop_take, show i + n - i = n by omega]
end Go.Proofs.YtococaecjecjgaaGreatDoor.lx
/- Bytes of a text; blocks that stay as they were. -/
namespace Go.Proofs.YtococaecjecjgaaGreatDoor.lx
set_option linter.unusedVariables false
open Go.ChangeShapes Go.WideShapes Go.ChangeAt Go.RowKit
open mem
/-- Byte j of a text. -/
def sb (s : ByteArray) (j : Nat) : Int := ((s.data.toList.getD j 0).toNat : Int)
theorem sb_bd (s : ByteArray) (j : Nat) : 0 ≤ sb s j ∧ sb s j < 256 := by
  unfold sb
  have := (s.data.toList.getD j 0).toNat_lt
  omega
theorem sb_get (s : ByteArray) (j : Nat) (h : j < s.size) : sb s j = ((s[j]'h).toNat : Int) := by
  unfold sb
  have h' : j < s.data.toList.length := by simpa using h
  rw [List.getD_eq_getElem?_getD, List.getElem?_eq_getElem h']
  rfl
theorem at_bl {w w' : World} (h : Bl w w') {a : Addr} {v : Value} (hc : w.cell? a = some v) : w'.cell? a = some v := by
  have hlt : a.block < w.heap.size := by
    rcases Nat.lt_or_ge a.block w.heap.size with h1 | h1
    · exact h1
    · simp [World.cell?, Array.getElem?_eq_none h1] at hc
  unfold World.cell? at hc ⊢
  rw [Below.block h _ hlt]
  exact hc
theorem bl_grown {w0 w w' : World} {row : Option Nat} (h : Bl w0 w) (hg : w.grownBy w' row) (hrow : ∀ k, row = some k → w0.heap.size ≤ k) : Bl w0 w' := by
  refine ⟨hg.os.trans h.os, hg.tape.trans h.tape, hg.output.trans h.output, Nat.le_trans h.size hg.size, fun k hk => ?_⟩
  rw [hg.block k (Nat.lt_of_lt_of_le hk h.size) (fun e => by have := hrow k e.symm; omega)]
  exact h.block k hk
theorem grown_set (w : World) (b i : Nat) (v : Value) : w.grownBy (w.setCell ⟨b, i, none⟩ v) (some b) :=
  ⟨rfl, rfl, rfl, by simp [World.setCell], fun k hk hne => by
    have : ¬ b = k := fun e => hne (by rw [e])
    simp [World.setCell, Array.getElem?_modify, this]⟩
theorem cell_of {w : World} {g : Nat} {cur : Array Value} {e : TypeId} {fr : Nat × Nat} (h : w.heap[g]? = some (.cells cur e fr)) (j : Nat) : w.cell? ⟨g, j, none⟩ = cur[j]? := by
  simp [World.cell?, h]
theorem lt_of_heap {w : World} {g : Nat} {o : Obj} (h : w.heap[g]? = some o) : g < w.heap.size := (Array.getElem?_eq_some_iff.1 h).1
/-- A text's bytes. -/
def L (s : ByteArray) : List UInt8 := s.data.toList
/-- The text of bytes. -/
def tx (l : List UInt8) : ByteArray := ⟨l.toArray⟩
theorem L_len (s : ByteArray) : (L s).length = s.size := by simp [L]
theorem L_tx (l : List UInt8) : L (tx l) = l := by simp [L, tx]
theorem tx_L (s : ByteArray) : tx (L s) = s := by simp [L, tx]
theorem L_inj {a b : ByteArray} (h : L a = L b) : a = b := by rw [← tx_L a, ← tx_L b, h]
theorem tx_size (l : List UInt8) : (tx l).size = l.length := by rw [← L_len, L_tx]
theorem L_app (a b : ByteArray) : L (a ++ b) = L a ++ L b := by simp [L]
theorem tx_app (a b : List UInt8) : tx a ++ tx b = tx (a ++ b) := L_inj (by rw [L_app, L_tx, L_tx, L_tx])
theorem L_ext (s : ByteArray) (i j : Nat) : L (s.extract i j) = ((L s).take j).drop i := by
  simp [L, ByteArray.data_extract, List.drop_take]
end Go.Proofs.YtococaecjecjgaaGreatDoor.lx
/- letter, digit, lineEnd and begin of package lex. -/
namespace Go.Proofs.YtococaecjecjgaaGreatDoor.lx
set_option linter.unusedVariables false
open Go.ChangeShapes Go.WideShapes Go.ChangeAt Go.RowKit
open mem

theorem ret_bool {a b : Bool} (h : a = b) : Ending.returned (.bool a) = .returned (.bool b) := by rw [h]
theorem letter_at (x : Int) (w : World) : Calls Tryz.prog 158 #[.int .u8 x] w fun e w' => e = .returned (.bool (lt x)) ∧ w' = w := by
  go_enter Tryz.func158, Tryz.ntmps158
  go_wp2
  all_goals
    go_ret
    refine ⟨ret_bool ?_, rfl⟩
    rw [Bool.eq_iff_iff]
    simp [lt]
    try omega
theorem digit_at (x : Int) (w : World) : Calls Tryz.prog 159 #[.int .u8 x] w fun e w' => e = .returned (.bool (dg x)) ∧ w' = w := by
  go_enter Tryz.func159, Tryz.ntmps159
  go_wp2
  all_goals
    go_ret
    refine ⟨ret_bool ?_, rfl⟩
    rw [Bool.eq_iff_iff]
    simp [dg]
    try omega
theorem L_get (s : ByteArray) (i : Nat) (h : i < s.size) : (L s)[i]? = some (s[i]'h) := by
  have h' : i < (L s).length := by rw [L_len]; exact h
  rw [List.getElem?_eq_getElem h']
  rfl
end Go.Proofs.YtococaecjecjgaaGreatDoor.lx
/- The library's own texts that a call comes to, as this program has them: laid on the shelf's. -/
namespace Go.Proofs.YtococaecjecjgaaGreatDoor.layI
open Go.Shelf
def rf : FuncId → FuncId
  | 137 => 175
  | 217 => 165
  | 266 => 184
  | x => x
def rt : TypeId → TypeId
  | 3 => 3
  | 5 => 5
  | 9 => 9
  | x => x
def rg : Nat → Nat

  | x => x
def ren : Ren := ⟨rf, rt, rg⟩
set_option maxRecDepth 100000 in
theorem laid : Lays.n137 Tryz.prog ren where
  mixed := by kernel_rfl
  f137 := by kernel_rfl
  f217 := by kernel_rfl
  f266 := by kernel_rfl
  t3 := by kernel_rfl
  a3 := fun _ => by kernel_rfl
  z3 := fun _ => by kernel_rfl
  v3 := fun _ => by kernel_rfl
  t5 := by kernel_rfl
  a5 := fun _ => by kernel_rfl
  z5 := fun _ => by kernel_rfl
  v5 := fun _ => by kernel_rfl
  t9 := by kernel_rfl
  a9 := fun _ => by kernel_rfl
  z9 := fun _ => by kernel_rfl
  v9 := fun _ => by kernel_rfl
end Go.Proofs.YtococaecjecjgaaGreatDoor.layI
/- lineEnd and begin of package lex. -/
namespace Go.Proofs.YtococaecjecjgaaGreatDoor.lx
set_option linter.unusedVariables false
open Go.ChangeShapes Go.WideShapes Go.ChangeAt Go.RowKit
open mem

theorem index_rl (l : List UInt8) : (Lib.indexByte l 10 = -1 ∧ rl l = l.length) ∨ (Lib.indexByte l 10 = (rl l : Int) ∧ rl l < l.length) := by
  induction l with
  | nil => exact Or.inl ⟨rfl, rfl⟩
  | cons c l ih =>
    unfold Lib.indexByte
    by_cases h : (c == 10) = true
    · rw [if_pos h]
      have e : rl (c :: l) = 0 := by unfold rl; rw [List.takeWhile_cons_of_neg (by simp at h; simp [h])]; rfl
      rw [e]
      exact Or.inr ⟨rfl, by simp⟩
    · rw [if_neg h]
      have e : rl (c :: l) = rl l + 1 := by unfold rl; rw [List.takeWhile_cons_of_pos (by simp at h; simp [h])]; rfl
      rw [e]
      rcases ih with ⟨h1, h2⟩ | ⟨h1, h2⟩
      · rw [h1]; left; exact ⟨rfl, by simp [h2]⟩
      · rw [h1]; right
        rw [if_neg (by intro h; rw [beq_iff_eq] at h; omega)]
        exact ⟨by omega, by simp; omega⟩
theorem ret_int {a b : Int} (h : a = b) : Ending.returned (.int .i64 a) = .returned (.int .i64 b) := by rw [h]
theorem lineEnd_at (s : ByteArray) (I : Nat) (w : World) (hs : s.size ≤ 100000) (hI : I ≤ s.size) :
    Calls Tryz.prog 157 #[.string s, .int .i64 (I : Int)] w fun e w' => e = .returned (.int .i64 ((I + rl ((L s).drop I) : Nat) : Int)) ∧ Dr w w' := by
  have e1 : (s.extract I s.size).data.toList = (L s).drop I := by
    have := L_ext s I s.size
    rw [List.take_of_length_le (by rw [L_len]; exact Nat.le_refl _)] at this
    exact this
  have c1 := Any.strings_IndexByte layI.laid (s.extract I s.size) 10
  rw [e1] at c1
  have hl : ((L s).drop I).length = s.size - I := by rw [List.length_drop, L_len]
  have hr := index_rl ((L s).drop I)
  rw [hl] at hr
  obtain ⟨R, hR⟩ : ∃ R, R = rl ((L s).drop I) := ⟨_, rfl⟩
  rw [← hR] at hr ⊢
  change ∀ w : World, Calls Tryz.prog 175 #[.string (s.extract I s.size), .int .u8 10] w fun e w' => e = .returned (.int .i64 (Lib.indexByte ((L s).drop I) 10)) ∧ w' = w at c1
  generalize Lib.indexByte ((L s).drop I) 10 = x at hr c1
  clear hR e1 hl
  rcases hr with ⟨rfl, h2⟩ | ⟨rfl, h2⟩
  · go_enter Tryz.func157, Tryz.ntmps157
    go_wp2_with fail
    refine (c1 _).mono ?_
    rintro e w1 ⟨rfl, rfl⟩
    go_wp2
    go_ret
    exact ⟨ret_int (by omega), Dr.refl _⟩
  · go_enter Tryz.func157, Tryz.ntmps157
    go_wp2_with fail
    refine (c1 _).mono ?_
    rintro e w1 ⟨rfl, rfl⟩
    go_wp2
    go_ret
    exact ⟨ret_int (by omega), Dr.refl _⟩

theorem byte_is (s : ByteArray) (k : Nat) (h : k < s.size) (c : UInt8) (hc : sb s k = (c.toNat : Int)) : (L s)[k]? = some c := by
  rw [L_get s k h]
  rw [sb_get s k h] at hc
  rw [UInt8.toNat_inj.1 (show (s[k]'h).toNat = c.toNat by omega)]
theorem gap_none (s : ByteArray) (k : Nat) (h : k < s.size) (h1 : sb s k ≠ 32) (h2 : sb s k ≠ 10) (h3 : sb s k ≠ 9) (h4 : sb s k ≠ 35) : gap ((L s).drop k) = 0 := by
  rw [drop_cons (L s) k _ (L_get s k h), gap_cons]
  rw [sb_get s k h] at h1 h2 h3 h4
  generalize s[k]'h = c at *
  have e1 : isB c = false := by
    unfold isB
    simp only [Bool.or_eq_false_iff, beq_eq_false_iff_ne]
    refine ⟨⟨?_, ?_⟩, ?_⟩
    · rintro rfl; exact h1 rfl
    · rintro rfl; exact h2 rfl
    · rintro rfl; exact h3 rfl
  have e2 : (c == 35) = false := by
    rw [beq_eq_false_iff_ne]
    rintro rfl; exact h4 rfl
  rw [e1, e2]
  rfl
theorem dr_trans {a b c : World} (h : Dr a b) (k : Dr b c) : Dr a c := by
  obtain ⟨q, rfl⟩ := k
  exact Dr.drewN q h
/-- Where the next token begins. -/
def Beg (l : List UInt8) (I b : Nat) : Prop := I ≤ b ∧ b ≤ l.length ∧ lx (l.drop b) b = lx (l.drop I) I ∧ (b = l.length ∨ b < l.length ∧ gap (l.drop b) = 0)
set_option maxRecDepth 10000 in
theorem begin_at (s : ByteArray) (I : Nat) (w : World) (hs : s.size ≤ 100000) (hI : I ≤ s.size) :
    Calls Tryz.prog 129 #[.string s, .int .i64 (I : Int)] w fun e w' => ∃ b : Nat, e = .returned (.int .i64 (b : Int)) ∧ Beg (L s) I b ∧ Dr w w' := by
  go_enter Tryz.func129, Tryz.ntmps129
  go_wp2
  go_loopw [1] (fun i wr => ∃ k : Nat, I ≤ k ∧ k ≤ s.size ∧ i = .int .i64 (k : Int) ∧ Hid (lx ((L s).drop k) k = lx ((L s).drop I) I) ∧ Dr w wr) (fun i _ => s.size - (intOf i).toNat)
  case atStart => exact ⟨I, Nat.le_refl _, hI, rfl, rfl, Dr.refl _⟩
  case round =>
    obtain ⟨k, hk, hks, rfl, HL, hd⟩ := hrel
    obtain ⟨q, rfl⟩ := hd
    generalize hwq : w.drewN q = wq
    have HW : Hid (w.drewN q = wq) := hwq
    clear hwq
    by_cases h1 : k < s.size
    · have e1 : (((s[k]'h1).toNat : Nat) : Int) = sb s k := (sb_get s k h1).symm
      have d1 : decide ((k : Int) < (s.size : Int)) = true := decide_eq_true (by omega)
      have HG : Hid (∀ c : UInt8, sb s k = (c.toNat : Int) → (L s)[k]? = some c) := byte_is s k h1
      have hgap : Hid (∀ _ : Nat, sb s k ≠ 32 → sb s k ≠ 10 → sb s k ≠ 9 → sb s k ≠ 35 → gap ((L s).drop k) = 0) := fun _ => gap_none s k h1
      generalize sb s k = x at *
      by_cases b32 : x = 32 ∨ x = 10 ∨ x = 9
      · have HB : Hid (lx ((L s).drop (k + 1)) (k + 1) = lx ((L s).drop I) I) := by
          rw [← HL.out]
          rcases b32 with h | h | h
          · exact (lx_over (L s) k 32 (HG.out 32 h) rfl).symm
          · exact (lx_over (L s) k 10 (HG.out 10 h) rfl).symm
          · exact (lx_over (L s) k 9 (HG.out 9 h) rfl).symm
        rcases b32 with rfl | rfl | rfl
        all_goals
          go_wp2
          go_roundw
          case rel => exact ⟨k + 1, by omega, by omega, by go_num, HB.out, ⟨q, HW.out.symm⟩⟩
          case measure => simp [intOf]; omega
      · have n32 : (x == 32) = false := by rw [beq_eq_false_iff_ne]; omega
        have n10 : (x == 10) = false := by rw [beq_eq_false_iff_ne]; omega
        have n9 : (x == 9) = false := by rw [beq_eq_false_iff_ne]; omega
        by_cases b35 : x = 35
        · subst b35
          have cE := lineEnd_at s k
          have hrl : 0 < rl ((L s).drop k) ∧ k + rl ((L s).drop k) ≤ s.size := by
            have e := drop_cons (L s) k 35 (HG.out 35 rfl)
            have h := tw_le (· != 10) ((L s).drop k)
            rw [List.length_drop, L_len] at h
            refine ⟨?_, by unfold rl; omega⟩
            rw [e]; unfold rl; rw [List.takeWhile_cons_of_pos (by decide)]; simp
          have HB : Hid (lx ((L s).drop (k + rl ((L s).drop k))) (k + rl ((L s).drop k)) = lx ((L s).drop I) I) := by
            rw [← HL.out]
            exact (rm_in (L s) k (HG.out 35 rfl)).symm
          generalize rl ((L s).drop k) = R at *
          clear b32
          go_wp2_with fail
          refine (cE _ hs hks).mono ?_
          rintro e w1 ⟨rfl, hd1⟩
          go_wp2
          go_roundw
          case rel => exact ⟨k + R, by omega, by omega, rfl, HB.out, by rw [← HW.out] at hd1; exact dr_trans ⟨q, rfl⟩ hd1⟩
          case measure => simp [intOf]; omega
        · have n35 : (x == 35) = false := by rw [beq_eq_false_iff_ne]; exact b35
          have HN : Hid (gap ((L s).drop k) = 0) := hgap.out 0 (by omega) (by omega) (by omega) b35
          clear b32 b35
          go_wp2
          go_ret
          exact ⟨k, rfl, ⟨hk, by rw [L_len]; exact hks, HL.out, Or.inr ⟨by rw [L_len]; exact h1, HN.out⟩⟩, ⟨q, HW.out.symm⟩⟩
    · have d1 : decide ((k : Int) < (s.size : Int)) = false := decide_eq_false (by omega)
      go_wp2
      go_ret
      exact ⟨k, rfl, ⟨hk, by rw [L_len]; exact hks, HL.out, Or.inl (by rw [L_len]; omega)⟩, ⟨q, HW.out.symm⟩⟩
end Go.Proofs.YtococaecjecjgaaGreatDoor.lx
