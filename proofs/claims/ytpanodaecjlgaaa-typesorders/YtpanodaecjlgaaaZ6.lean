/- Texts laid together: Lx5, Ex1, Dig, Digs1. -/
import Derived.Test.YtpanodaecjlgaaaZ5
import Derived.Test.YtpanodaecjlgaaaZ1
import Derived.Laws.Rows
import Derived.WalkKit
import Derived.ProofKit
import Derived.OpenShut
import Derived.Laws.BytesArg
import Derived.Test.YtpanodaecjlgaaaRows
import Derived.WalkLawsBesides
/- Lex and Name of package lex. -/
namespace Go.Proofs.Ytpanodaecjlgaaa.lx
set_option linter.unusedVariables false
open Go.ChangeShapes Go.WideShapes Go.ChangeAt Go.RowKit
open mem

/-- Does a text begin with a letter? -/
def nmb (l : List UInt8) : Bool := match l.head? with | some c => isL c | none => false
end Go.Proofs.Ytpanodaecjlgaaa.lx
/- Expressions as they lie; a reader of tokens: next, take, at; binds, number. -/
namespace Go.Proofs.Ytpanodaecjlgaaa.ex
set_option linter.unusedVariables false
open Go.ChangeShapes Go.WideShapes Go.ChangeAt Go.RowKit
open mem lx

/-- The cells of a part of an expression. -/
def cellsX (code a n : Int) (nm op : List UInt8) (l r : Value) : Obj := .cells #[.int .i64 code, .int .i64 a, .int .i64 n, .string (tx nm), .string (tx op), l, r] 74 (0, 0)
/-- An expression, as it lies. -/
def IsX (w : World) : Value → Ex → Prop
  | v, .num a n => ∃ b, v = .pointer (some ⟨b, 0, none⟩) ∧ w.heap[b]? = some (cellsX 1 a n [] [] (.pointer none) (.pointer none))
  | v, .nam a t => ∃ b, v = .pointer (some ⟨b, 0, none⟩) ∧ w.heap[b]? = some (cellsX 2 a 0 t [] (.pointer none) (.pointer none))
  | v, .bin a o l r => ∃ b vl vr, v = .pointer (some ⟨b, 0, none⟩) ∧ w.heap[b]? = some (cellsX 3 a 0 [] o vl vr) ∧ IsX w vl l ∧ IsX w vr r
/-- Parts of expressions stay as they are. -/
def Kx (w w' : World) : Prop := ∀ (b : Nat) (cs : Array Value), w.heap[b]? = some (.cells cs 74 (0, 0)) → w'.heap[b]? = some (.cells cs 74 (0, 0))
theorem Kx.bl {w w' : World} (h : Bl w w') : Kx w w' := fun b cs hb => by rw [Below.block h b (lt_of_heap hb)]; exact hb
theorem Kx.trans {a b c : World} (h : Kx a b) (k : Kx b c) : Kx a c := fun x cs hx => k x cs (h x cs hx)
theorem IsX.keep {w w' : World} (h : Kx w w') {v : Value} {x : Ex} (hx : IsX w v x) : IsX w' v x := by
  induction x generalizing v with
  | num a n =>
    obtain ⟨b, h1, h2⟩ := hx
    exact ⟨b, h1, h _ _ h2⟩
  | nam a t =>
    obtain ⟨b, h1, h2⟩ := hx
    exact ⟨b, h1, h _ _ h2⟩
  | bin a o l r il ir =>
    obtain ⟨b, vl, vr, h1, h2, h3, h4⟩ := hx
    exact ⟨b, vl, vr, h1, h _ _ h2, il h3, ir h4⟩
theorem IsX.ptr {w : World} {v : Value} {x : Ex} (hx : IsX w v x) : ∃ b, v = .pointer (some ⟨b, 0, none⟩) ∧ b < w.heap.size := by
  cases x with
  | num a n => obtain ⟨b, h1, h2⟩ := hx; exact ⟨b, h1, lt_of_heap h2⟩
  | nam a t => obtain ⟨b, h1, h2⟩ := hx; exact ⟨b, h1, lt_of_heap h2⟩
  | bin a o l r => obtain ⟨b, vl, vr, h1, h2, _⟩ := hx; exact ⟨b, h1, lt_of_heap h2⟩
/-- What was there is as it was, but for one block. -/
structure Gp (P : Nat) (w w' : World) : Prop where
  os : w'.os = w.os
  tape : w'.tape = w.tape
  output : w'.output = w.output
  size : w.heap.size ≤ w'.heap.size
  block : ∀ k, k < w.heap.size → k ≠ P → w'.heap[k]? = w.heap[k]?
theorem Gp.bl {P : Nat} {w w' : World} (h : Bl w w') : Gp P w w' := ⟨h.os, h.tape, h.output, h.size, fun k hk _ => Below.block h k hk⟩
theorem Gp.refl (P : Nat) (w : World) : Gp P w w := Gp.bl (Bl.refl _)
theorem Gp.trans {P : Nat} {a b c : World} (h : Gp P a b) (k : Gp P b c) : Gp P a c :=
  ⟨k.os.trans h.os, k.tape.trans h.tape, k.output.trans h.output, Nat.le_trans h.size k.size, fun x hx hne => (k.block x (Nat.lt_of_lt_of_le hx h.size) hne).trans (h.block x hx hne)⟩
theorem Gp.set {P j : Nat} {w : World} (v : Value) : Gp P w (w.setCell ⟨P, j, none⟩ v) :=
  let g := grown_set w P j v
  ⟨g.os, g.tape, g.output, g.size, fun k hk hne => g.block k hk (fun e => hne (by injection e))⟩
theorem Gp.setNew {P N j : Nat} {w w' : World} (h : Gp P w w') (hN : w.heap.size ≤ N) (v : Value) : Gp P w (w'.setCell ⟨N, j, none⟩ v) :=
  let g := grown_set w' N j v
  ⟨g.os.trans h.os, g.tape.trans h.tape, g.output.trans h.output, Nat.le_trans h.size g.size, fun k hk hne => (g.block k (Nat.lt_of_lt_of_le hk h.size) (fun e => by injection e with e; omega)).trans (h.block k hk hne)⟩
theorem Gp.alloc {P : Nat} {w w' : World} (h : Gp P w w') (o : Obj) : Gp P w (w'.alloc o) := h.trans (Gp.bl ((Bl.refl _).alloc _))
theorem Gp.below {P : Nat} {w0 w w' : World} (h0 : Bl w0 w) (h : Gp P w w') (hP : w0.heap.size ≤ P) : Bl w0 w' :=
  ⟨h.os.trans h0.os, h.tape.trans h0.tape, h.output.trans h0.output, Nat.le_trans h0.size h.size, fun k hk => by
    rw [h.block k (Nat.lt_of_lt_of_le hk h0.size) (by omega)]
    exact Below.block h0 k hk⟩
theorem In.gp {P : Nat} {w w' : World} {p : Option Addr} {l : List Tk} (h : tr.In w p l) (hg : Gp P w w') (hp : ∀ x, p = some x → x.block < w.heap.size ∧ x.block ≠ P) : tr.In w' p l := by
  rcases h with h | ⟨x, h1, h2⟩
  · exact Or.inl h
  · refine Or.inr ⟨x, h1, fun k u hk => ?_⟩
    have := h2 k u hk
    obtain ⟨q1, q2⟩ := hp x h1
    have hb : (x.add k).block = x.block := by cases k <;> rfl
    unfold World.cell? at this ⊢
    rw [hb, hg.block _ q1 q2, ← hb]
    exact this
def tkV (t : Tk) : Value := .agg #[.string (tx t.t), .int .i64 (t.a : Int)]
theorem infoT : (Try.prog.info? 67).map (·.size) = some 2 := by kernel_rfl
theorem tl_tx (t : List UInt8) : (tx t).toList = t := by rw [ByteArray.toList_eq]; simp [tx]
end Go.Proofs.Ytpanodaecjlgaaa.ex
/- Plain facts on digits: pr lays a number's digits, pv is the number that digits are. No program. -/
namespace Go.Proofs.Ytpanodaecjlgaaa.dig
open Go.RowKit

/-- Byte j of a text. -/
def sb (s : ByteArray) (j : Nat) : Int := ((s.data.toList.getD j 0).toNat : Int)
theorem sb_bd (s : ByteArray) (j : Nat) : 0 ≤ sb s j ∧ sb s j < 256 := by
  unfold sb
  have := (s.data.toList.getD j 0).toNat_lt
  omega
theorem sb_get (s : ByteArray) (j : Nat) (h : j < s.size) : sb s j = ((s[j]'h).toNat : Int) := by
  unfold sb
  have h' : j < s.data.toList.length := by simpa using h
  rw [List.getD_eq_getElem?_getD, List.getElem?_eq_getElem h']
  rfl
theorem sb_nums (zs : List Int) (h : ∀ z ∈ zs, 0 ≤ z ∧ z < 256) (j : Nat) : sb (strOfNums zs) j = zs.getD j 0 := by
  unfold sb
  rw [strOfNums_data]
  by_cases hj : j < zs.length
  · have hz := h _ (List.getElem_mem hj)
    rw [List.getD_eq_getElem?_getD, List.getD_eq_getElem?_getD, List.getElem?_map, List.getElem?_eq_getElem hj]
    simp only [Option.map_some, Option.getD_some]
    obtain ⟨n, hn⟩ := Int.eq_ofNat_of_zero_le hz.1
    rw [hn]
    have : n < 256 := by omega
    simp [Nat.mod_eq_of_lt this]
  · rw [List.getD_eq_getElem?_getD, List.getD_eq_getElem?_getD, List.getElem?_eq_none (by simpa using hj), List.getElem?_eq_none (by omega)]
    rfl

/-- What a byte is as a digit (-1: none). -/
def dv (c : Int) : Int := if 48 ≤ c ∧ c ≤ 57 then c - 48 else if 97 ≤ c ∧ c ≤ 102 then c - 87 else if 65 ≤ c ∧ c ≤ 70 then c - 55 else -1
theorem dv_bd (c : Int) : -1 ≤ dv c ∧ dv c ≤ 15 := by
  unfold dv
  split
  · omega
  · split
    · omega
    · split <;> omega
/-- A small digit's byte. -/
def ch (d : Nat) : Int := if d < 10 then 48 + (d : Int) else 87 + (d : Int)
theorem ch_bd (d : Nat) (h : d < 16) : 48 ≤ ch d ∧ ch d ≤ 102 := by
  unfold ch
  split <;> omega
theorem dv_ch (d : Nat) (h : d < 16) : dv (ch d) = d := by
  unfold dv ch
  by_cases h1 : d < 10
  · rw [if_pos h1, if_pos (by omega)]; omega
  · rw [if_neg h1, if_neg (by omega), if_pos (by omega)]; omega
/-- All small digits. -/
def lit : ByteArray := ⟨#[48, 49, 50, 51, 52, 53, 54, 55, 56, 57, 97, 98, 99, 100, 101, 102]⟩
theorem lit_get (k : Nat) (h : k < lit.size) : ((lit[k]'h).toNat : Int) = ch k := by
  have : ∀ k : Fin 16, ((lit[k.1]'k.2).toNat : Int) = ch k.1 := by decide
  exact this ⟨k, h⟩
theorem lit_cut (k : Nat) (h : k < 16) : (lit.extract k 16).extract 0 1 = strOfNums [ch k] := by
  rcases (show k = 0 ∨ k = 1 ∨ k = 2 ∨ k = 3 ∨ k = 4 ∨ k = 5 ∨ k = 6 ∨ k = 7 ∨ k = 8 ∨ k = 9 ∨ k = 10 ∨ k = 11 ∨ k = 12 ∨ k = 13 ∨ k = 14 ∨ k = 15 by omega) with
    rfl | rfl | rfl | rfl | rfl | rfl | rfl | rfl | rfl | rfl | rfl | rfl | rfl | rfl | rfl | rfl <;> rfl

/-- A number's digits, k of them, the greatest first. -/
def pr (b n : Nat) : Nat → List Int
  | 0 => []
  | k + 1 => ch (n / b ^ k % b) :: pr b n k
theorem pr_len (b n k : Nat) : (pr b n k).length = k := by
  induction k with
  | zero => rfl
  | succ k ih => simp [pr, ih]
theorem pr_bd (b n k : Nat) (hb : 2 ≤ b) (hb' : b ≤ 16) : ∀ z ∈ pr b n k, 48 ≤ z ∧ z ≤ 102 := by
  induction k with
  | zero => intro z hz; cases hz
  | succ k ih =>
    intro z hz
    rcases List.mem_cons.1 hz with rfl | hz
    · exact ch_bd _ (Nat.lt_of_lt_of_le (Nat.mod_lt _ (by omega)) hb')
    · exact ih z hz
theorem pr_get (b n k j : Nat) (hj : j < k) : (pr b n k).getD j 0 = ch (n / b ^ (k - 1 - j) % b) := by
  induction k generalizing j with
  | zero => omega
  | succ k ih =>
    cases j with
    | zero => simp [pr]
    | succ j =>
      rw [pr, List.getD_cons_succ, ih j (by omega), show k - 1 - j = k + 1 - 1 - (j + 1) from by omega]
/-- How many digits are printed. -/
def isK (b n W K : Nat) : Prop := 1 ≤ K ∧ W ≤ K ∧ n < b ^ K ∧ (K = 1 ∨ K = W ∨ b ^ (K - 1) ≤ n)
theorem isK_from (b n W j : Nat) (h : n < b ^ (max 1 W + j)) : ∃ K, isK b n W K := by
  induction j with
  | zero => exact ⟨max 1 W, by omega, by omega, h, by omega⟩
  | succ j ih =>
    by_cases h' : n < b ^ (max 1 W + j)
    · exact ih h'
    · exact ⟨max 1 W + j + 1, by omega, by omega, h, Or.inr (Or.inr (by rw [Nat.add_sub_cancel]; omega))⟩
theorem isK_some (b n W : Nat) (hb : 2 ≤ b) (hn : n < 2 ^ 64) : ∃ K, isK b n W K := by
  refine isK_from b n W 64 (Nat.lt_of_lt_of_le hn ?_)
  exact Nat.le_trans (Nat.pow_le_pow_left hb 64) (Nat.pow_le_pow_right (by omega) (by omega))
theorem isK_le (b n W K : Nat) (hb : 2 ≤ b) (hn : n < 2 ^ 64) (hW : W ≤ 64) (h : isK b n W K) : K ≤ 64 := by
  obtain ⟨h1, h2, h3, h4⟩ := h
  rcases h4 with h4 | h4 | h4
  · omega
  · omega
  · have h5 : 2 ^ (K - 1) < 2 ^ 64 := Nat.lt_of_le_of_lt (Nat.le_trans (Nat.pow_le_pow_left hb _) h4) hn
    have := (Nat.pow_lt_pow_iff_right (by omega : 1 < 2)).1 h5
    omega
theorem isK_stop (b n W K k : Nat) (hb : 2 ≤ b) (h : isK b n W K) (hk : k < K) (hL : max 1 W ≤ k) : 0 < n / b ^ k := by
  obtain ⟨h1, h2, h3, h4⟩ := h
  have h5 : b ^ (K - 1) ≤ n := by omega
  have h6 : b ^ k ≤ n := Nat.le_trans (Nat.pow_le_pow_right (by omega) (by omega)) h5
  exact Nat.div_pos h6 (Nat.pow_pos (by omega))
theorem div_next (b n k : Nat) : n / b ^ k / b = n / b ^ (k + 1) := by
  rw [Nat.div_div_eq_div_mul, Nat.pow_succ]
theorem nums_append (a b : List Int) : strOfNums a ++ strOfNums b = strOfNums (a ++ b) := by
  apply ByteArray.ext
  apply Array.ext'
  simp [strOfNums]
theorem pr_push (b n k : Nat) : strOfNums [ch (n / b ^ k % b)] ++ strOfNums (pr b n k) = strOfNums (pr b n (k + 1)) := by
  rw [nums_append]; rfl
theorem pr_nought (b n k : Nat) (h : n < b ^ k) : strOfNums [48] ++ strOfNums (pr b n k) = strOfNums (pr b n (k + 1)) := by
  rw [← pr_push, Nat.div_eq_of_lt h, Nat.zero_mod]; rfl

/-- The number that a text's first k bytes are, as digits. -/
def pv (b : Nat) (s : ByteArray) : Nat → Nat
  | 0 => 0
  | k + 1 => pv b s k * b + (dv (sb s k)).toNat
theorem pv_mono (b : Nat) (s : ByteArray) (hb : 2 ≤ b) (k j : Nat) (h : k ≤ j) : pv b s k ≤ pv b s j := by
  induction j with
  | zero => obtain rfl : k = 0 := by omega
            exact Nat.le_refl _
  | succ j ih =>
    rcases Nat.lt_or_ge j k with h' | h'
    · obtain rfl : k = j + 1 := by omega
      exact Nat.le_refl _
    · refine Nat.le_trans (ih h') ?_
      show pv b s j ≤ pv b s j * b + _
      exact Nat.le_trans (Nat.le_mul_of_pos_right _ (by omega)) (Nat.le_add_right _ _)
/-- Are all bytes digits below b, and is there one? -/
def okD (b : Nat) (s : ByteArray) : Prop := 0 < s.size ∧ ∀ i, i < s.size → 0 ≤ dv (sb s i) ∧ dv (sb s i) < b
/-- What a number's digits are read as. -/
theorem pv_pr (b n K k : Nat) (hb : 2 ≤ b) (hb' : b ≤ 16) (hK : n < b ^ K) (hk : k ≤ K) : pv b (strOfNums (pr b n K)) k = n / b ^ (K - k) := by
  induction k with
  | zero => rw [Nat.sub_zero, Nat.div_eq_of_lt hK]; rfl
  | succ k ih =>
    have hm : n / b ^ (K - 1 - k) % b < 16 := Nat.lt_of_lt_of_le (Nat.mod_lt _ (by omega)) hb'
    rw [pv, ih (by omega), sb_nums _ (fun z hz => by have := pr_bd b n K hb hb' z hz; omega), pr_get b n K k (by omega), dv_ch _ hm, Int.toNat_natCast]
    have e : n / b ^ (K - k) = n / b ^ (K - 1 - k) / b := by rw [div_next]; congr 2; omega
    rw [e, show K - (k + 1) = K - 1 - k from by omega, Nat.mul_comm]
    exact Nat.div_add_mod _ _
theorem ok_pr (b n K : Nat) (hb : 2 ≤ b) (hb' : b ≤ 16) (hK : 1 ≤ K) : okD b (strOfNums (pr b n K)) := by
  have hz : (strOfNums (pr b n K)).size = K := by rw [strOfNums_size, pr_len]
  refine ⟨by omega, fun i hi => ?_⟩
  have hm : n / b ^ (K - 1 - i) % b < b := Nat.mod_lt _ (by omega)
  rw [sb_nums _ (fun z hz => by have := pr_bd b n K hb hb' z hz; omega), pr_get b n K i (by omega), dv_ch _ (by omega)]
  omega
end Go.Proofs.Ytpanodaecjlgaaa.dig
/- What Digit and Print of package digits answer. -/
namespace Go.Proofs.Ytpanodaecjlgaaa.digs
open Go.ChangeShapes Go.WideShapes Go.ChangeAt Go.RowKit
open mem dig

theorem ret_int {k : IntKind} {a b : Int} (h : a = b) : Ending.returned (.int k a) = .returned (.int k b) := by rw [h]
/-- Is it a base of digits? -/
def okB (b : Int) : Prop := 2 ≤ b ∧ b ≤ 16
end Go.Proofs.Ytpanodaecjlgaaa.digs
