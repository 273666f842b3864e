/- Texts laid together: Hi1, Bit. -/
import Derived.Test.YtkldnapbeebdkaaDoorZ3
import Derived.Maps.OwnSet
import Derived.DeepKeys4
import Derived.WideKeyPair
import Derived.WalkKit
import Derived.ProofKit
import Derived.OpenShut
import Derived.Laws.BytesArg
import Derived.Laws.BitsAllLaws
/- A map of the call's own that tells which byte a sign stands for: its keys are arrays. -/
namespace Go.Proofs.YtkldnapbeebdkaaDoor.hi
set_option linter.unusedVariables false
open Go.ChangeShapes Go.WideShapes Go.ChangeAt Go.RowKit Go.Maps Go.WideMaps
open mem rows
theorem laidOut : laidOutB Tryd.prog = true := by kernel_rfl
set_option maxRecDepth 100000 in
theorem lawK : Keyed Tryd.prog 103 := Keyed.of_law (deep_law_laid laidOut (m := 5) (by omega) (by decide) (by kernel_rfl) (by kernel_rfl))
theorem arrK : ArrKey Tryd.prog 103 3 2 := ⟨by kernel_rfl, by kernel_rfl, by kernel_rfl, by kernel_rfl⟩
/-- A sign as a key: how many bits, and their number. -/
def kl (n v : Int) : Lit := .string (keyBytes [.int .i64 n, .int .i64 v])
def Fit (x : Int) : Prop := 0 ≤ x ∧ x ≤ 9223372036854775807
theorem wf_of {x : Int} (h : Fit x) : (Lit.int .i64 x).wf = true := WalkArith.wf_i64 (by unfold Fit at h; omega)
theorem key_of {n v : Int} (hn : Fit n) (hv : Fit v) : keyOf Tryd.prog 103 (.agg #[.int .i64 n, .int .i64 v]) = some (kl n v) := keyOf_pair arrK Tryd.underlying3 ⟨Tryd.prog.types.size - 1, by decide +kernel⟩ (wf_of hn) (wf_of hv)
theorem kl_inj {n v n' v' : Int} (hn : Fit n) (hv : Fit v) (hn' : Fit n') (hv' : Fit v') (h : kl n v = kl n' v') : n = n' ∧ v = v' := by
  have h1 := key_of hn hv
  rw [h] at h1
  have := lawK.inj h1 (key_of hn' hv')
  simp at this
  exact this
theorem isKl (n v : Int) : WideAt.IsKeyLit (kl n v) := trivial
/-- Which byte each sign stands for, if any. -/
def Mp (w : World) (b : Nat) (f : Int → Int → Option Int) (c : Nat) : Prop :=
  ∃ D : DataW Unit, w.ownsMap Tryd.prog 103 (plainElem Tryd.prog 5) b c D ∧ ∀ n v, Fit n → Fit v → Maps.has D (kl n v) = (f n v).isSome ∧ D.atKey (kl n v) (.lit (.int .u8 0)) = .lit (.int .u8 ((f n v).getD 0))
theorem Mp.step {w w' : World} {b c : Nat} {f : Int → Int → Option Int} {row : Option Nat} (h : Mp w b f c) (hg : w.grownBy w' row) (hne : some b ≠ row) : Mp w' b f c := by
  obtain ⟨D, h1, h2⟩ := h
  exact ⟨D, h1.kept hg hne, h2⟩
theorem Mp.made (w : World) : Mp (w.alloc (.map #[] 0)) w.heap.size (fun _ _ => none) 0 :=
  ⟨_, World.ownsMap_made w Tryd.prog 103 _, fun n v _ _ => ⟨rfl, rfl⟩⟩
theorem zero_u8 (w : World) : (zeroValue 5).run Tryd.prog w = .ok (.int .u8 0) w := by kernel_rfl
theorem Mp.look {w : World} {b c : Nat} {f : Int → Int → Option Int} (h : Mp w b f c) (n v : Int) (hn : Fit n) (hv : Fit v) :
    (Instr.lookup 69 (.map (some b)) (.agg #[.int .i64 n, .int .i64 v]) true).run Tryd.prog w = .ok (.tuple #[.int .u8 ((f n v).getD 0), .bool (f n v).isSome]) w := by
  obtain ⟨D, h1, h2⟩ := h
  obtain ⟨x, ps, hrun, hx⟩ := h1.look_ok lawK Tryd.underlying69 (zero_u8 w) (plainElem_int Tryd.underlying5 (a := 0) (by decide)) (key_of hn hv)
  obtain ⟨h3, h4⟩ := h2 n v hn hv
  rw [h4] at hx
  obtain ⟨a, rfl, ha, _⟩ := plainElem_int_inv Tryd.underlying5 hx
  simp only [Prod.mk.injEq, DataW.lit.injEq, Lit.int.injEq, true_and] at ha
  rw [hrun, h3, ha.1]
theorem Mp.put {w : World} {b c : Nat} {f : Int → Int → Option Int} (h : Mp w b f c) (n v x : Int) (hn : Fit n) (hv : Fit v) (hx : 0 ≤ x ∧ x < 256) (hc : c ≤ 5000) :
    ∃ w', (Instr.mapUpdate 69 (.map (some b)) (.agg #[.int .i64 n, .int .i64 v]) (.int .u8 x)).run Tryd.prog w = .ok () w' ∧ Mp w' b (fun n' v' => if n' = n ∧ v' = v then some x else f n' v') (c + 1) ∧ w.grownBy w' (some b) := by
  obtain ⟨D, h1, h2⟩ := h
  obtain ⟨w', hr, ho, hg⟩ := h1.update lawK Tryd.underlying69 (by unfold maxLen; omega) (key_of hn hv) (plainElem_int Tryd.underlying5 (a := x) (WalkArith.wf_u8 (by omega)))
  refine ⟨w', hr, ⟨_, ho, fun n' v' hn' hv' => ?_⟩, hg⟩
  by_cases e : n' = n ∧ v' = v
  · obtain ⟨rfl, rfl⟩ := e
    rw [has_put_same h1.isMap (isKl n' v'), atKey_put_same h1.isMap (isKl n' v')]
    simp
  · have hne : kl n' v' ≠ kl n v := fun h => e (kl_inj hn' hv' hn hv h)
    rw [has_put_other hne, atKey_put_other hne]
    simp only [if_neg e]
    exact h2 n' v' hn' hv'
end Go.Proofs.YtkldnapbeebdkaaDoor.hi
/- Plain facts on a text's bits: nb makes a number of its bits, bytesOf a text's bytes of its bits. No program. -/
namespace Go.Proofs.YtkldnapbeebdkaaDoor.bit
open Go.RowKit

theorem ret_int {k : IntKind} {a b : Int} (h : a = b) : Ending.returned (.int k a) = .returned (.int k b) := by rw [h]
theorem ret_bool {a b : Bool} (h : a = b) : Ending.returned (.bool a) = .returned (.bool b) := by rw [h]

/-- The number of so many bits, the least first. -/
def nb (f : Nat → Bool) : Nat → Nat
  | 0 => 0
  | k + 1 => nb f k + (f k).toNat * 2 ^ k
theorem nb_lt (f : Nat → Bool) (k : Nat) : nb f k < 2 ^ k := by
  induction k with
  | zero => simp [nb]
  | succ k ih =>
    have h : (f k).toNat ≤ 1 := Bool.toNat_le _
    have h2 : (f k).toNat * 2 ^ k ≤ 1 * 2 ^ k := Nat.mul_le_mul_right _ h
    rw [nb, Nat.pow_succ]
    omega
theorem nb_test (f : Nat → Bool) (k i : Nat) : (nb f k).testBit i = (decide (i < k) && f i) := by
  induction k with
  | zero => simp [nb]
  | succ k ih =>
    have hl := nb_lt f k
    rw [nb, Nat.add_comm, Nat.mul_comm, Nat.testBit_two_pow_mul_add _ hl]
    by_cases h : i < k
    · rw [if_pos h, ih]
      simp [h, Nat.lt_succ_of_lt h]
    · rw [if_neg h]
      by_cases e : i = k
      · subst e
        cases f i <;> simp
      · have h2 : ¬ i < k + 1 := by omega
        have h3 : ∃ d, i - k = d + 1 := ⟨i - k - 1, by omega⟩
        obtain ⟨d, hd⟩ := h3
        rw [hd]
        cases f k <;> simp [h2, Nat.testBit_succ]
theorem nb_congr (f g : Nat → Bool) (k : Nat) (h : ∀ i, i < k → f i = g i) : nb f k = nb g k := by
  induction k with
  | zero => rfl
  | succ k ih => rw [nb, nb, ih (fun i hi => h i (by omega)), h k (by omega)]
theorem nb_self (x k : Nat) : nb (fun i => x.testBit i) k = x % 2 ^ k := by
  apply Nat.eq_of_testBit_eq
  intro i
  rw [nb_test, Nat.testBit_mod_two_pow]
theorem nb_front (g : Nat → Bool) (k : Nat) : nb g (k + 1) = (g 0).toNat + nb (fun i => g (i + 1)) k * 2 := by
  induction k with
  | zero => simp [nb]
  | succ k ih =>
    rw [nb, ih, nb, Nat.add_mul, Nat.pow_succ]
    have : (g (k + 1)).toNat * (2 ^ k * 2) = (g (k + 1)).toNat * 2 ^ k * 2 := (Nat.mul_assoc ..).symm
    omega
/-- The number of so many bits, the greatest first. -/
def hb (f : Nat → Bool) : Nat → Nat
  | 0 => 0
  | k + 1 => hb f k * 2 + (f k).toNat
theorem hb_nb (f : Nat → Bool) (k : Nat) : hb f k = nb (fun i => f (k - 1 - i)) k := by
  induction k with
  | zero => rfl
  | succ k ih =>
    rw [nb_front, hb, ih]
    have e : nb (fun i => f (k + 1 - 1 - (i + 1))) k = nb (fun i => f (k - 1 - i)) k := nb_congr _ _ _ (fun i _ => by congr 1; omega)
    rw [e]
    show _ = (f (k + 1 - 1 - 0)).toNat + _
    rw [show k + 1 - 1 - 0 = k from by omega]
    omega
theorem hb_lt (f : Nat → Bool) (k : Nat) : hb f k < 2 ^ k := by rw [hb_nb]; exact nb_lt _ _
theorem hb_congr (f g : Nat → Bool) (k : Nat) (h : ∀ i, i < k → f i = g i) : hb f k = hb g k := by
  rw [hb_nb, hb_nb]; exact nb_congr _ _ _ (fun i hi => h _ (by omega))

/-- Byte j of a text. -/
def byteN (s : ByteArray) (j : Nat) : Nat := (s.data.toList.getD j 0).toNat
theorem byteN_lt (s : ByteArray) (j : Nat) : byteN s j < 256 := UInt8.toNat_lt _
theorem byteN_get (s : ByteArray) (j : Nat) (h : j < s.size) : byteN s j = (s[j]'h).toNat := by
  unfold byteN
  have h' : j < s.data.toList.length := by simpa using h
  rw [List.getD_eq_getElem?_getD, List.getElem?_eq_getElem h']
  rfl
/-- How far to the left bit k stands in its byte. -/
def ib (o : Bool) (k : Nat) : Nat := if o then 7 - k % 8 else k % 8
theorem ib_lt (o : Bool) (k : Nat) : ib o k < 8 := by unfold ib; split <;> omega
/-- Bit k of a text. -/
def tbit (s : ByteArray) (o : Bool) (k : Nat) : Bool := (byteN s (k / 8)).testBit (ib o k)
/-- Which bit of a text is bit j of byte i. -/
def at8 (o : Bool) (i j : Nat) : Nat := 8 * i + (if o then 7 - j else j)
theorem at8_div (o : Bool) (i j : Nat) (hj : j < 8) : at8 o i j / 8 = i := by unfold at8; split <;> omega
theorem at8_ib (o : Bool) (i j : Nat) (hj : j < 8) : ib o (at8 o i j) = j := by unfold at8 ib; cases o <;> simp <;> omega
theorem at8_of (o : Bool) (k : Nat) : at8 o (k / 8) (ib o k) = k := by unfold at8 ib; cases o <;> simp <;> omega
/-- The bytes that bits are. -/
def bytesOf (g : Nat → Bool) (o : Bool) (m : Nat) : List Int := (List.range m).map fun i => ((nb (fun j => g (at8 o i j)) 8 : Nat) : Int)
theorem bytesOf_len (g : Nat → Bool) (o : Bool) (m : Nat) : (bytesOf g o m).length = m := by simp [bytesOf]
theorem bytesOf_get (g : Nat → Bool) (o : Bool) (m i : Nat) (hi : i < m) : (bytesOf g o m).getD i 0 = ((nb (fun j => g (at8 o i j)) 8 : Nat) : Int) := by
  simp [bytesOf, List.getD_eq_getElem?_getD, hi]
theorem bytesOf_congr (g h : Nat → Bool) (o : Bool) (m : Nat) (e : ∀ k, k < 8 * m → g k = h k) : bytesOf g o m = bytesOf h o m := by
  unfold bytesOf
  apply List.map_congr_left
  intro i hi
  have hi' : i < m := by simpa using hi
  rw [nb_congr _ (fun j => h (at8 o i j)) 8 (fun j hj => e _ (by unfold at8; split <;> omega))]
theorem bytesOf_bd (g : Nat → Bool) (o : Bool) (m : Nat) : ∀ z ∈ bytesOf g o m, 0 ≤ z ∧ z < 256 := by
  intro z hz
  simp only [bytesOf, List.mem_map] at hz
  obtain ⟨i, _, rfl⟩ := hz
  have := nb_lt (fun j => g (at8 o i j)) 8
  omega
theorem byteN_nums (zs : List Int) (h : ∀ z ∈ zs, 0 ≤ z ∧ z < 256) (j : Nat) : (byteN (strOfNums zs) j : Int) = zs.getD j 0 := by
  unfold byteN
  rw [strOfNums_data]
  by_cases hj : j < zs.length
  · have hz := h _ (List.getElem_mem hj)
    simp only [List.getD_eq_getElem?_getD, List.getElem?_map, List.getElem?_eq_getElem hj, Option.map_some, Option.getD_some]
    rw [UInt8.toNat_ofNat']
    omega
  · simp [List.getD_eq_getElem?_getD, List.getElem?_eq_none (Nat.le_of_not_lt hj)]
theorem byteN_bytesOf (g : Nat → Bool) (o : Bool) (m i : Nat) (hi : i < m) : byteN (strOfNums (bytesOf g o m)) i = nb (fun j => g (at8 o i j)) 8 := by
  have h := byteN_nums _ (bytesOf_bd g o m) i
  rw [bytesOf_get g o m i hi] at h
  omega
theorem tbit_bytesOf (g : Nat → Bool) (o : Bool) (m k : Nat) (hk : k < 8 * m) : tbit (strOfNums (bytesOf g o m)) o k = g k := by
  unfold tbit
  rw [byteN_bytesOf g o m _ (by omega), nb_test, at8_of]
  simp [ib_lt o k]
theorem bytesOf_size (g : Nat → Bool) (o : Bool) (m : Nat) : (strOfNums (bytesOf g o m)).size = m := by rw [strOfNums_size, bytesOf_len]
theorem text_ext (s t : ByteArray) (h : s.size = t.size) (hb : ∀ j, j < s.size → byteN s j = byteN t j) : s = t := by
  apply ByteArray.ext
  apply Array.ext'
  have hs : s.data.toList.length = s.size := rfl
  have ht : t.data.toList.length = t.size := rfl
  apply List.ext_getElem (by omega)
  intro i h1 h2
  have hi := hb i (by omega)
  unfold byteN at hi
  rw [List.getD_eq_getElem?_getD, List.getElem?_eq_getElem h1, List.getD_eq_getElem?_getD, List.getElem?_eq_getElem h2] at hi
  exact UInt8.toNat_inj.1 hi
theorem byte_ext (x y : Nat) (hx : x < 256) (hy : y < 256) (h : ∀ j, j < 8 → x.testBit j = y.testBit j) : x = y := by
  apply Nat.eq_of_testBit_eq
  intro i
  by_cases hi : i < 8
  · exact h i hi
  · have p : 2 ^ 8 ≤ 2 ^ i := Nat.pow_le_pow_right (by decide) (by omega)
    have p8 : 2 ^ 8 = 256 := by decide
    rw [Nat.testBit_lt_two_pow (by omega), Nat.testBit_lt_two_pow (by omega)]
theorem bits_ext (s t : ByteArray) (o : Bool) (h : s.size = t.size) (hb : ∀ k, k < 8 * s.size → tbit s o k = tbit t o k) : s = t := by
  apply text_ext s t h
  intro i hi
  apply byte_ext _ _ (byteN_lt _ _) (byteN_lt _ _)
  intro j hj
  have hk := hb (at8 o i j) (by unfold at8; split <;> omega)
  unfold tbit at hk
  rw [at8_div o i j hj, at8_ib o i j hj] at hk
  exact hk
theorem bytesOf_self (s : ByteArray) (o : Bool) : strOfNums (bytesOf (fun k => tbit s o k) o s.size) = s := by
  apply bits_ext _ _ o (bytesOf_size _ _ _)
  intro k hk
  rw [bytesOf_size] at hk
  exact tbit_bytesOf _ o s.size k hk
/-- The one order's bits are the other one's, byte by byte the other way round. -/
theorem tbit_other (s : ByteArray) (o : Bool) (k : Nat) : tbit s o k = tbit s (!o) (at8 true (k / 8) (k % 8)) := by
  unfold tbit at8 ib
  have e : (8 * (k / 8) + (if true then 7 - k % 8 else k % 8)) / 8 = k / 8 := by simp; omega
  rw [e]
  congr 1
  cases o <;> simp <;> omega
theorem bit_nat (x p : Nat) : x / 2 ^ p % 2 = (x.testBit p).toNat := by
  rw [Nat.testBit_eq_decide_div_mod_eq]
  rcases Nat.mod_two_eq_zero_or_one (x / 2 ^ p) with h | h <;> simp [h]
/-- A byte's bit, as the program takes it. -/
theorem u8_bit (x p : Nat) (hx : x < 256) : Go.bits .and .u8 ((x : Int) / 2 ^ p) 1 = (((x.testBit p).toNat : Nat) : Int) := by
  have e : ((x : Int) / 2 ^ p) = ((x / 2 ^ p : Nat) : Int) := by
    rw [Int.natCast_ediv, Int.natCast_pow]; rfl
  have hlt : x / 2 ^ p < 256 := Nat.lt_of_le_of_lt (Nat.div_le_self _ _) hx
  rw [e]
  have := u8_and_nat (x / 2 ^ p) 1 hlt (by decide)
  rw [show ((1 : Nat) : Int) = 1 from rfl] at this
  rw [this, nat_mask1, bit_nat]
/-- Where, of n, the one of weight k stands. -/
def pl (n : Nat) (o : Bool) (k : Nat) : Nat := if o then n - 1 - k else k
theorem pl_lt (n : Nat) (o : Bool) (k : Nat) (h : k < n) : pl n o k < n := by unfold pl; split <;> omega
theorem pl_pl (n : Nat) (o : Bool) (k : Nat) (h : k < n) : pl n o (pl n o k) = k := by unfold pl; split <;> omega
theorem nb_false (k : Nat) : nb (fun _ => false) k = 0 := by
  induction k with
  | zero => rfl
  | succ k ih => rw [nb, ih]; simp
/-- The number that n bits are, as far as k of them are read. -/
def gk (t : Nat → Bool) (n : Nat) (o : Bool) (k : Nat) : Nat := nb (fun j => decide (pl n o j < k) && t (pl n o j)) n
/-- The number that n bits are. -/
def gN (t : Nat → Bool) (n : Nat) (o : Bool) : Nat := nb (fun j => t (pl n o j)) n
theorem gk_zero (t : Nat → Bool) (n : Nat) (o : Bool) : gk t n o 0 = 0 := by
  unfold gk
  rw [nb_congr _ (fun _ => false) n (fun i _ => by simp)]
  exact nb_false n
theorem gk_all (t : Nat → Bool) (n : Nat) (o : Bool) : gk t n o n = gN t n o := by
  unfold gk gN
  apply nb_congr
  intro i hi
  simp [pl_lt n o i hi]
theorem pow64 (n : Nat) (h : n ≤ 64) : 2 ^ n ≤ 18446744073709551616 := by
  have : 2 ^ n ≤ 2 ^ 64 := Nat.pow_le_pow_right (by decide) h
  have e : (2 : Nat) ^ 64 = 18446744073709551616 := by decide
  omega
theorem gk_or (t : Nat → Bool) (n : Nat) (o : Bool) (k : Nat) (hk : k < n) : gk t n o k ||| (t k).toNat * 2 ^ (pl n o k) = gk t n o (k + 1) := by
  have hp := pl_lt n o k hk
  have hpp := pl_pl n o k hk
  apply Nat.eq_of_testBit_eq
  intro i
  rw [Nat.testBit_or]
  unfold gk
  rw [nb_test, nb_test]
  have hz : ((t k).toNat * 2 ^ (pl n o k)).testBit i = (t k && decide (pl n o k = i)) := by
    cases t k
    · simp
    · rw [Bool.toNat_true, Nat.one_mul, Nat.testBit_two_pow]; simp
  rw [hz]
  by_cases hi : i < n
  · by_cases e : pl n o k = i
    · subst e
      rw [hpp]
      simp [hp]
    · have hne : pl n o i ≠ k := by
        intro h
        apply e
        rw [← h]
        exact pl_pl n o i hi
      by_cases hlt : pl n o i < k
      · simp [hi, e, hlt, Nat.lt_succ_of_lt hlt]
      · have : ¬ pl n o i < k + 1 := by omega
        simp [e, hlt, this]
  · have : ¬ pl n o k = i := by omega
    simp [hi, this]
theorem p2 (a : Nat) : ((2 ^ a : Nat) : Int) = (2 : Int) ^ a := by rw [Int.natCast_pow]; rfl
theorem u64_step (t : Nat → Bool) (n : Nat) (o : Bool) (k : Nat) (hk : k < n) (hn : n ≤ 64) :
    Go.bits .or .u64 (gk t n o k : Int) (IntKind.u64.wrap (IntKind.u64.wrap (((t k).toNat : Nat) : Int) * 2 ^ (pl n o k))) = ((gk t n o (k + 1) : Nat) : Int) := by
  have h1 := nb_lt (fun j => decide (pl n o j < k) && t (pl n o j)) n
  have h2 := pow64 n hn
  have h3 := pl_lt n o k hk
  have hb : (t k).toNat ≤ 1 := Bool.toNat_le _
  have h4 : 2 ^ (pl n o k) < 2 ^ n := Nat.pow_lt_pow_right (by decide) h3
  have h5 : (t k).toNat * 2 ^ (pl n o k) ≤ 1 * 2 ^ (pl n o k) := Nat.mul_le_mul_right _ hb
  have e1 : IntKind.u64.wrap (((t k).toNat : Nat) : Int) = (((t k).toNat : Nat) : Int) := by rw [IntKind.wrap_u64]; omega
  have e2 : ((((t k).toNat : Nat) : Int) * 2 ^ (pl n o k)) = (((t k).toNat * 2 ^ (pl n o k) : Nat) : Int) := by rw [Int.natCast_mul, p2]
  rw [e1, e2]
  have e3 : IntKind.u64.wrap (((t k).toNat * 2 ^ (pl n o k) : Nat) : Int) = (((t k).toNat * 2 ^ (pl n o k) : Nat) : Int) := by rw [IntKind.wrap_u64]; omega
  rw [e3, u64_or_nat _ _ (by unfold gk; omega) (by omega), gk_or t n o k hk]
theorem nb_byte (s : ByteArray) (o : Bool) (i : Nat) : nb (fun j => tbit s o (at8 o i j)) 8 = byteN s i := by
  rw [nb_congr _ (fun j => (byteN s i).testBit j) 8 (fun j hj => by unfold tbit; rw [at8_div o i j hj, at8_ib o i j hj]), nb_self]
  exact Nat.mod_eq_of_lt (byteN_lt s i)
theorem bytes_self (s : ByteArray) (o : Bool) : (s.data.toList.map fun b => (b.toNat : Int)) = bytesOf (fun k => tbit s o k) o s.size := by
  have hl : s.data.toList.length = s.size := rfl
  apply List.ext_getElem
  · rw [bytesOf_len, List.length_map, hl]
  · intro i h1 h2
    have hi : i < s.size := by rw [bytesOf_len] at h2; exact h2
    simp only [bytesOf, List.getElem_map, List.getElem_range]
    rw [nb_byte s o i, byteN_get s i hi]
    rfl
/-- A text's bits, those from A on, k of n, being a number's. -/
def putG (t : Nat → Bool) (A n : Nat) (o : Bool) (v k : Nat) (K : Nat) : Bool := if A ≤ K ∧ K < A + k then v.testBit (pl n o (K - A)) else t K
theorem putG_zero (t : Nat → Bool) (A n : Nat) (o : Bool) (v : Nat) : putG t A n o v 0 = t := by
  funext K
  unfold putG
  rw [if_neg (by omega)]
theorem not_bit : ∀ p, p < 8 → ∀ j, j < 8 → (255 - 2 ^ p).testBit j = !decide (j = p) := by decide
/-- One bit of a byte anew. -/
theorem upd_test (x p j : Nat) (b : Bool) (hp : p < 8) (hj : j < 8) : ((x &&& (255 - 2 ^ p)) ||| b.toNat * 2 ^ p).testBit j = if j = p then b else x.testBit j := by
  rw [Nat.testBit_or, Nat.testBit_and, not_bit p hp j hj]
  have hz : (b.toNat * 2 ^ p).testBit j = (b && decide (p = j)) := by
    cases b
    · simp
    · rw [Bool.toNat_true, Nat.one_mul, Nat.testBit_two_pow]; simp
  rw [hz]
  by_cases e : j = p
  · subst e; simp
  · have e' : ¬ p = j := fun h => e h.symm
    simp [e, e']
theorem upd_lt (x p : Nat) (b : Bool) (hp : p < 8) : ((x &&& (255 - 2 ^ p)) ||| b.toNat * 2 ^ p) < 256 := by
  have h1 : x &&& (255 - 2 ^ p) < 2 ^ 8 := Nat.lt_of_le_of_lt Nat.and_le_right (Nat.lt_of_le_of_lt (Nat.sub_le 255 _) (by decide))
  have hb : b.toNat ≤ 1 := Bool.toNat_le _
  have h3 : 2 ^ p ≤ 2 ^ 7 := Nat.pow_le_pow_right (by decide) (by omega)
  have h4 : b.toNat * 2 ^ p ≤ 1 * 2 ^ p := Nat.mul_le_mul_right _ hb
  have h2 : b.toNat * 2 ^ p < 2 ^ 8 := by
    have : (2 : Nat) ^ 7 = 128 := by decide
    have : (2 : Nat) ^ 8 = 256 := by decide
    omega
  exact Nat.or_lt_two_pow h1 h2
theorem put_byte (t : Nat → Bool) (A n : Nat) (o : Bool) (v k : Nat) :
    (nb (fun j => putG t A n o v k (at8 o ((A + k) / 8) j)) 8 &&& (255 - 2 ^ (ib o (A + k)))) ||| (v.testBit (pl n o k)).toNat * 2 ^ (ib o (A + k)) = nb (fun j => putG t A n o v (k + 1) (at8 o ((A + k) / 8) j)) 8 := by
  have hp := ib_lt o (A + k)
  have h8 : (2 : Nat) ^ 8 = 256 := by decide
  apply byte_ext
  · exact upd_lt _ _ _ hp
  · exact nb_lt _ 8
  · intro j hj
    rw [upd_test _ _ _ _ hp hj, nb_test, nb_test]
    simp only [hj, decide_true, Bool.true_and]
    by_cases e : j = ib o (A + k)
    · subst e
      rw [if_pos rfl, at8_of]
      unfold putG
      rw [if_pos (by omega), show A + k - A = k from by omega]
    · rw [if_neg e]
      have hne : at8 o ((A + k) / 8) j ≠ A + k := by
        intro h
        apply e
        rw [← h, at8_ib o _ j hj] 
      unfold putG
      by_cases hc : A ≤ at8 o ((A + k) / 8) j ∧ at8 o ((A + k) / 8) j < A + k
      · rw [if_pos hc, if_pos (by omega)]
      · rw [if_neg hc, if_neg (by omega)]
theorem put_set (t : Nat → Bool) (A n : Nat) (o : Bool) (v k m : Nat) (z : Int)
    (hz : z = ((nb (fun j => putG t A n o v (k + 1) (at8 o ((A + k) / 8) j)) 8 : Nat) : Int)) :
    (bytesOf (putG t A n o v k) o m).set ((A + k) / 8) z = bytesOf (putG t A n o v (k + 1)) o m := by
  subst hz
  apply List.ext_getElem
  · simp [bytesOf]
  · intro i h1 h2
    rw [List.getElem_set]
    by_cases e : (A + k) / 8 = i
    · subst e
      rw [if_pos rfl]
      simp [bytesOf]
    · rw [if_neg e]
      simp only [bytesOf, List.getElem_map, List.getElem_range]
      congr 1
      apply nb_congr
      intro j hj
      have hne : at8 o i j ≠ A + k := by
        intro h
        apply e
        rw [← h, at8_div o i j hj]
      unfold putG
      by_cases hc : A ≤ at8 o i j ∧ at8 o i j < A + k
      · rw [if_pos hc, if_pos (by omega)]
      · rw [if_neg hc, if_neg (by omega)]
theorem u64_bit (V p : Nat) (hV : V < 18446744073709551616) : Go.bits .and .u64 ((V : Int) / 2 ^ p) 1 = (((V.testBit p).toNat : Nat) : Int) := by
  have e : ((V : Int) / 2 ^ p) = ((V / 2 ^ p : Nat) : Int) := by
    rw [Int.natCast_ediv, Int.natCast_pow]; rfl
  have hlt : V / 2 ^ p < 18446744073709551616 := Nat.lt_of_le_of_lt (Nat.div_le_self _ _) hV
  rw [e]
  have := u64_and_nat (V / 2 ^ p) 1 hlt (by decide)
  rw [show ((1 : Nat) : Int) = 1 from rfl] at this
  rw [this, nat_mask1, bit_nat]
theorem put_val (x p V q : Nat) (hx : x < 256) (hp : p < 8) (hq : q ≤ 64) (hV : V < 18446744073709551616) :
    Go.bits .or .u8 (Go.bits .andNot .u8 (x : Int) (2 ^ min p 8 % 256)) (Go.bits .and .u64 ((V : Int) / 2 ^ min q 64) 1 % 256 * 2 ^ min p 8 % 256) = (((x &&& (255 - 2 ^ p)) ||| (V.testBit q).toNat * 2 ^ p : Nat) : Int) := by
  rw [Nat.min_eq_left (by omega : p ≤ 8), Nat.min_eq_left hq, u64_bit V q hV]
  have hb : (V.testBit q).toNat ≤ 1 := Bool.toNat_le _
  have h7 : 2 ^ p ≤ 2 ^ 7 := Nat.pow_le_pow_right (by decide) (by omega)
  have h7' : (2 : Nat) ^ 7 = 128 := by decide
  rw [h7'] at h7
  have e1 : ((2 : Int) ^ p % 256) = ((2 ^ p : Nat) : Int) := by
    rw [← p2]
    generalize (2 : Nat) ^ p = P at h7 ⊢
    omega
  have h4 : (V.testBit q).toNat * 2 ^ p ≤ 1 * 2 ^ p := Nat.mul_le_mul_right _ hb
  have e2 : ((((V.testBit q).toNat : Nat) : Int) % 256 * 2 ^ p % 256) = (((V.testBit q).toNat * 2 ^ p : Nat) : Int) := by
    rw [show (((V.testBit q).toNat : Nat) : Int) % 256 = (((V.testBit q).toNat : Nat) : Int) by omega, ← p2, ← Int.natCast_mul]
    generalize (V.testBit q).toNat * 2 ^ p = Z at h4 ⊢
    generalize (2 : Nat) ^ p = P at h7 h4
    omega
  have h1 : x &&& (255 - 2 ^ p) < 256 := Nat.lt_of_le_of_lt Nat.and_le_right (Nat.lt_of_le_of_lt (Nat.sub_le 255 _) (by decide))
  rw [e1, e2, u8_andNot_nat x (2 ^ p) hx (Nat.lt_of_le_of_lt h7 (by decide)), u8_or_nat _ _ h1 (Nat.lt_of_le_of_lt (Nat.le_trans h4 (by rw [Nat.one_mul]; exact h7)) (by decide))]
/-- The sum of so many. -/
def sm (f : Nat → Nat) : Nat → Nat
  | 0 => 0
  | k + 1 => sm f k + f k
theorem sm_congr (f g : Nat → Nat) (k : Nat) (h : ∀ i, i < k → f i = g i) : sm f k = sm g k := by
  induction k with
  | zero => rfl
  | succ k ih => rw [sm, sm, ih (fun i hi => h i (by omega)), h k (by omega)]
theorem sm_le (f : Nat → Nat) (c k : Nat) (h : ∀ i, f i ≤ c) : sm f k ≤ c * k := by
  induction k with
  | zero => simp [sm]
  | succ k ih => have := h k; rw [sm, Nat.mul_succ]; omega
theorem sm_add (f : Nat → Nat) (a b : Nat) : sm f (a + b) = sm f a + sm (fun i => f (a + i)) b := by
  induction b with
  | zero => rfl
  | succ b ih => rw [← Nat.add_assoc, sm, ih, sm, Nat.add_assoc]
theorem sm_rows (f : Nat → Nat) (m : Nat) : sm f (8 * m) = sm (fun i => sm (fun j => f (8 * i + j)) 8) m := by
  induction m with
  | zero => rfl
  | succ m ih => rw [Nat.mul_succ, sm_add, ih]; rfl
/-- How many of a byte's first k bits are 1. -/
def pck (x k : Nat) : Nat := sm (fun j => (x.testBit j).toNat) k
/-- How many bits of a text's first m bytes are 1. -/
def cnt (s : ByteArray) (m : Nat) : Nat := sm (fun i => pck (byteN s i) 8) m
theorem pck_le (x k : Nat) : pck x k ≤ k := by
  have := sm_le (fun j => (x.testBit j).toNat) 1 k (fun _ => Bool.toNat_le _)
  unfold pck; omega
theorem cnt_le (s : ByteArray) (m : Nat) : cnt s m ≤ 8 * m := sm_le _ 8 m (fun _ => pck_le _ 8)
theorem cnt_big (s : ByteArray) : sm (fun k => (tbit s true k).toNat) (8 * s.size) = cnt s s.size := by
  rw [sm_rows]
  unfold cnt
  apply sm_congr
  intro i _
  have e : ∀ j, j < 8 → tbit s true (8 * i + j) = (byteN s i).testBit (7 - j) := by
    intro j hj
    unfold tbit
    have h1 : (8 * i + j) / 8 = i := by omega
    have h2 : ib true (8 * i + j) = 7 - j := by unfold ib; simp; omega
    rw [h1, h2]
  rw [sm_congr _ (fun j => ((byteN s i).testBit (7 - j)).toNat) 8 (fun j hj => by rw [e j hj])]
  simp only [pck, sm, Nat.reduceSub]
  omega
/-- Of m numbers the first i are laid. -/
def fillL (f : Nat → Int) (m i : Nat) : List Int := (List.range m).map fun j => if j < i then f j else 0
theorem fillL_len (f : Nat → Int) (m i : Nat) : (fillL f m i).length = m := by simp [fillL]
theorem fillL_zero (f : Nat → Int) (m : Nat) : fillL f m 0 = List.replicate m 0 := by simp [fillL, List.map_const']
theorem fillL_set (f : Nat → Int) (m i : Nat) (z : Int) (hz : z = f i) : (fillL f m i).set i z = fillL f m (i + 1) := by
  subst hz
  apply List.ext_getElem
  · simp [fillL]
  · intro j h1 h2
    rw [List.getElem_set]
    by_cases e : i = j
    · subst e
      simp [fillL]
    · rw [if_neg e]
      simp only [fillL, List.getElem_map, List.getElem_range]
      by_cases h : j < i
      · rw [if_pos h, if_pos (by omega)]
      · rw [if_neg h, if_neg (by omega)]
theorem fillL_all (g : Nat → Bool) (o : Bool) (m : Nat) : fillL (fun i => ((nb (fun j => g (at8 o i j)) 8 : Nat) : Int)) m m = bytesOf g o m := by
  unfold fillL bytesOf
  apply List.map_congr_left
  intro i hi
  have hi' : i < m := by simpa using hi
  rw [if_pos hi']
theorem turn_byte (s : ByteArray) (i : Nat) : hb (fun j => (byteN s i).testBit j) 8 = nb (fun j => tbit s false (at8 true i j)) 8 := by
  rw [hb_nb]
  apply nb_congr
  intro j hj
  unfold tbit
  have h1 : at8 true i j / 8 = i := at8_div true i j hj
  have h2 : ib false (at8 true i j) = 8 - 1 - j := by unfold ib at8; simp; omega
  rw [h1, h2]
theorem u8_push (t : Nat) (b : Bool) (ht : t < 128) : Go.bits .or .u8 ((t : Int) * 2 % 256) ((b.toNat : Nat) : Int) = ((t * 2 + b.toNat : Nat) : Int) := by
  have hb : b.toNat ≤ 1 := Bool.toNat_le _
  have e : ((t : Int) * 2 % 256) = ((t * 2 : Nat) : Int) := by omega
  rw [e, u8_or_nat _ _ (by omega) (by omega), nat_join 1 (t * 2) b.toNat (by omega) (by omega)]
theorem tm_bd (n M : Int) (hM : 0 < M) : -M < n.tmod M ∧ n.tmod M < M := by
  have h1 := Int.emod_nonneg n (show M ≠ 0 by omega)
  have h2 := Int.emod_lt_of_pos n hM
  rw [Int.tmod_eq_emod]
  split
  · omega
  · rename_i h
    have : n % M ≠ 0 := fun h0 => h (Or.inr (Int.dvd_of_emod_eq_zero h0))
    omega
theorem tm_mod (n M : Int) (hM : 0 < M) : (n.tmod M + M) % M = n % M := by
  rw [Int.tmod_eq_emod, Int.add_emod_right]
  split
  · rw [show n % M - ((0 : Nat) : Int) = n % M by omega, Int.emod_emod]
  · have e : n % M - (M.natAbs : Int) = n % M - M := by omega
    rw [e, Int.sub_emod_right, Int.emod_emod]
theorem rot_val (x y p : Nat) (hy : y < 256) :
    Go.bits .or .u8 ((x : Int) * 2 ^ p % 256) ((y : Int) / 2 ^ (8 - p)) = ((x * 2 ^ p % 256 ||| y / 2 ^ (8 - p) : Nat) : Int) := by
  have e1 : ((x : Int) * 2 ^ p % 256) = ((x * 2 ^ p % 256 : Nat) : Int) := by
    rw [Int.natCast_emod, Int.natCast_mul, p2]; rfl
  have e2 : ((y : Int) / 2 ^ (8 - p)) = ((y / 2 ^ (8 - p) : Nat) : Int) := by
    rw [Int.natCast_ediv, p2]
  rw [e1, e2, u8_or_nat _ _ (Nat.mod_lt _ (by decide)) (Nat.lt_of_le_of_lt (Nat.div_le_self _ _) hy)]
theorem mod8 (A r m : Nat) (hr : r < 8) : (8 * A + r) % (8 * m) = 8 * (A % m) + r := by
  rw [Nat.mod_mul, show (8 * A + r) % 8 = r by omega, show (8 * A + r) / 8 = A by omega]
  omega
/-- The bits of a text, turned round by N. -/
def rotG (s : ByteArray) (N : Nat) (K : Nat) : Bool := tbit s true ((K + N) % (8 * s.size))
theorem rot_byte (s : ByteArray) (N k : Nat) :
    (byteN s ((k + N / 8) % s.size) * 2 ^ (N % 8) % 256 ||| byteN s ((k + N / 8 + 1) % s.size) / 2 ^ (8 - N % 8)) = nb (fun j => rotG s N (at8 true k j)) 8 := by
  have hp : N % 8 < 8 := Nat.mod_lt _ (by decide)
  have h8 : (2 : Nat) ^ 8 = 256 := by decide
  apply byte_ext
  · rw [← h8]
    refine Nat.or_lt_two_pow (Nat.mod_lt _ (by decide)) (Nat.lt_of_le_of_lt (Nat.div_le_self _ _) ?_)
    rw [h8]; exact byteN_lt _ _
  · exact nb_lt _ 8
  · intro j hj
    rw [nb_test, Nat.testBit_or, ← h8, Nat.testBit_mod_two_pow, Nat.testBit_mul_two_pow, Nat.testBit_div_two_pow]
    simp only [hj, decide_true, Bool.true_and]
    unfold rotG tbit
    by_cases hc : N % 8 ≤ j
    · have e : at8 true k j + N = 8 * (k + N / 8) + (7 - j + N % 8) := by unfold at8; simp; omega
      rw [e, mod8 _ _ _ (by omega)]
      have h1 : (8 * ((k + N / 8) % s.size) + (7 - j + N % 8)) / 8 = (k + N / 8) % s.size := by omega
      have h2 : ib true (8 * ((k + N / 8) % s.size) + (7 - j + N % 8)) = j - N % 8 := by unfold ib; simp; omega
      rw [h1, h2]
      have hy : (byteN s ((k + N / 8 + 1) % s.size)).testBit (j + (8 - N % 8)) = false := by
        apply Nat.testBit_lt_two_pow
        have p : 2 ^ 8 ≤ 2 ^ (j + (8 - N % 8)) := Nat.pow_le_pow_right (by decide) (by omega)
        exact Nat.lt_of_lt_of_le (byteN_lt _ _) (by rw [← h8]; exact p)
      rw [hy]
      simp [hc]
    · have e : at8 true k j + N = 8 * (k + N / 8 + 1) + (N % 8 - 1 - j) := by unfold at8; simp; omega
      rw [e, mod8 _ _ _ (by omega)]
      have h1 : (8 * ((k + N / 8 + 1) % s.size) + (N % 8 - 1 - j)) / 8 = (k + N / 8 + 1) % s.size := by omega
      have h2 : ib true (8 * ((k + N / 8 + 1) % s.size) + (N % 8 - 1 - j)) = j + (8 - N % 8) := by unfold ib; simp; omega
      rw [h1, h2]
      simp [hc]
/-- A byte whose bits are i farther on. -/
def bk (o : Bool) (x i : Nat) : Nat := if o then x * 2 ^ i % 256 else x / 2 ^ i
theorem bk_lt (o : Bool) (x i : Nat) (hx : x < 256) : bk o x i < 256 := by
  cases o
  · exact Nat.lt_of_le_of_lt (Nat.div_le_self _ _) hx
  · exact Nat.mod_lt _ (by decide)
theorem bk_big (x i : Nat) : bk true x i * 2 % 256 = bk true x (i + 1) := by
  show x * 2 ^ i % 256 * 2 % 256 = x * 2 ^ (i + 1) % 256
  rw [Nat.pow_succ, ← Nat.mul_assoc]
  omega
theorem bk_little (x i : Nat) : bk false x i / 2 = bk false x (i + 1) := by
  show x / 2 ^ i / 2 = x / 2 ^ (i + 1)
  rw [Nat.pow_succ, Nat.div_div_eq_div_mul]
theorem bk_zero (o : Bool) (x : Nat) (hx : x < 256) : bk o x 0 = x := by
  cases o
  · show x / 1 = x; omega
  · show x * 1 % 256 = x; omega
theorem big_bit : ∀ r, r < 8 → ∀ x, x < 256 → x * 2 ^ r % 256 / 128 = (x.testBit (7 - r)).toNat := by decide +kernel
theorem bk_end (s : ByteArray) (k : Nat) : bk true (byteN s (k / 8)) (k % 8) / 128 = (tbit s true k).toNat := by
  rw [show bk true (byteN s (k / 8)) (k % 8) = byteN s (k / 8) * 2 ^ (k % 8) % 256 from rfl, big_bit _ (Nat.mod_lt _ (by decide)) _ (byteN_lt _ _)]
  rfl
theorem bk_end2 (s : ByteArray) (k : Nat) : bk false (byteN s (k / 8)) (k % 8) % 2 = (tbit s false k).toNat := by
  rw [show bk false (byteN s (k / 8)) (k % 8) = byteN s (k / 8) / 2 ^ (k % 8) from rfl, bit_nat]
  rfl
end Go.Proofs.YtkldnapbeebdkaaDoor.bit
