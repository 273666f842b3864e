/- Texts laid together: TmS, TmW, Num, LyP, NdRow. -/
import Derived.Test.YtococaecjecjgaaGreatDoorXLayoutReads9
import Derived.Test.YtococaecjecjgaaGreatDoorXLayoutReads2
import Derived.Test.YtococaecjecjgaaGreatDoorXLayoutReads8
import Derived.WalkKit
import Derived.ProofKit
import Derived.OpenShut
import Derived.Laws.BytesArg
import Derived.Test.YtococaecjecjgaaGreatDoorXLayoutReads6

namespace Go.Proofs.YtococaecjecjgaaGreatDoor.tm
set_option linter.unusedVariables false
open lx ex

def kw (d : D) : List UInt8 := if d.kd = 2 then wBytes else if d.kd = 3 then d.ty else ((numW.find? (fun p => p.2.1 == d.wd && p.2.2.1 == d.od && p.2.2.2 == d.sg)).map (·.1)).getD []
def rw_ (r : Nat) : List UInt8 := if r = 1 then wSize else if r = 2 then wCount else wCheck
def txO : Option Ex → List UInt8
  | none => []
  | some x => txt x
def ruT (d : D) : List UInt8 := if d.ru = 0 ∨ 4 ≤ d.ru then [] else [32, 61, 32] ++ rw_ d.ru ++ [32] ++ d.f1 ++ (if d.ru = 3 ∧ d.l1 ≠ d.f1 then [32] ++ d.l1 else [])
def mnT (d : D) : List UInt8 := if d.mn = true ∨ d.kd = 2 then [91] ++ txO d.ct ++ [93] else []
def paT (d : D) : List UInt8 := kw d ++ [32] ++ d.nm ++ mnT d ++ ruT d
def itx (pad : List UInt8) : Its → List UInt8
  | .nil => []
  | .cons d s t => pad ++ [32, 32] ++ (if d.kd = 4 then wWhen ++ [32] ++ txO d.ct ++ [32, 123, 10] ++ itx (pad ++ [32, 32]) s ++ pad ++ [32, 32, 125, 10] else paT d ++ [59, 10]) ++ itx pad t
def tyx (t : Ty) : List UInt8 := wStruct ++ [32] ++ t.nm ++ [32, 123, 10] ++ itx [] t.l ++ [125, 10]
def ptxt (l : List Ty) : List UInt8 := l.flatMap tyx
def WX (x : Ex) : Prop := Wf (nb := nb) Lib.itoa x ∧ Nw x ∧ dp x ≤ 8
def NM (t : List UInt8) : Prop := resv t = false ∧ isN t = true ∧ t.length ≤ 12 ∧ (∀ c ∈ t, isW c = true)
def WR (d : D) : Prop := (d.ru = 0 ∧ d.f1 = [] ∧ d.l1 = []) ∨ ((d.ru = 1 ∨ d.ru = 2) ∧ NM d.f1 ∧ d.l1 = []) ∨ (d.ru = 3 ∧ NM d.f1 ∧ NM d.l1)
def WD (d : D) : Prop :=
  (d.kd = 4 ∧ (∃ x, d.ct = some x ∧ WX x) ∧ d.nm = [] ∧ d.mn = false ∧ d.ru = 0 ∧ d.ty = [] ∧ d.f1 = [] ∧ d.l1 = [] ∧ d.wd = 0 ∧ d.od = 0 ∧ d.sg = false) ∨
  (d.kd = 2 ∧ NM d.nm ∧ (∃ x, d.ct = some x ∧ WX x) ∧ d.mn = false ∧ d.ru = 0 ∧ d.ty = [] ∧ d.wd = 0 ∧ d.od = 0 ∧ d.sg = false ∧ d.f1 = [] ∧ d.l1 = []) ∨
  (d.kd = 3 ∧ NM d.ty ∧ NM d.nm ∧ d.wd = 0 ∧ d.od = 0 ∧ d.sg = false ∧ d.ru = 0 ∧ d.f1 = [] ∧ d.l1 = [] ∧ ((d.mn = true ∧ ∃ x, d.ct = some x ∧ WX x) ∨ (d.mn = false ∧ d.ct = none))) ∨
  (d.kd = 1 ∧ d.ty = [] ∧ (∃ t, numOf t = some (d.wd, d.od, d.sg)) ∧ NM d.nm ∧ ((d.mn = true ∧ (∃ x, d.ct = some x ∧ WX x) ∧ d.ru = 0 ∧ d.f1 = [] ∧ d.l1 = []) ∨ (d.mn = false ∧ d.ct = none ∧ WR d)))
def noSub : Its → Bool
  | .nil => true
  | .cons _ _ _ => false
def WI : Nat → Its → Prop
  | _, .nil => True
  | k, .cons d s t => WD d ∧ (d.kd ≠ 4 → noSub s = true) ∧ (d.kd = 4 → 0 < k ∧ s.len ≤ 16 ∧ WI (k - 1) s) ∧ WI k t
def WT (l : List Ty) : Prop := l.length ≤ 8 ∧ ∀ t ∈ l, NM t.nm ∧ t.l.len ≤ 16 ∧ WI 7 t.l
end Go.Proofs.YtococaecjecjgaaGreatDoor.tm
namespace Go.Proofs.YtococaecjecjgaaGreatDoor.num
open Go.RowKit

theorem ret_int {k : IntKind} {a b : Int} (h : a = b) : Ending.returned (.int k a) = .returned (.int k b) := by rw [h]
def pl (W : Nat) (o : Bool) (k : Nat) : Nat := if o then W - 1 - k else k
def putL (n : Int) (W : Nat) (o : Bool) (k : Nat) : List Int := (List.range W).map fun j => if pl W o j < k then n / 256 ^ (pl W o j) % 256 else 0
theorem putL_len (n : Int) (W : Nat) (o : Bool) (k : Nat) : (putL n W o k).length = W := by simp [putL]
theorem putL_zero (n : Int) (W : Nat) (o : Bool) : putL n W o 0 = List.replicate W 0 := by
  simp [putL, List.map_const']
theorem putL_set (n : Int) (W : Nat) (o : Bool) (k : Nat) (hk : k < W) : (putL n W o k).set (pl W o k) (n / 256 ^ k % 256) = putL n W o (k + 1) := by
  apply List.ext_getElem
  · simp [putL]
  · intro i h1 h2
    have hi : i < W := by simpa [putL] using h1
    have hinv : pl W o (pl W o k) = k := by unfold pl; split <;> omega
    rw [List.getElem_set]
    by_cases e : pl W o k = i
    · subst e
      simp [putL, hinv]
    · have hne : pl W o i ≠ k := by
        intro h
        apply e
        rw [← h]
        unfold pl; split <;> omega
      rw [if_neg e]
      simp only [putL, List.getElem_map, List.getElem_range]
      by_cases hlt : pl W o i < k
      · rw [if_pos hlt, if_pos (by omega)]
      · rw [if_neg hlt, if_neg (by omega)]
theorem wrap8 (k : Nat) (hk : k ≤ 8) : IntKind.i64.wrap (8 * (k : Int)) = 8 * (k : Int) := by
  rw [IntKind.wrap_i64]; omega
theorem two256 (k : Nat) : (2 : Int) ^ (8 * k) = 256 ^ k := by rw [Int.pow_mul]; rfl
theorem run_shr8 {P : Program} (n : Int) (k : Nat) (hk : k ≤ 8) (w : World) :
    (Op.shift .shr .u64 n .i64 (IntKind.i64.wrap (8 * (k : Int)))).run P w = .ok (.int .u64 (n / 256 ^ k)) w := by
  rw [wrap8 k hk]
  unfold Op.shift
  rw [if_neg (by omega)]
  have e : min (8 * (k : Int)).toNat IntKind.u64.bits = 8 * k := by
    show min (8 * (k : Int)).toNat 64 = 8 * k
    omega
  simp only [e]
  rw [two256, Int.fdiv_eq_ediv_of_nonneg _ (Int.le_of_lt (Int.pow_pos (by decide)))]
  rfl
def gv (f : Nat → Int) : Nat → Int
  | 0 => 0
  | k + 1 => gv f k + f k * 256 ^ k
def sb (s : ByteArray) (j : Nat) : Int := ((s.data.toList.getD j 0).toNat : Int)
theorem sb_bd (s : ByteArray) (j : Nat) : 0 ≤ sb s j ∧ sb s j < 256 := by
  unfold sb
  have := (s.data.toList.getD j 0).toNat_lt
  omega
theorem gv_bd (f : Nat → Int) (hf : ∀ i, 0 ≤ f i ∧ f i < 256) (k : Nat) : 0 ≤ gv f k ∧ gv f k < 256 ^ k := by
  induction k with
  | zero => simp [gv]
  | succ k ih =>
    have := hf k
    have hp : (0 : Int) < 256 ^ k := Int.pow_pos (by decide)
    have h1 : 0 ≤ f k * 256 ^ k := Int.mul_nonneg this.1 (Int.le_of_lt hp)
    have h2 : f k * 256 ^ k ≤ 255 * 256 ^ k := Int.mul_le_mul_of_nonneg_right (by omega) (Int.le_of_lt hp)
    have h3 : (256 : Int) ^ (k + 1) = 256 ^ k * 256 := Int.pow_succ ..
    simp only [gv]
    omega
theorem sb_get (s : ByteArray) (j : Nat) (h : j < s.size) : sb s j = ((s[j]'h).toNat : Int) := by
  unfold sb
  have h' : j < s.data.toList.length := by simpa using h
  rw [List.getD_eq_getElem?_getD, List.getElem?_eq_getElem h']
  rfl
theorem pow256_le (k : Nat) (hk : k ≤ 7) : (256 : Int) ^ k ≤ 72057594037927936 := by
  rcases (show k = 0 ∨ k = 1 ∨ k = 2 ∨ k = 3 ∨ k = 4 ∨ k = 5 ∨ k = 6 ∨ k = 7 by omega) with rfl | rfl | rfl | rfl | rfl | rfl | rfl | rfl <;> decide
theorem or_step (g b : Int) (k : Nat) (hk : k < 8) (hg0 : 0 ≤ g) (hg : g < 256 ^ k) (hb0 : 0 ≤ b) (hb : b < 256) :
    bits .or .u64 g (IntKind.u64.wrap (IntKind.u64.wrap b * 2 ^ (8 * k))) = g + b * 256 ^ k := by
  have hp : (0 : Int) < 256 ^ k := Int.pow_pos (by decide)
  have hq := pow256_le k (by omega)
  have h1 : 0 ≤ b * 256 ^ k := Int.mul_nonneg hb0 (Int.le_of_lt hp)
  have h2 : b * 256 ^ k ≤ 255 * 256 ^ k := Int.mul_le_mul_of_nonneg_right (by omega) (Int.le_of_lt hp)
  rw [IntKind.wrap_u64 b, Int.emod_eq_of_lt hb0 (by omega), two256, IntKind.wrap_u64, Int.emod_eq_of_lt h1 (by omega), u64_or _ _ hg0 (by omega) h1 (by omega)]
  obtain ⟨G, rfl⟩ := Int.eq_ofNat_of_zero_le hg0
  obtain ⟨B, rfl⟩ := Int.eq_ofNat_of_zero_le hb0
  have e : ((B : Int) * 256 ^ k) = ((B * 256 ^ k : Nat) : Int) := by simp
  rw [e, Int.toNat_natCast, Int.toNat_natCast, Nat.or_comm, nat_join (8 * k)]
  · rw [Int.natCast_add, Int.add_comm]
  · rw [Nat.pow_mul]; exact Nat.mul_mod_left _ _
  · have : (G : Int) < ((256 ^ k : Nat) : Int) := by simpa using hg
    have h' : G < 256 ^ k := by exact_mod_cast this
    rw [Nat.pow_mul]
    exact h'
theorem p256 (a : Nat) : ((256 ^ a : Nat) : Int) = (256 : Int) ^ a := by rw [Int.natCast_pow]; rfl
theorem nat_mod_step (N a : Nat) : N % 256 ^ (a + 1) = N % 256 ^ a + 256 ^ a * (N / 256 ^ a % 256) := by
  rw [Nat.pow_succ, Nat.mod_mul]
theorem mod_step (n : Int) (h0 : 0 ≤ n) (a : Nat) : n % 256 ^ (a + 1) = n % 256 ^ a + n / 256 ^ a % 256 * 256 ^ a := by
  obtain ⟨N, rfl⟩ := Int.eq_ofNat_of_zero_le h0
  have h := nat_mod_step N a
  rw [Nat.mul_comm] at h
  rw [← p256, ← p256]
  have h' := congrArg (fun x : Nat => (x : Int)) h
  simp only [Int.natCast_add, Int.natCast_mul, Int.natCast_emod, Int.natCast_ediv] at h'
  exact h'
theorem gv_congr (f g : Nat → Int) (k : Nat) (h : ∀ i, i < k → f i = g i) : gv f k = gv g k := by
  induction k with
  | zero => rfl
  | succ k ih => simp only [gv]; rw [ih (fun i hi => h i (by omega)), h k (by omega)]
theorem gv_bytes (n : Int) (h0 : 0 ≤ n) (k : Nat) : gv (fun i => n / 256 ^ i % 256) k = n % 256 ^ k := by
  induction k with
  | zero => simp [gv]
  | succ k ih => rw [mod_step n h0 k, ← ih]; rfl
theorem sb_nums (zs : List Int) (h : ∀ z ∈ zs, 0 ≤ z ∧ z < 256) (j : Nat) : sb (strOfNums zs) j = zs.getD j 0 := by
  unfold sb
  rw [strOfNums_data]
  by_cases hj : j < zs.length
  · have hz := h _ (List.getElem_mem hj)
    simp only [List.getD_eq_getElem?_getD, List.getElem?_map, List.getElem?_eq_getElem hj, Option.map_some, Option.getD_some]
    rw [UInt8.toNat_ofNat']
    omega
  · simp [List.getD_eq_getElem?_getD, List.getElem?_eq_none (Nat.le_of_not_lt hj)]
theorem putL_bd (n : Int) (W : Nat) (o : Bool) (k : Nat) : ∀ z ∈ putL n W o k, 0 ≤ z ∧ z < 256 := by
  intro z hz
  simp only [putL, List.mem_map] at hz
  obtain ⟨j, _, rfl⟩ := hz
  split <;> omega
theorem putL_get (n : Int) (W : Nat) (o : Bool) (j : Nat) (hj : j < W) : (putL n W o W).getD (pl W o j) 0 = n / 256 ^ j % 256 := by
  have h1 : pl W o j < W := by unfold pl; split <;> omega
  have h2 : pl W o (pl W o j) = j := by unfold pl; split <;> omega
  simp [putL, List.getD_eq_getElem?_getD, h1, h2, hj]
theorem back (n : Int) (h0 : 0 ≤ n) (W : Nat) (o : Bool) (t : ByteArray) (A : Nat) (ht : ∀ j, j < W → sb t (A + j) = sb (strOfNums (putL n W o W)) j) :
    gv (fun i => sb t (A + pl W o i)) W = n % 256 ^ W := by
  rw [← gv_bytes n h0 W]
  apply gv_congr
  intro i hi
  have h1 : pl W o i < W := by unfold pl; split <;> omega
  rw [ht _ h1, sb_nums _ (putL_bd n W o W), putL_get n W o i hi]
theorem putL_mod (n : Int) (h0 : 0 ≤ n) (W : Nat) (o : Bool) : putL (n % 256 ^ W) W o W = putL n W o W := by
  unfold putL
  apply List.map_congr_left
  intro j hj
  have hj' : j < W := by simpa using hj
  have h1 : pl W o j < W := by unfold pl; split <;> omega
  rw [if_pos h1, if_pos h1]
  obtain ⟨N, rfl⟩ := Int.eq_ofNat_of_zero_le h0
  have : N % 256 ^ W / 256 ^ (pl W o j) % 256 = N / 256 ^ (pl W o j) % 256 := by
    generalize pl W o j = i at h1
    obtain ⟨d, rfl⟩ : ∃ d, W = i + 1 + d := ⟨W - i - 1, by omega⟩
    rw [Nat.pow_add, Nat.pow_add, Nat.pow_one, Nat.mul_assoc, Nat.mod_mul_right_div_self]
    exact Nat.mod_mul_right_mod ..
  rw [← p256, ← p256]
  have h' := congrArg (fun x : Nat => (x : Int)) this
  simp only [Int.natCast_emod, Int.natCast_ediv] at h'
  exact h'
theorem gv_digit (f : Nat → Int) (hf : ∀ i, 0 ≤ f i ∧ f i < 256) (k i : Nat) (hi : i < k) : gv f k / 256 ^ i % 256 = f i := by
  induction k with
  | zero => omega
  | succ k ih =>
    have hb := gv_bd f hf k
    have hp : (0 : Int) < 256 ^ k := Int.pow_pos (by decide)
    by_cases e : i = k
    · subst e
      have := hf i
      simp only [gv]
      rw [Int.add_mul_ediv_right _ _ (by omega), Int.ediv_eq_zero_of_lt hb.1 hb.2]
      omega
    · have hik : i < k := by omega
      simp only [gv]
      obtain ⟨d, rfl⟩ : ∃ d, k = i + 1 + d := ⟨k - i - 1, by omega⟩
      have hpi : (0 : Int) < 256 ^ i := Int.pow_pos (by decide)
      have e2 : f (i + 1 + d) * 256 ^ (i + 1 + d) = (f (i + 1 + d) * 256 ^ d * 256) * 256 ^ i := by
        rw [Int.pow_add, Int.pow_add, Int.pow_one]
        simp only [Int.mul_comm, Int.mul_left_comm, Int.mul_assoc]
      rw [e2, Int.add_mul_ediv_right _ _ (by omega), Int.add_mul_emod_self_right]
      exact ih hik
end Go.Proofs.YtococaecjecjgaaGreatDoor.num
namespace Go.Proofs.YtococaecjecjgaaGreatDoor.ly
set_option linter.unusedVariables false
open lx ex tm num

structure ND where
  nm : List UInt8
  kd : Nat
  at_ : Nat
  sz : Nat
  n : Int
  tx : List UInt8
deriving Inhabited
inductive Nds where
  | nil
  | cons (d : ND) (kids tl : Nds)
deriving Inhabited
def Nds.len : Nds → Nat
  | .nil => 0
  | .cons _ _ t => t.len + 1
abbrev Env := List UInt8 → Option Int
def noE : Env := fun _ => none
def upd (e : Env) (x : List UInt8) (n : Int) : Env := fun y => if y = x then some n else e y
abbrev Er := Int × Int
abbrev St := Nat × Nat
def sgn (u : Int) (W : Nat) : Int := if W = 1 then (u + 128) % 256 - 128 else if W = 2 then (u + 32768) % 65536 - 32768 else if W = 4 then (u + 2147483648) % 4294967296 - 2147483648 else (u + 9223372036854775808) % 18446744073709551616 - 9223372036854775808
def un (s : List UInt8) (a W : Nat) (o : Bool) : Int := gv (fun i => ((s.getD (a + pl W o i) 0).toNat : Int)) W
def num (d : D) (u : Int) : Int := if d.sg = true then sgn u d.wd else u
def fnd : List Ty → List UInt8 → Option Its
  | [], _ => none
  | t :: r, x => match fnd r x with
    | some i => some i
    | none => if t.nm = x then some t.l else none
def evO (e : Env) : Option Ex → Except Nat Int
  | none => .ok 0
  | some x => ev e x
def cnt (d : D) (e : Env) (a : Nat) : Except Er Nat :=
  match evO e d.ct with
  | .error p => .error (5, (p : Int))
  | .ok n => if n < 0 then .error (3, (a : Int)) else .ok n.toNat
section
variable (s : List UInt8) (l : List Ty) (rec : Its → Env → St → Except Er (Nds × St))
def body (d : D) (sub : Its) (e : Env) (a k : Nat) : Except Er (ND × Nds × St) :=
  if d.kd = 1 then
    if a + d.wd ≤ s.length then .ok (⟨d.nm, 1, a, d.wd, num d (un s a d.wd (d.od == 1)), []⟩, .nil, (a + d.wd, k)) else .error (3, (a : Int))
  else if d.kd = 2 then
    match cnt d e a with
    | .error x => .error x
    | .ok n => if s.length - a < n then .error (3, (a : Int)) else .ok (⟨d.nm, 2, a, n, 0, (s.drop a).take n⟩, .nil, (a + n, k))
  else if d.kd = 3 then
    match fnd l d.ty with
    | none => .error (7, -1)
    | some i => match rec i noE (a, k) with
      | .error x => .error x
      | .ok (ks, st) => .ok (⟨d.nm, 3, a, st.1 - a, 0, []⟩, ks, st)
  else
    match evO e d.ct with
    | .error p => .error (5, (p : Int))
    | .ok n => if n = 0 then .ok (⟨d.nm, 4, a, 0, 0, []⟩, .nil, (a, k)) else
      match rec sub e (a, k) with
      | .error x => .error x
      | .ok (ks, st) => .ok (⟨d.nm, 4, a, st.1 - a, 1, []⟩, ks, st)
def one (d : D) (sub : Its) (e : Env) (st : St) : Except Er (ND × Nds × St) := if st.2 = 400 then .error (4, (st.1 : Int)) else body s l rec d sub e st.1 (st.2 + 1)
def reps (d : D) (sub : Its) (e : Env) : Nat → St → Except Er (Nds × St)
  | 0, st => .ok (.nil, st)
  | n + 1, st => match one s l rec d sub e st with
    | .error x => .error x
    | .ok (nd, ks, st) => match reps d sub e n st with
      | .error x => .error x
      | .ok (r, st) => .ok (.cons nd ks r, st)
def part (d : D) (sub : Its) (e : Env) (st : St) : Except Er (ND × Nds × St) :=
  if d.mn = true then
    if st.2 = 400 then .error (4, (st.1 : Int)) else
    match cnt d e st.1 with
    | .error x => .error x
    | .ok n => match reps s l rec d sub e n (st.1, st.2 + 1) with
      | .error x => .error x
      | .ok (ks, st') => .ok (⟨d.nm, 9, st.1, st'.1 - st.1, 0, []⟩, ks, st')
  else one s l rec d sub e st
def nxt (d : D) (e : Env) (nd : ND) : Env := if d.kd = 1 ∧ d.mn = false then upd e d.nm nd.n else e
def blk : Its → Env → St → Except Er (Nds × St)
  | .nil, _, st => .ok (.nil, st)
  | .cons d sub t, e, st => match part s l rec d sub e st with
    | .error x => .error x
    | .ok (nd, ks, st) => match blk t (nxt d e nd) st with
      | .error x => .error x
      | .ok (r, st) => .ok (.cons nd ks r, st)
end
def rdB (s : List UInt8) (l : List Ty) : Nat → Its → Env → St → Except Er (Nds × St)
  | 0 => fun _ _ st => .error (4, (st.1 : Int))
  | f + 1 => blk s l (rdB s l f)
def topD (x : List UInt8) : D := { D0 with kd := 3, nm := x, ty := x }
def rd (s : List UInt8) (l : List Ty) (root : List UInt8) : Except Er (ND × Nds) :=
  match one s l (rdB s l 400) (topD root) .nil noE (0, 0) with
  | .error x => .error x
  | .ok (nd, ks, st) => if st.1 < s.length then .error (3, (st.1 : Int)) else .ok (nd, ks)

/- What is written. -/
def fits (n : Int) (W : Nat) (sg : Bool) : Bool := if sg = true then sgn n W == n else decide (0 ≤ n) && (W == 8 || decide (n < 256 ^ W))
def pb (n : Int) (W : Nat) (o : Bool) : List UInt8 := (putL (n % 18446744073709551616) W o W).map (fun z => UInt8.ofNat z.toNat)
section
variable (l : List Ty) (rec : Its → Nds → Except Int (List UInt8))
def wOne (d : D) (sub : Its) (nd : ND) (ks : Nds) : Except Int (List UInt8) :=
  if nd.nm = d.nm ∧ nd.kd = d.kd then
    if d.kd = 1 then if fits nd.n d.wd d.sg = true then .ok (pb nd.n d.wd (d.od == 1)) else .error 1
    else if d.kd = 2 then .ok nd.tx
    else if d.kd = 3 then match fnd l d.ty with
      | none => .error 7
      | some i => rec i ks
    else rec (if nd.n = 0 then .nil else sub) ks
  else .error 1
def wReps (d : D) (sub : Its) : Nds → Except Int (List UInt8)
  | .nil => .ok []
  | .cons nd ks t => match wOne l rec d sub nd ks with
    | .error x => .error x
    | .ok a => match wReps d sub t with
      | .error x => .error x
      | .ok b => .ok (a ++ b)
def wPart (d : D) (sub : Its) (nd : ND) (ks : Nds) : Except Int (List UInt8) :=
  if d.mn = true then if nd.nm = d.nm ∧ nd.kd = 9 then wReps l rec d sub ks else .error 1
  else wOne l rec d sub nd ks
def wAll : Its → Nds → Except Int (List UInt8)
  | .nil, .nil => .ok []
  | .cons d sub t, .cons nd ks r => match wPart l rec d sub nd ks with
    | .error x => .error x
    | .ok a => match wAll t r with
      | .error x => .error x
      | .ok b => .ok (a ++ b)
  | _, _ => .error 1
def wBlk (i : Its) (ks : Nds) : Except Int (List UInt8) := if ks.len = i.len then wAll l rec i ks else .error 1
end
def wrB (l : List Ty) : Nat → Its → Nds → Except Int (List UInt8)
  | 0 => fun _ _ => .error 0
  | f + 1 => wBlk l (wrB l f)
/- What is read is written just so. -/
theorem num_cases {d : D} (h : WD d) (h1 : d.kd = 1) : (d.wd = 1 ∨ d.wd = 2 ∨ d.wd = 4 ∨ (d.wd = 8 ∧ d.sg = true)) ∧ (d.od = 0 ∨ d.od = 1) := by
  have key : ∀ t w o g, numOf t = some (w, o, g) → (w = 1 ∨ w = 2 ∨ w = 4 ∨ (w = 8 ∧ g = true)) ∧ (o = 0 ∨ o = 1) := by
    intro t w o g h
    unfold numOf at h
    obtain ⟨p, hp, he⟩ := Option.map_eq_some_iff.1 h
    have hm := List.mem_of_find?_eq_some hp
    unfold numW at hm
    simp only [List.mem_cons, List.not_mem_nil, or_false] at hm
    rcases hm with rfl | rfl | rfl | rfl | rfl | rfl | rfl | rfl | rfl | rfl | rfl | rfl <;> (cases he; simp)
  rcases h with h | h | h | h
  · omega
  · omega
  · omega
  · obtain ⟨t, ht⟩ := h.2.2.1
    exact key _ _ _ _ ht
theorem un_bd (s : List UInt8) (a W : Nat) (o : Bool) : 0 ≤ un s a W o ∧ un s a W o < 256 ^ W := gv_bd _ (fun i => by have := (s.getD (a + pl W o i) 0).toNat_lt; omega) W
theorem pl_lt {W : Nat} (o : Bool) {j : Nat} (h : j < W) : pl W o j < W := by unfold pl; split <;> omega
theorem pl_pl {W : Nat} (o : Bool) {j : Nat} (h : j < W) : pl W o (pl W o j) = j := by unfold pl; cases o <;> simp <;> omega
theorem num_fits {d : D} (h : WD d) (h1 : d.kd = 1) (s : List UInt8) (a : Nat) (o : Bool) : fits (num d (un s a d.wd o)) d.wd d.sg = true ∧ (num d (un s a d.wd o)) % 18446744073709551616 % 256 ^ d.wd = un s a d.wd o := by
  have hb := un_bd s a d.wd o
  obtain ⟨hw, _⟩ := num_cases h h1
  generalize un s a d.wd o = u at hb ⊢
  unfold num fits sgn
  rcases hw with e | e | e | ⟨e, e2⟩
  · rw [e] at hb ⊢; cases d.sg <;> simp at hb ⊢ <;> omega
  · rw [e] at hb ⊢; cases d.sg <;> simp at hb ⊢ <;> omega
  · rw [e] at hb ⊢; cases d.sg <;> simp at hb ⊢ <;> omega
  · rw [e] at hb ⊢; rw [e2]; simp at hb ⊢; omega
theorem num_r64 {d : D} (h : WD d) (h1 : d.kd = 1) (s : List UInt8) (a : Nat) (o : Bool) : R64 (num d (un s a d.wd o)) := by
  have hb := un_bd s a d.wd o
  obtain ⟨hw, _⟩ := num_cases h h1
  generalize un s a d.wd o = u at hb ⊢
  unfold num sgn R64
  rcases hw with e | e | e | ⟨e, e2⟩
  · rw [e] at hb ⊢; cases d.sg <;> simp at hb ⊢ <;> omega
  · rw [e] at hb ⊢; cases d.sg <;> simp at hb ⊢ <;> omega
  · rw [e] at hb ⊢; cases d.sg <;> simp at hb ⊢ <;> omega
  · rw [e] at hb ⊢; rw [e2]; simp at hb ⊢; omega
theorem pb_back {d : D} (h : WD d) (h1 : d.kd = 1) {s : List UInt8} {a : Nat} (o : Bool) (ha : a + d.wd ≤ s.length) : pb (num d (un s a d.wd o)) d.wd o = (s.drop a).take d.wd := by
  obtain ⟨_, h3⟩ := num_fits h h1 s a o
  obtain ⟨v, hv⟩ : ∃ v, v = num d (un s a d.wd o) % 18446744073709551616 := ⟨_, rfl⟩
  rw [← hv] at h3
  have hv0 : 0 ≤ v := by omega
  unfold pb
  rw [← hv]
  refine List.ext_getElem (by rw [List.length_map, putL_len, List.length_take, List.length_drop]; omega) ?_
  intro j hj1 hj2
  have hj : j < d.wd := by rw [List.length_map, putL_len] at hj1; exact hj1
  rw [List.getElem_map, List.getElem_take, List.getElem_drop]
  have e1 : (putL v d.wd o d.wd)[j]'(by rw [putL_len]; exact hj) = (putL v d.wd o d.wd).getD j 0 := by
    rw [List.getD_eq_getElem?_getD, List.getElem?_eq_getElem (by rw [putL_len]; exact hj)]; rfl
  rw [e1, ← putL_mod v hv0, h3]
  have e2 := putL_get (un s a d.wd o) d.wd o (pl d.wd o j) (pl_lt o hj)
  rw [pl_pl o hj] at e2
  rw [e2]
  unfold un
  rw [gv_digit _ (fun i => by have := (s.getD (a + pl d.wd o i) 0).toNat_lt; omega) d.wd _ (pl_lt o hj), pl_pl o hj, Int.toNat_natCast, UInt8.ofNat_toNat, List.getD_eq_getElem?_getD, List.getElem?_eq_getElem (by omega)]
  rfl
end Go.Proofs.YtococaecjecjgaaGreatDoor.ly
namespace Go.Proofs.YtococaecjecjgaaGreatDoor.ly
set_option linter.unusedVariables false
open Go.ChangeShapes Go.WideShapes Go.ChangeAt Go.RowKit
open mem lx ex tm

structure CN where
  d : ND
  p : Option Addr
  n : Nat
  c : Nat
def cl (x : CN) : List Value := [.string (tx x.d.nm), .int .i64 (x.d.kd : Int), .int .i64 (x.d.at_ : Int), .int .i64 (x.d.sz : Int), .int .i64 x.d.n, .string (tx x.d.tx), .slice x.p x.n x.c]
namespace nr
def rowE (l : List CN) : List Value := l.flatMap cl
theorem rowE_cons (x : CN) (l : List CN) : rowE (x :: l) = cl x ++ rowE l := by unfold rowE; rw [List.flatMap_cons]
theorem cl_len (x : CN) : (cl x).length = 7 := rfl
theorem rowE_len (l : List CN) : (rowE l).length = l.length * 7 := by
  induction l with
  | nil => rfl
  | cons x l ih => rw [rowE_cons, List.length_append, ih, cl_len]; simp only [List.length_cons]; omega
theorem rowE_append (a b : List CN) : rowE (a ++ b) = rowE a ++ rowE b := by unfold rowE; rw [List.flatMap_append]
theorem rowE_get (l : List CN) (k : Nat) (h : k < l.length) (j : Nat) (hj : j < 7) : (rowE l)[k * 7 + j]? = (cl l[k])[j]? := by
  induction l generalizing k with
  | nil => exact absurd h (Nat.not_lt_zero _)
  | cons x l ih =>
    rw [rowE_cons]
    cases k with
    | zero => rw [Nat.zero_mul, Nat.zero_add, List.getElem?_append_left (by rw [cl_len]; exact hj)]; rfl
    | succ k =>
      rw [List.getElem?_append_right (by rw [cl_len]; omega), cl_len, show (k + 1) * 7 + j - 7 = k * 7 + j by omega]
      exact ih k (by simpa using h)
theorem rowE_one (l : List CN) (u : Value) (hu : u ∈ rowE l) : u.oneCell' = true := by
  unfold rowE at hu
  rw [List.mem_flatMap] at hu
  obtain ⟨y, _, hy⟩ := hu
  simp only [cl, List.mem_cons, List.not_mem_nil, or_false] at hy
  rcases hy with rfl | rfl | rfl | rfl | rfl | rfl | rfl <;> rfl
theorem infoE : (Tryz.prog.info? 27).map (fun i => (i.zero, i.size, i.bytes)) = some (some (.agg #[.string ⟨#[]⟩, .int .i64 0, .int .i64 0, .int .i64 0, .int .i64 0, .string ⟨#[]⟩, .slice none 0 0]), 7, 88) := by kernel_rfl
theorem infoE' : ∃ i, Tryz.prog.info? 27 = some i ∧ i.zero = some (.agg #[.string ⟨#[]⟩, .int .i64 0, .int .i64 0, .int .i64 0, .int .i64 0, .string ⟨#[]⟩, .slice none 0 0]) ∧ i.size = 7 ∧ i.bytes = 88 := by
  obtain ⟨i, h1, h2⟩ := Option.map_eq_some_iff.1 infoE
  simp only [Prod.mk.injEq] at h2
  exact ⟨i, h1, h2.1, h2.2.1, h2.2.2⟩
def Own (w : World) (base : Nat) (v : Value) (l : List CN) : Prop := w.ownsRow base 27 7 v l.length (rowE l)
theorem Own.nil (w : World) (base : Nat) : Own w base (.slice none 0 0) [] := World.ownsRow_nil _ _ _ _
theorem Own.shape {w : World} {base : Nat} {v : Value} {l : List CN} (h : Own w base v l) : (v = .slice none 0 0 ∧ l = []) ∨
    ∃ g cap, v = .slice (some ⟨g, 0, none⟩) l.length cap ∧ base ≤ g ∧ g < w.heap.size ∧ l.length ≤ cap ∧ cap ≤ maxLen ∧ (∀ j, w.frozen? ⟨g, j, none⟩ = false) ∧ ∀ j u, (rowE l)[j]? = some u → w.cell? ⟨g, j, none⟩ = some u := by
  rcases h.2 with ⟨h1, h2⟩ | ⟨g, cap, cur, rfl, hbg, hg, hnc, hcm, hcs, htake⟩
  · exact Or.inl ⟨h1, List.eq_nil_of_length_eq_zero h2⟩
  · refine Or.inr ⟨g, cap, rfl, hbg, lt_of_heap hg, hnc, hcm, fun j => by simp [World.frozen?, hg], fun j u hu => ?_⟩
    have hj : j < l.length * 7 := by
      have := (List.getElem?_eq_some_iff.1 hu).1
      rw [rowE_len] at this
      exact this
    rw [← htake, List.getElem?_take, if_pos hj] at hu
    rw [cell_of hg]
    simpa using hu
theorem Own.kind {w : World} {base g n cap : Nat} {l : List CN} (h : Own w base (.slice (some ⟨g, 0, none⟩) n cap) l) : ∃ cur, w.heap[g]? = some (.cells cur 27 (0, 0)) := by
  rcases h.2 with ⟨h1, _⟩ | ⟨g', cap', cur, h1, h2, h3, _⟩
  · cases h1
  · simp only [Value.slice.injEq, Option.some.injEq, Addr.mk.injEq] at h1
    obtain ⟨⟨rfl, _, _⟩, _, _⟩ := h1
    exact ⟨cur, h3⟩
theorem Own.block {w : World} {base : Nat} {v : Value} {l : List CN} (h : Own w base v l) : ∀ k, v.ownBlock = some k → base ≤ k ∧ k < w.heap.size := World.ownsRow.lt h
theorem Own.step {w w' : World} {base : Nat} {v : Value} {l : List CN} (h : Own w base v l) (hb : ∀ g, base ≤ g → g < w.heap.size → w'.heap[g]? = w.heap[g]?) : Own w' base v l := by
  refine ⟨h.1, ?_⟩
  rcases h.2 with h | ⟨g, cap, cur, h1, h2, h3, h4⟩
  · exact Or.inl h
  · refine Or.inr ⟨g, cap, cur, h1, h2, ?_, h4⟩
    rw [hb g h2 (lt_of_heap h3)]
    exact h3
theorem Own.bl {w w' : World} {base : Nat} {v : Value} {l : List CN} (h : Own w base v l) (hb : Bl w w') : Own w' base v l := h.step (fun g _ hg => Below.block hb g hg)
theorem Own.gp {w w' : World} {base P : Nat} {v : Value} {l : List CN} (h : Own w base v l) (hb : Gp P w w') (hP : P < base) : Own w' base v l := h.step (fun g h1 hg => hb.block g hg (by omega))
theorem app_one (w : World) (base : Nat) (v : Value) (l : List CN) (z : CN) (x : Addr) (hown : Own w base v l) (hX : ∀ j u, (cl z)[j]? = some u → w.cell? (x.add j) = some u) (hn : l.length ≤ 20000) (hb : base ≤ w.heap.size) :
    ∃ v' w', (Builtin.append_ #[25, 25] 25 #[v, .slice (some x) 1 1]).run Tryz.prog w = .ok v' w' ∧ Own w' base v' (l ++ [z]) ∧ w.grownBy w' v.ownBlock := by
  obtain ⟨i, hi, hz, h1, h2⟩ := infoE'
  obtain ⟨v', w', hr, ho, hg, _⟩ := run_append_own (P := Tryz.prog) w base 25 25 27 i (.agg #[.string ⟨#[]⟩, .int .i64 0, .int .i64 0, .int .i64 0, .int .i64 0, .string ⟨#[]⟩, .slice none 0 0]) 7 88 Tryz.underlying25 hi hz h1 h2 rfl (by decide) v l.length (rowE l) hown
    x 1 1 (cl z) rfl hX (fun u hu => rowE_one [z] u (by rw [rowE_cons]; simp [hu])) (by simp [maxLen]; omega) (by omega) hb
  refine ⟨v', w', hr, ?_, hg⟩
  unfold Own
  rw [rowE_append, List.length_append]
  have e : rowE [z] = cl z := by rw [rowE_cons]; simp [rowE]
  rw [e]
  exact ho
def Lie (w : World) (ok : Nat → Prop) (p : Option Addr) (n c : Nat) (l : List CN) : Prop :=
  n = l.length ∧ n ≤ c ∧ (l = [] ∨ ∃ g, p = some ⟨g, 0, none⟩ ∧ ok g ∧ g < w.heap.size ∧ ∀ j u, (rowE l)[j]? = some u → w.cell? ⟨g, j, none⟩ = some u)
theorem Own.lie {w : World} {base : Nat} {v : Value} {l : List CN} (h : Own w base v l) : ∃ p c, v = .slice p l.length c ∧ Lie w (fun g => base ≤ g) p l.length c l := by
  rcases h.shape with ⟨rfl, rfl⟩ | ⟨g, cap, rfl, h1, h2, h4, _, _, hc⟩
  · exact ⟨none, 0, rfl, rfl, Nat.le_refl _, Or.inl rfl⟩
  · exact ⟨_, cap, rfl, rfl, h4, Or.inr ⟨g, rfl, h1, h2, hc⟩⟩
theorem Lie.keep {w w' : World} {ok : Nat → Prop} {p : Option Addr} {n c : Nat} {l : List CN} (h : Lie w ok p n c l) (hk : ∀ g, ok g → g < w.heap.size → w'.heap[g]? = w.heap[g]?) (hs : w.heap.size ≤ w'.heap.size) : Lie w' ok p n c l := by
  obtain ⟨h1, h2, h3⟩ := h
  refine ⟨h1, h2, ?_⟩
  rcases h3 with h3 | ⟨g, e, h4, h5, h6⟩
  · exact Or.inl h3
  · refine Or.inr ⟨g, e, h4, by omega, fun j u hu => ?_⟩
    have := h6 j u hu
    unfold World.cell? at this ⊢
    rw [hk g h4 h5]
    exact this
theorem Lie.mono {w : World} {ok ok' : Nat → Prop} {p : Option Addr} {n c : Nat} {l : List CN} (h : Lie w ok p n c l) (ho : ∀ g, ok g → g < w.heap.size → ok' g) : Lie w ok' p n c l := by
  obtain ⟨h1, h2, h3⟩ := h
  refine ⟨h1, h2, ?_⟩
  rcases h3 with h3 | ⟨g, e, h4, h5, h6⟩
  · exact Or.inl h3
  · exact Or.inr ⟨g, e, ho g h4 h5, h5, h6⟩
theorem Lie.at {w : World} {ok : Nat → Prop} {p : Option Addr} {n c : Nat} {l : List CN} (h : Lie w ok p n c l) (k : Nat) (hk : k < l.length) : ∃ x : Addr, p = some x ∧ x.block < w.heap.size ∧ ok x.block ∧ ∀ j u, (cl l[k])[j]? = some u → w.cell? ⟨(x.add (k * 7)).block, (x.add (k * 7)).off + j, none⟩ = some u := by
  obtain ⟨h1, h2, h3⟩ := h
  rcases h3 with h3 | ⟨g, e, h4, h5, h6⟩
  · subst h3; exact absurd hk (Nat.not_lt_zero _)
  · refine ⟨_, e, h5, h4, fun j u hu => ?_⟩
    rw [Addr.add_lit, Nat.zero_add]
    have hj : j < 7 := by
      have := (List.getElem?_eq_some_iff.1 hu).1
      rw [cl_len] at this
      exact this
    exact h6 (k * 7 + j) u (by rw [rowE_get l k hk j hj]; exact hu)
end nr
def RepN (w : World) (ok : Nat → Prop) : Nds → List CN → Prop
  | .nil, cs => cs = []
  | .cons d s t, cs => ∃ c r, cs = c :: r ∧ c.d = d ∧ (∃ cs2, nr.Lie w ok c.p c.n c.c cs2 ∧ RepN w ok s cs2) ∧ RepN w ok t r
theorem RepN.keep {w w' : World} {ok : Nat → Prop} (hk : ∀ g, ok g → g < w.heap.size → w'.heap[g]? = w.heap[g]?) (hs : w.heap.size ≤ w'.heap.size) {l : Nds} : ∀ {cs : List CN}, RepN w ok l cs → RepN w' ok l cs := by
  induction l with
  | nil => intro cs h; exact h
  | cons d s t is it =>
    intro cs h
    obtain ⟨c, r, h1, h2, ⟨cs2, h4, h5⟩, h6⟩ := h
    exact ⟨c, r, h1, h2, ⟨cs2, h4.keep hk hs, is h5⟩, it h6⟩
theorem RepN.mono {w : World} {ok ok' : Nat → Prop} (ho : ∀ g, ok g → g < w.heap.size → ok' g) {l : Nds} : ∀ {cs : List CN}, RepN w ok l cs → RepN w ok' l cs := by
  induction l with
  | nil => intro cs h; exact h
  | cons d s t is it =>
    intro cs h
    obtain ⟨c, r, h1, h2, ⟨cs2, h4, h5⟩, h6⟩ := h
    exact ⟨c, r, h1, h2, ⟨cs2, h4.mono ho, is h5⟩, it h6⟩
theorem RepN.len {w : World} {ok : Nat → Prop} {l : Nds} : ∀ {cs : List CN}, RepN w ok l cs → cs.length = l.len := by
  induction l with
  | nil => intro cs h; subst h; rfl
  | cons d s t _ it =>
    intro cs h
    obtain ⟨c, r, rfl, _, _, h6⟩ := h
    simp [Nds.len, it h6]
def Nds.app : Nds → ND → Nds → Nds
  | .nil, d, s => .cons d s .nil
  | .cons e u t, d, s => .cons e u (t.app d s)
theorem RepN.app {w : World} {ok : Nat → Prop} {c : CN} {s : Nds} (hs : ∃ cs2, nr.Lie w ok c.p c.n c.c cs2 ∧ RepN w ok s cs2) {l : Nds} : ∀ {cs : List CN}, RepN w ok l cs → RepN w ok (l.app c.d s) (cs ++ [c]) := by
  induction l with
  | nil => intro cs h; subst h; exact ⟨c, [], rfl, rfl, hs, rfl⟩
  | cons d u t _ it =>
    intro cs h
    obtain ⟨e, r, rfl, h2, h4, h6⟩ := h
    exact ⟨e, r ++ [c], rfl, h2, h4, it h6⟩
def IsNs (w : World) (ok : Nat → Prop) (p : Option Addr) (n c : Nat) (ks : Nds) : Prop := ∃ cs, nr.Lie w ok p n c cs ∧ RepN w ok ks cs
theorem IsNs.keep {w w' : World} {ok : Nat → Prop} {p : Option Addr} {n c : Nat} {ks : Nds} (h : IsNs w ok p n c ks) (hk : ∀ g, ok g → g < w.heap.size → w'.heap[g]? = w.heap[g]?) (hs : w.heap.size ≤ w'.heap.size) : IsNs w' ok p n c ks := by
  obtain ⟨cs, h1, h2⟩ := h
  exact ⟨cs, h1.keep hk hs, h2.keep hk hs⟩
theorem IsNs.mono {w : World} {ok ok' : Nat → Prop} {p : Option Addr} {n c : Nat} {ks : Nds} (h : IsNs w ok p n c ks) (ho : ∀ g, ok g → g < w.heap.size → ok' g) : IsNs w ok' p n c ks := by
  obtain ⟨cs, h1, h2⟩ := h
  exact ⟨cs, h1.mono ho, h2.mono ho⟩
theorem IsNs.bl {w w' : World} {ok : Nat → Prop} {p : Option Addr} {n c : Nat} {ks : Nds} (h : IsNs w ok p n c ks) (hb : Bl w w') : IsNs w' ok p n c ks := h.keep (fun g _ hg => Below.block hb g hg) hb.size
theorem IsNs.none (w : World) (ok : Nat → Prop) : IsNs w ok none 0 0 .nil := ⟨[], ⟨rfl, Nat.le_refl _, Or.inl rfl⟩, rfl⟩
theorem IsNs.len {w : World} {ok : Nat → Prop} {p : Option Addr} {n c : Nat} {ks : Nds} (h : IsNs w ok p n c ks) : n = ks.len ∧ n ≤ c := by
  obtain ⟨cs, h1, h2⟩ := h
  exact ⟨by rw [h1.1, h2.len], h1.2.1⟩
def ndV (d : ND) (p : Option Addr) (n c : Nat) : Value := .agg #[.string (tx d.nm), .int .i64 (d.kd : Int), .int .i64 (d.at_ : Int), .int .i64 (d.sz : Int), .int .i64 d.n, .string (tx d.tx), .slice p n c]
structure Gn (w : World) (M base : Nat) (v : Value) (cs : List CN) (ks : Nds) : Prop where
  own : nr.Own w base v cs
  rep : RepN w (fun g => M ≤ g ∧ v.ownBlock ≠ some g) ks cs
theorem Gn.nil (w : World) (M base : Nat) : Gn w M base (.slice none 0 0) [] .nil := ⟨nr.Own.nil _ _, rfl⟩
theorem Gn.keep {w w' : World} {M base : Nat} {v : Value} {cs : List CN} {ks : Nds} (h : Gn w M base v cs ks) (hk : ∀ g, M ≤ g → g < w.heap.size → w'.heap[g]? = w.heap[g]?) (hs : w.heap.size ≤ w'.heap.size) (hb : M ≤ base) : Gn w' M base v cs ks :=
  ⟨h.own.step (fun g h1 h2 => hk g (by omega) h2), h.rep.keep (fun g h1 h2 => hk g h1.1 h2) hs⟩
theorem Gn.bl {w w' : World} {M base : Nat} {v : Value} {cs : List CN} {ks : Nds} (h : Gn w M base v cs ks) (hb : Bl w w') (hm : M ≤ base) : Gn w' M base v cs ks := h.keep (fun g _ hg => Below.block hb g hg) hb.size hm
theorem Gn.app {w w6 w' : World} {M base K : Nat} {v v' : Value} {cs : List CN} {ks : Nds} {c : CN} {s : Nds} (h : Gn w M base v cs ks)
    (hs : IsNs w (fun g => K ≤ g) c.p c.n c.c s) (hK : ∀ k, v.ownBlock = some k → k < K) (hMK : M ≤ K) (hb6 : Bl w w6)
    (ho : nr.Own w' base v' (cs ++ [c])) (hg : w6.grownBy w' v.ownBlock) (hw : v'.ownBlock = v.ownBlock ∨ v'.ownBlock = some w6.heap.size) : Gn w' M base v' (cs ++ [c]) (ks.app c.d s) := by
  have keep : ∀ k, k < w6.heap.size → v.ownBlock ≠ some k → w'.heap[k]? = w6.heap[k]? := fun k hk hne => hg.block k hk (fun e => hne e.symm)
  have keep0 : ∀ k, k < w.heap.size → v.ownBlock ≠ some k → w'.heap[k]? = w.heap[k]? := fun k hk hne => (keep k (Nat.lt_of_lt_of_le hk hb6.size) hne).trans (Below.block hb6 k hk)
  have hsz : w.heap.size ≤ w'.heap.size := Nat.le_trans hb6.size hg.size
  have hlt : ∀ g, g < w.heap.size → v.ownBlock ≠ some g → v'.ownBlock ≠ some g := fun g h1 h2 e => by
    rcases hw with hw | hw
    · rw [hw] at e; exact h2 e
    · rw [hw] at e; injection e with e; have := hb6.size; omega
  refine ⟨ho, ?_⟩
  have r5 : RepN w (fun g => (M ≤ g ∧ v.ownBlock ≠ some g) ∧ g < w.heap.size) ks cs := h.rep.mono (fun g h1 h2 => ⟨h1, h2⟩)
  have r6 : RepN w' (fun g => (M ≤ g ∧ v.ownBlock ≠ some g) ∧ g < w.heap.size) ks cs := r5.keep (fun g h1 hg' => keep0 g hg' h1.1.2) hsz
  have r7 := r6.mono (ok' := fun g => M ≤ g ∧ v'.ownBlock ≠ some g) (fun g h1 _ => ⟨h1.1.1, hlt g h1.2 h1.1.2⟩)
  refine RepN.app ?_ r7
  have k1 : IsNs w (fun g => K ≤ g ∧ g < w.heap.size) c.p c.n c.c s := hs.mono (fun g h1 h2 => ⟨h1, h2⟩)
  have hne : ∀ g, K ≤ g → v.ownBlock ≠ some g := fun g h1 e => by have := hK g e; omega
  have k2 := k1.keep (fun g h1 hg' => keep0 g hg' (hne g h1.1)) hsz
  exact k2.mono (fun g h1 _ => ⟨by omega, hlt g h1.2 (hne g h1.1)⟩)
theorem Gn.is {w : World} {M base : Nat} {v : Value} {cs : List CN} {ks : Nds} (h : Gn w M base v cs ks) (hm : M ≤ base) : ∃ p c, v = .slice p ks.len c ∧ IsNs w (fun g => M ≤ g) p ks.len c ks ∧ ks.len = cs.length := by
  obtain ⟨p, c, e, hl⟩ := h.own.lie
  have hn := h.rep.len
  rw [hn] at e hl
  exact ⟨p, c, e, ⟨cs, hl.mono (fun g h1 _ => by omega), h.rep.mono (fun g h1 _ => h1.1)⟩, hn.symm⟩
end Go.Proofs.YtococaecjecjgaaGreatDoor.ly
