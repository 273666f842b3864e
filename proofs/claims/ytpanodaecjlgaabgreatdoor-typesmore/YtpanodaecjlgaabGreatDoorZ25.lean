/- Texts laid together: LayK, CoM, DcM, TyMb. -/
import Derived.Test.YtpanodaecjlgaabGreatDoorChecked
import Derived.Shelf.Strings.Search3
import Derived.Test.YtpanodaecjlgaabGreatDoorZ24
import Derived.Test.YtpanodaecjlgaabGreatDoorZ23
import Derived.Shelf.Vars
import Derived.Test.YtpanodaecjlgaabGreatDoorZ11
import Derived.Test.YtpanodaecjlgaabGreatDoorZ4
import Derived.Deep.RegionHeld3
/- The library's own texts that a call comes to, as this program has them: laid on the shelf's. -/
namespace Go.Proofs.YtpanodaecjlgaabGreatDoor.layK
open Go.Shelf
def rf : FuncId → FuncId
  | 143 => 16
  | 144 => 7
  | 217 => 48
  | 219 => 29
  | 224 => 50
  | 225 => 49
  | 266 => 68
  | 267 => 51
  | 314 => 69
  | x => x
def rt : TypeId → TypeId
  | 3 => 3
  | 4 => 4
  | 5 => 5
  | 9 => 9
  | 46 => 111
  | 51 => 139
  | 146 => 140
  | x => x
def rg : Nat → Nat
  | 1 => 2
  | x => x
def ren : Ren := ⟨rf, rt, rg⟩
set_option maxRecDepth 100000 in
theorem laid : Lays.n144 Tryz.prog ren where
  mixed := by kernel_rfl
  f143 := by kernel_rfl
  f144 := by kernel_rfl
  f217 := by kernel_rfl
  f219 := by kernel_rfl
  f224 := by kernel_rfl
  f225 := by kernel_rfl
  f266 := by kernel_rfl
  f267 := by kernel_rfl
  f314 := by kernel_rfl
  t3 := by kernel_rfl
  a3 := fun _ => by kernel_rfl
  z3 := fun _ => by kernel_rfl
  v3 := fun _ => by kernel_rfl
  t4 := by kernel_rfl
  a4 := fun _ => by kernel_rfl
  z4 := fun _ => by kernel_rfl
  v4 := fun _ => by kernel_rfl
  t5 := by kernel_rfl
  a5 := fun _ => by kernel_rfl
  z5 := fun _ => by kernel_rfl
  v5 := fun _ => by kernel_rfl
  t9 := by kernel_rfl
  a9 := fun _ => by kernel_rfl
  z9 := fun _ => by kernel_rfl
  v9 := fun _ => by kernel_rfl
  t46 := by kernel_rfl
  a46 := fun _ => by kernel_rfl
  z46 := fun _ => by kernel_rfl
  v46 := fun _ => by kernel_rfl
  t51 := by kernel_rfl
  a51 := fun _ => by kernel_rfl
  z51 := fun _ => by kernel_rfl
  v51 := fun _ => by kernel_rfl
  t146 := by kernel_rfl
  a146 := fun _ => by kernel_rfl
  z146 := fun _ => by kernel_rfl
  v146 := fun _ => by kernel_rfl
  g1 := by kernel_rfl
end Go.Proofs.YtpanodaecjlgaabGreatDoor.layK
/- strings.Contains. -/
namespace Go.Proofs.YtpanodaecjlgaabGreatDoor.co
set_option linter.unusedVariables false
open Go.ChangeShapes Go.WideShapes Go.ChangeAt Go.RowKit
open mem lx ex tm

/-- The variable holds some number, whatever it is. -/
def Ml (w : World) : Prop := ∃ m : Int, w.cell? ⟨2, 0, none⟩ = some (.int .i64 m)
theorem Ml.step {w w' : World} (h : Ml w) (hb : Bl w w') : Ml w' := by
  obtain ⟨m, hm⟩ := h
  exact ⟨m, at_bl hb hm⟩
theorem ml_of {W : World} (h : W.ShapedOpen Tryz.prog) : Ml W :=
  cell_of_shapedOpen_int (P := Tryz.prog) (g := 2) (t := 3) (zero := #[.int .i64 0]) h (of_decide_eq_true (by kernel_rfl)) (by kernel_rfl) rfl (by kernel_rfl) (by kernel_rfl) Tryz.underlying3
theorem has_at (s t : ByteArray) (w : World) (hs : s.size ≤ 100000) (hm : Ml w) : Calls Tryz.prog 7 #[.string s, .string t] w fun e w' => e = .returned (.bool (Lib.contains (L s) (L t))) ∧ w' = w := by
  obtain ⟨m, hm⟩ := hm
  exact Any.strings_Contains layK.laid s t m w (by omega) hm
end Go.Proofs.YtpanodaecjlgaabGreatDoor.co
/- Numbers as the laws write them. -/
namespace Go.Proofs.YtpanodaecjlgaabGreatDoor.ex
set_option linter.unusedVariables false
open Go.ChangeShapes Go.WideShapes Go.ChangeAt Go.RowKit
open mem lx

def szOf : Value → Nat
  | .string s => s.size
  | _ => 0
/-- How far a number is written: the rest, and the digits behind it. -/
def Dn (N m : Nat) (l : List UInt8) : Prop := (l = [] ∧ m = N) ∨ (l ≠ [] ∧ Lib.decDigits N = (if m = 0 then [] else Lib.decDigits m) ++ l)
theorem Dn.len {N m : Nat} {l : List UInt8} (h : Dn N m l) (hN : N < 10 ^ 20) : l.length ≤ 20 := by
  rcases h with ⟨rfl, _⟩ | ⟨_, h⟩
  · simp
  · have h1 := dd_len N 19 hN
    rw [h, List.length_append] at h1
    omega
theorem Dn.on {N m : Nat} {l : List UInt8} (h : Dn N m l) (hm : 0 < m ∨ l = []) : Dn N (m / 10) (UInt8.ofNat (48 + m % 10) :: l) := by
  right
  refine ⟨by simp, ?_⟩
  have key : Lib.decDigits m = (if m / 10 = 0 then [] else Lib.decDigits (m / 10)) ++ [UInt8.ofNat (48 + m % 10)] := by
    by_cases h10 : m < 10
    · rw [Lib.decDigits, dif_pos h10, if_pos (by omega), Nat.mod_eq_of_lt h10]
      rfl
    · rw [Lib.decDigits, dif_neg h10, if_neg (by omega)]
  rcases h with ⟨rfl, rfl⟩ | ⟨h1, h2⟩
  · exact key
  · rcases hm with hm | hm
    · rw [h2, if_neg (by omega), key, List.append_assoc]
      rfl
    · exact absurd hm h1
theorem Dn.done {N : Nat} {l : List UInt8} (h : Dn N 0 l) (hl : l ≠ []) : l = Lib.decDigits N := by
  rcases h with ⟨rfl, _⟩ | ⟨_, h⟩
  · exact absurd rfl hl
  · rw [h, if_pos rfl]; rfl
set_option maxRecDepth 10000 in
theorem decimal_at (N : Nat) (w : World) (hN : N < 9223372036854775808) : Calls Tryz.prog 8 #[.int .i64 (N : Int)] w fun e w' => e = .returned (.string (tx (Lib.itoa (N : Int)))) ∧ Bl w w' := by
  go_enter Tryz.func8, Tryz.ntmps8
  go_wp2
  go_loopw [0, 3] (fun nv sv wr => ∃ (m : Nat) (l : List UInt8), m ≤ N ∧ nv = .int .i64 (m : Int) ∧ sv = .string (tx l) ∧ Hid (Dn N m l ∧ Bl w wr)) (fun nv sv _ => 2 * (intOf nv).toNat + (1 - szOf sv))
  case atStart => exact ⟨N, [], Nat.le_refl _, rfl, rfl, Or.inl ⟨rfl, rfl⟩, Bl.refl _⟩
  case round =>
    obtain ⟨m, l, hm, rfl, rfl, HD⟩ := hrel
    have hl := HD.out.1.len (by omega)
    have hts : (tx l).size ≤ 20 := by rw [tx_size]; exact hl
    have hcv : (convert 52 9 (.slice (some { block := wr.heap.size, off := 0 }) 1 1)).run Tryz.prog (wr.alloc (.cells #[.int .u8 (48 + (m : Int) % 10)] 5)) = .ok (.string (tx [UInt8.ofNat (48 + m % 10)])) (wr.alloc (.cells #[.int .u8 (48 + (m : Int) % 10)] 5)) := by
      have e : strOfNums [48 + (m : Int) % 10] = tx [UInt8.ofNat (48 + m % 10)] := by
        unfold strOfNums tx
        congr 1
      rw [← e]
      refine run_convert_bytes_arg _ 52 5 Tryz.underlying52 Tryz.underlying5 _ 0 1 1 [48 + (m : Int) % 10] rfl (fun i hi => ?_) 9 Tryz.underlying9
      obtain rfl : i = 0 := by omega
      rw [cell_of (new_at wr _)]
      rfl
    have hcz : (convert 52 9 (.slice (some { block := wr.heap.size, off := 0 }) 1 1)).run Tryz.prog (wr.alloc (.cells #[.int .u8 48] 5)) = .ok (.string (tx [48])) (wr.alloc (.cells #[.int .u8 48] 5)) := by
      refine run_convert_bytes_arg _ 52 5 Tryz.underlying52 Tryz.underlying5 _ 0 1 1 [48] rfl (fun i hi => ?_) 9 Tryz.underlying9
      obtain rfl : i = 0 := by omega
      rw [cell_of (new_at wr _)]
      rfl
    by_cases h0 : 0 < m
    · have d1 : decide ((0 : Int) < (m : Int)) = true := decide_eq_true (by omega)
      obtain ⟨q, hq⟩ : ∃ q, q = m / 10 := ⟨_, rfl⟩
      have hq' : (m : Int) / 10 = (q : Int) := by omega
      obtain ⟨c, hc⟩ : ∃ c, c = UInt8.ofNat (48 + m % 10) := ⟨_, rfl⟩
      have HQ : Hid (Dn N q (c :: l)) := by rw [hq, hc]; exact HD.out.1.on (Or.inl h0)
      have hqm : q < m := by omega
      rw [← hc] at hcv
      clear hcz hq hc
      have hc1 : (tx [c]).size = 1 := by rw [tx_size]; rfl
      obtain ⟨U, hU⟩ : ∃ U, U = tx [c] := ⟨_, rfl⟩
      have HU : Hid (U = tx [c]) := hU
      rw [← hU] at hcv hc1
      clear hU
      go_wp2
      go_roundw
      case rel => exact ⟨q, c :: l, by omega, by go_num, by rw [HU.out, tx_app]; rfl, HQ.out, HD.out.2.trans ((Bl.refl _).alloc _)⟩
      case measure => simp [intOf, szOf]; omega
    · obtain rfl : m = 0 := by omega
      cases l with
      | nil =>
        clear hcv
        have h00 : (0 : Int) / 10 = 0 := by decide
        have hem : (tx ([] : List UInt8)).toList.isEmpty = true := by rw [ByteArray.toList_eq]; rfl
        go_wp2
        go_roundw
        case rel => exact ⟨0, [48], by omega, by go_num, rfl, HD.out.1.on (Or.inr rfl), HD.out.2.trans ((Bl.refl _).alloc _)⟩
        case measure => show 2 * 0 + (1 - (tx [48] ++ tx []).size) < 2 * 0 + (1 - (tx []).size); decide
      | cons c r =>
        have hne : (tx (c :: r)).toList.isEmpty = false := by rw [ByteArray.toList_eq]; rfl
        clear hcv hcz
        have HR := HD.out.1.done (by simp)
        have HR' : Hid (tx (c :: r) = tx (Lib.itoa (N : Int))) := by rw [itoa_pos _ (by omega)]; show tx _ = tx (Lib.decDigits ((N : Int).toNat)); rw [Int.toNat_natCast, ← HR]
        generalize tx (c :: r) = S at *
        clear HR
        go_wp2
        go_ret
        exact ⟨by rw [← HR'.out]; rfl, HD.out.2⟩
end Go.Proofs.YtpanodaecjlgaabGreatDoor.ex
/- The law on a struct more at the end: the walk. -/
namespace Go.Proofs.YtpanodaecjlgaabGreatDoor.tm
set_option linter.unusedVariables false
open Go.ChangeShapes Go.WideShapes Go.ChangeAt Go.RowKit Go.Shelf
open mem lx ex

/-- What Tell says of what Check answered. -/
def tellQ (q : Option (Int × Nat)) : Int := match q with | none => 0 | some cp => cp.1
theorem tell_code {p q : Option (Int × Nat)} (h : code p = code q) : tellQ p = tellQ q := by
  unfold code at h
  cases p <;> cases q <;> simp at h
  · rfl
  · exact h
theorem CkA.tell {w w' : World} {q : Option (Int × Nat)} {e : Ending} (h : CkA w q e w') (hl : ∀ wx, Bl w wx → errs.Laid wx) : Bl w w' ∧ ∃ ev, e = .returned ev ∧ ∀ wx, Bl w' wx → Calls Tryz.prog 9 #[ev] wx fun e w'' => e = .returned (.int .i64 (tellQ q)) ∧ Bl wx w'' := by
  obtain ⟨hb, h⟩ := h
  refine ⟨hb, ?_⟩
  cases q with
  | none =>
    refine ⟨_, h, fun wx hx => (errs.tell_nil wx).mono ?_⟩
    rintro e w'' ⟨rfl, rfl⟩
    exact ⟨rfl, Bl.refl _⟩
  | some cp =>
    obtain ⟨c, p⟩ := cp
    obtain ⟨A, h1, _, h3⟩ := h
    refine ⟨_, h1, fun wx hx => (errs.tell_at c A wx (hl wx (hb.trans hx)) (at_bl hx (by rw [cell_of h3]; rfl))).mono ?_⟩
    rintro e w'' ⟨rfl, hgb⟩
    exact ⟨rfl, hgb.bl⟩
theorem zLn_app (a : List Ty) : ∀ i b, zLn i (a ++ b) = zLn i a ++ zLn (i + a.length) b := by
  induction a with
  | nil => intro i b; rfl
  | cons t a ih =>
    intro i b
    rw [List.cons_append, zLn, zLn, ih, List.length_cons, show i + 1 + a.length = i + (a.length + 1) by omega]
    simp only [List.append_assoc]
theorem zLn_step (l : List Ty) (j : Nat) (t : Ty) (h : l[j]? = some t) : zLn 0 (l.take (j + 1)) = zLn 0 (l.take j) ++ (t.nm ++ [32, 122, 122] ++ Lib.itoa (j : Int) ++ [91, 110, 93, 59, 10]) := by
  obtain ⟨hj, he⟩ := List.getElem?_eq_some_iff.1 h
  rw [List.take_add_one, h]
  show zLn 0 (l.take j ++ [t]) = _
  rw [zLn_app, List.length_take, Nat.min_eq_left (by omega), Nat.zero_add]
  show zLn 0 (l.take j) ++ ((t.nm ++ [32, 122, 122] ++ Lib.itoa (j : Int) ++ [91, 110, 93, 59, 10]) ++ []) = _
  rw [List.append_nil]
theorem zLn_len (l : List Ty) : ∀ i, i + l.length ≤ 8 → (∀ t ∈ l, t.nm.length ≤ 12) → (zLn i l).length ≤ 30 * l.length := by
  induction l with
  | nil => intro i _ _; exact Nat.zero_le _
  | cons t l ih =>
    intro i hi hn
    rw [List.length_cons] at hi
    have h1 := ih (i + 1) (by omega) (fun u hu => hn u (by simp [hu]))
    have h2 := hn t (by simp)
    rw [zLn, itoa_small i (by omega)]
    simp only [List.length_append, List.length_cons, List.length_nil]
    omega
set_option maxRecDepth 10000 in
set_option maxHeartbeats 4000000 in
theorem more_at (a0 : ByteArray) (w : World) (hG : Gt w) (hM : co.Ml w) :
    Calls Tryz.prog 3 #[.string a0] w fun e w' => e = .returned (.bool true) ∧ Below w.heap.size w w' := by
  have cF := boxed_at w hG
  have cL := long_at a0
  have HG : Hid (Gt w ∧ co.Ml w) := ⟨hG, hM⟩
  clear hG hM
  go_enter Tryz.func3, Tryz.ntmps3
  go_wp2_with fail
  refine cF.mono ?_
  rintro e w1 ⟨⟨v0, rfl⟩, hb1⟩
  by_cases hs : 900 < a0.size
  · rw [decide_eq_true hs] at cL
    go_wp2_with fail
    refine (cL _).mono ?_
    rintro e w3 ⟨rfl, rfl⟩
    go_wp2
    go_ret
    exact ⟨rfl, hb1⟩
  rw [decide_eq_false hs] at cL
  have cP := Parse_at a0 w1 (by omega) (HG.out.1.bl hb1)
  go_wp2_with fail
  refine (cL _).mono ?_
  rintro e w3 ⟨rfl, rfl⟩
  go_wp2_with fail
  refine cP.mono ?_
  rintro e w4 ⟨hb4, hans⟩
  have HB4 : Hid (Bl w w4) := hb1.trans hb4
  clear hb1 hb4 cP cL cF
  cases hp : prT (L a0) with
  | error cp =>
    obtain ⟨c, p⟩ := cp
    rw [hp] at hans
    obtain ⟨B, rfl, _, _⟩ := hans
    unfold atV
    go_wp2
    go_ret
    exact ⟨rfl, HB4.out⟩
  | ok x =>
    rw [hp] at hans
    obtain ⟨v, rfl, hv⟩ := hans
    obtain ⟨xp, xc, xcs, rfl, hlie, hrep⟩ := hv
    have HX : Hid (prT (L a0) = .ok x ∧ IsTs w4 (fun g => w3.heap.size ≤ g) (.slice xp x.length xc) x ∧ sr.Lie w4 (fun g => w3.heap.size ≤ g) xp x.length xc xcs ∧ RepT w4 (fun g => w3.heap.size ≤ g) x xcs) := ⟨hp, ⟨xp, xc, xcs, rfl, hlie, hrep⟩, hlie, hrep⟩
    obtain ⟨n, hn⟩ : ∃ n, n = x.length := ⟨_, rfl⟩
    rw [← hn]
    have HN : Hid (n = x.length) := hn
    clear hp hlie hrep hn
    by_cases h8 : 8 ≤ n
    · have h8' : (8 : Int) ≤ (n : Int) := by omega
      go_wp2
      go_ret
      exact ⟨rfl, HB4.out⟩
    have h8' : ¬ (8 : Int) ≤ (n : Int) := by omega
    have cC := co.has_at a0 ⟨#[122, 122]⟩ w4 (by omega) (HG.out.2.step HB4.out)
    go_wp2_with fail
    refine cC.mono ?_
    rintro e w5 ⟨rfl, hw5⟩
    obtain rfl := hw5.symm
    cases hz : Lib.contains (L a0) (L ⟨#[122, 122]⟩) with
    | true =>
      go_wp2
      go_ret
      exact ⟨rfl, HB4.out⟩
    | false =>
      have HZ : Hid (¬ ∃ p q, L a0 = p ++ zz ++ q) := by
        show ¬ _
        rw [← occ_iff]
        rw [show L ⟨#[122, 122]⟩ = zz from rfl] at hz
        rw [hz]
        decide
      obtain ⟨m0, m1⟩ : (∀ t ∈ x, t.nm.length ≤ 12) ∧ True := ⟨fun t ht => ((prT_told HX.out.1 (by rw [L_len]; omega)).2.1.2 t ht).1.2.2.1, trivial⟩
      have HM : Hid (∀ t ∈ x, t.nm.length ≤ 12) := m0
      obtain ⟨T0, hT0⟩ : ∃ T0, T0 = a0 ++ ⟨#[10, 115, 116, 114, 117, 99, 116, 32, 122, 122, 32, 123, 10, 117, 56, 32, 110, 59, 10]⟩ := ⟨_, rfl⟩
      have HT0 : Hid (T0 = tx (L a0 ++ 10 :: (zHd ++ zLn 0 (x.take 0)))) := by
        show T0 = _
        rw [hT0, ← tx_L a0, show (⟨#[10, 115, 116, 114, 117, 99, 116, 32, 122, 122, 32, 123, 10, 117, 56, 32, 110, 59, 10]⟩ : ByteArray) = tx (10 :: zHd) from rfl, tx_app, L_tx]
        simp [zLn]
      clear hz cC m0 m1
      go_upto_region 10 with fail
      rw [← hT0]
      clear hT0
      go_wp2
      go_loopw [7, 8] (fun tv iv wr => ∃ j : Nat, j ≤ n ∧ iv = .int .i64 (j : Int) ∧ tv = .string (tx (L a0 ++ 10 :: (zHd ++ zLn 0 (x.take j)))) ∧ Hid (Bl w4 wr)) (fun _ iv _ => n - (intOf iv).toNat)
      case atStart => exact ⟨0, Nat.zero_le _, rfl, by rw [HT0.out], Bl.refl _⟩
      case round =>
        obtain ⟨j, hj, rfl, rfl, HB⟩ := hrel
        have hTs : (tx (L a0 ++ 10 :: (zHd ++ zLn 0 (x.take j)))).size ≤ 2000 := by
          have h1 := zLn_len (x.take j) 0 (by rw [List.length_take, ← HN.out]; omega) (fun t ht => HM.out t (List.mem_of_mem_take ht))
          have h2 : (x.take j).length ≤ 8 := by rw [List.length_take, ← HN.out]; omega
          rw [tx_size, List.length_append, List.length_cons, List.length_append, L_len, show zHd.length = 18 from rfl]
          omega
        by_cases hjn : j < n
        · have d1 : decide ((j : Int) < (n : Int)) = true := decide_eq_true (by omega)
          have i0 : (0 : Int) ≤ (j : Int) := by omega
          have i1 : (j : Int) < (n : Int) := by omega
          obtain ⟨y, t, e1, e2, e3, _⟩ := HX.out.2.2.2.at j (by rw [← HN.out]; exact hjn)
          obtain ⟨X, rfl, _, g0', g⟩ := lieT_at HX.out.2.2.1 j y e1
          have g0 : w4.cell? (X.add (j * 3)) = some (.string (tx y.nm)) := g0'
          have g1 : wr.cell? (X.add (j * 3)) = some (.string (tx y.nm)) := at_bl HB.out g0
          have cD := fun wx => decimal_at j wx (by omega)
          rw [e3] at g1
          obtain ⟨NMs, hNM⟩ : ∃ NMs, NMs = tx t.nm := ⟨_, rfl⟩
          obtain ⟨DC, hDC⟩ : ∃ DC, DC = tx (Lib.itoa (j : Int)) := ⟨_, rfl⟩
          obtain ⟨T, hT⟩ : ∃ T, T = tx (L a0 ++ 10 :: (zHd ++ zLn 0 (x.take j))) := ⟨_, rfl⟩
          have hNMs : NMs.size ≤ 12 := by rw [hNM, tx_size]; exact HM.out t (List.mem_of_getElem? e2)
          have hDCs : DC.size ≤ 1 := by rw [hDC, tx_size, itoa_small j (by omega)]; exact Nat.le_refl _
          rw [← hNM] at g1
          rw [← hDC] at cD
          rw [← hT] at hTs ⊢
          have HS : Hid (T ++ (NMs ++ ⟨#[32, 122, 122]⟩ ++ DC ++ ⟨#[91, 110, 93, 59, 10]⟩) = tx (L a0 ++ 10 :: (zHd ++ zLn 0 (x.take (j + 1))))) := by
            show _ = _
            rw [zLn_step x j t e2, hT, hNM, hDC, show (⟨#[32, 122, 122]⟩ : ByteArray) = tx [32, 122, 122] from rfl, show (⟨#[91, 110, 93, 59, 10]⟩ : ByteArray) = tx [91, 110, 93, 59, 10] from rfl, tx_app, tx_app, tx_app, tx_app]
            simp
          have HBD : Hid (Bl wr wr.drew) := (Bl.refl _).drew
          have k1 : ¬ 9223372036854775807 < NMs.size + 3 := by omega
          have k2 : ¬ 9223372036854775807 < NMs.size + 3 + DC.size := by omega
          have k3 : ¬ 9223372036854775807 < NMs.size + 3 + DC.size + 5 := by omega
          have k4 : ¬ 9223372036854775807 < T.size + (NMs.size + 3 + DC.size + 5) := by omega
          clear e1 e2 e3 g g0' g0 hNM hDC hT
          go_upto_region 13 with fail
          go_region_held3 (fun w' => w'.cell? (X.add (j * 3)) = some (.string NMs)) (first | assumption | exact at_bl ((Bl.refl _).drew) g1 | exact at_bl HB6.out g1)
            (first
              | (go_at_call 8; (with_reducible refine (cD _).mono ?_); rintro e w6 ⟨rfl, hb6⟩; have HB6 : Hid (Bl wr w6) := HBD.out.trans hb6; clear hb6))
          all_goals
            go_wp2
            go_roundw
            case rel => exact ⟨j + 1, by omega, by go_num, by rw [HS.out], HB.out.trans HB6.out⟩
            case measure => simp [intOf]; omega
        · have d1 : decide ((j : Int) < (n : Int)) = false := decide_eq_false (by omega)
          have hjx : x.take j = x := List.take_of_length_le (by rw [← HN.out]; omega)
          rw [hjx] at hTs ⊢
          obtain ⟨z, hz1, hz2⟩ := prT_zz HX.out.1 (by rw [L_len]; omega) (by rw [← HN.out]; omega) HZ.out
          obtain ⟨T, hT⟩ : ∃ T, T = tx (L a0 ++ 10 :: (zHd ++ zLn 0 x)) := ⟨_, rfl⟩
          have hLT : L (T ++ ⟨#[125, 10]⟩) = L a0 ++ 10 :: (zHd ++ zLn 0 x ++ [125, 10]) := by
            rw [hT, L_app, L_tx, show L ⟨#[125, 10]⟩ = [125, 10] from rfl]
            simp
          have HT : Hid (prT (L (T ++ ⟨#[125, 10]⟩)) = .ok z ∧ tellQ (chk z) = tellQ (chk x) ∧ (L (T ++ ⟨#[125, 10]⟩)).length ≤ 3000) := by
            refine ⟨by rw [hLT]; exact hz1, tell_code hz2, ?_⟩
            rw [L_len, ByteArray.size_append, hT]
            show _ + 2 ≤ 3000
            omega
          rw [← hT] at hTs ⊢
          have HW : Hid (Bl w wr) := HB4.out.trans HB.out
          have cT := Parse_at (T ++ ⟨#[125, 10]⟩) wr (by rw [ByteArray.size_append]; show _ + 2 ≤ 3000; omega) (HG.out.1.bl HW.out)
          clear hT hjx hz1 hz2 hLT
          go_wp2_with fail
          refine cT.mono ?_
          rintro e w6 ⟨hb6, hans⟩
          rw [HT.out.1] at hans
          obtain ⟨v, rfl, hv⟩ := hans
          obtain ⟨yp, yn, yc, rfl⟩ : ∃ yp yn yc, v = .slice yp yn yc := by
            obtain ⟨p, c, cs, h1, _⟩ := hv
            exact ⟨_, _, _, h1⟩
          have hvx := (HX.out.2.1.bl HB.out).bl hb6
          rw [← HN.out] at hvx
          have hCx := (prT_told HX.out.1 (by rw [L_len]; omega)).1
          have hCy := (prT_told HT.out.1 HT.out.2.2).1
          have HW6 : Hid (Bl w w6) := HW.out.trans hb6
          have kY := Check_at z (.slice yp yn yc) w6 _ hv hCy
          have kX := fun wx (hb : Bl w6 wx) => Check_at x (.slice xp n xc) wx _ (hvx.bl hb) hCx
          clear hvx hCx hCy hv hb6 cT
          go_wp2_with fail
          refine kY.mono ?_
          rintro e w7 hans
          obtain ⟨hb7, ev, rfl, ht7⟩ := hans.tell (fun wx hx => (HG.out.1.bl (HW6.out.trans hx)).gd.er)
          obtain ⟨K, hK⟩ : ∃ K, tellQ (chk x) = K := ⟨_, rfl⟩
          rw [HT.out.2.1, hK] at ht7
          have HK : Hid (tellQ (chk x) = K) := hK
          clear hans kY hK
          have HB7 : Hid (Bl w w7 ∧ Bl w6 w7) := ⟨HW6.out.trans hb7, hb7⟩
          clear hb7
          go_wp2_with fail
          refine (ht7 _ (Bl.refl _)).mono ?_
          rintro e w8 ⟨rfl, hb8⟩
          have HB8 : Hid (Bl w w8 ∧ Bl w6 w8) := ⟨HB7.out.1.trans hb8, HB7.out.2.trans hb8⟩
          clear hb8 ht7
          go_wp2_with fail
          refine (kX _ HB8.out.2).mono ?_
          rintro e w9 hans
          obtain ⟨hb9, ev', rfl, ht9⟩ := hans.tell (fun wx hx => (HG.out.1.bl (HB8.out.1.trans hx)).gd.er)
          rw [HK.out] at ht9
          have HB9 : Hid (Bl w w9) := HB8.out.1.trans hb9
          clear hans hb9 kX
          go_wp2_with fail
          refine (ht9 _ (Bl.refl _)).mono ?_
          rintro e w10 ⟨rfl, hb10⟩
          have HB10 : Hid (Bl w w10) := HB9.out.trans hb10
          clear hb10 ht9
          go_wp2
          go_ret
          exact ⟨rfl, HB10.out⟩
end Go.Proofs.YtpanodaecjlgaabGreatDoor.tm
