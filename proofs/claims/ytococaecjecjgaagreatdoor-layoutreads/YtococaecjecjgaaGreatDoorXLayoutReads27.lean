/- Texts laid together: LbC, LbD, LbE, LayK, Lr1. -/
import Derived.Test.YtococaecjecjgaaGreatDoorXLayoutReads26
import Derived.Test.YtococaecjecjgaaGreatDoorChecked
import Derived.Shelf.Strings.Search3
import Derived.Test.YtococaecjecjgaaGreatDoorXLayoutReads4
import Derived.Laws.Rows
import Derived.Laws.ResultCell
import Derived.Deep.CutRange
namespace Go.Proofs.YtococaecjecjgaaGreatDoor.ly
set_option linter.unusedVariables false
open Go.ChangeShapes Go.WideShapes Go.ChangeAt Go.RowKit Go.Shelf
open mem lx ex tm num

def Nds.at : Nds → Nat → Option (ND × Nds)
  | .nil, _ => none
  | .cons d s t, 0 => some (d, s)
  | .cons d s t, k + 1 => t.at k
theorem RepN.at {w : World} {ok : Nat → Prop} {ks : Nds} : ∀ {cs : List CN} {k : Nat} {d : ND} {s : Nds}, RepN w ok ks cs → ks.at k = some (d, s) → ∃ x, cs[k]? = some x ∧ x.d = d ∧ IsNs w ok x.p x.n x.c s := by
  induction ks with
  | nil => intro cs k d s _ h; cases h
  | cons d' s' t _ it =>
    intro cs k d s h hk
    obtain ⟨c, r, rfl, h2, h4, h6⟩ := h
    cases k with
    | zero =>
      rw [Nds.at] at hk
      injection hk with hk
      simp only [Prod.mk.injEq] at hk
      obtain ⟨rfl, rfl⟩ := hk
      exact ⟨c, rfl, h2, h4⟩
    | succ k =>
      rw [Nds.at] at hk
      obtain ⟨x, g1, g2⟩ := it h6 hk
      exact ⟨x, by simpa using g1, g2⟩
theorem is_kid {w : World} {ok : Nat → Prop} {p : Option Addr} {n c : Nat} {ks : Nds} (h : IsNs w ok p n c ks) (k : Nat) {d : ND} {s : Nds} (hk : ks.at k = some (d, s)) :
    ∃ (g : Nat) (x : CN), p = some ⟨g, 0, none⟩ ∧ x.d = d ∧ (∀ j u, (cl x)[j]? = some u → w.cell? ⟨g, k * 7 + j, none⟩ = some u) ∧ IsNs w ok x.p x.n x.c s := by
  obtain ⟨cs, h1, h2⟩ := h
  obtain ⟨x, g1, g2, g3⟩ := h2.at hk
  obtain ⟨_, _, h3 | ⟨g, e, _, _, h6⟩⟩ := h1
  · rw [h3] at g1; cases g1
  · refine ⟨g, x, e, g2, fun j u hu => ?_, g3⟩
    have hj : j < 7 := by
      have := (List.getElem?_eq_some_iff.1 hu).1
      rw [nr.cl_len] at this
      exact this
    obtain ⟨hjl, e2⟩ := List.getElem?_eq_some_iff.1 g1
    exact h6 _ _ (by rw [nr.rowE_get cs k hjl j hj, e2]; exact hu)
end Go.Proofs.YtococaecjecjgaaGreatDoor.ly


namespace Go.Proofs.YtococaecjecjgaaGreatDoor.layK
open Go.Shelf
def rf : FuncId → FuncId
  | 143 => 110
  | 144 => 71
  | 217 => 165
  | 219 => 141
  | 224 => 167
  | 225 => 166
  | 266 => 184
  | 267 => 168
  | 314 => 185
  | x => x
def rt : TypeId → TypeId
  | 3 => 3
  | 4 => 4
  | 5 => 5
  | 9 => 9
  | 46 => 85
  | 51 => 260
  | 146 => 261
  | x => x
def rg : Nat → Nat
  | 1 => 4
  | x => x
def ren : Ren := ⟨rf, rt, rg⟩
set_option maxRecDepth 100000 in
theorem laid : Lays.n144 Tryz.prog ren where
  mixed := by kernel_rfl
  f143 := by kernel_rfl
  f144 := by kernel_rfl
  f217 := by kernel_rfl
  f219 := by kernel_rfl
  f224 := by kernel_rfl
  f225 := by kernel_rfl
  f266 := by kernel_rfl
  f267 := by kernel_rfl
  f314 := by kernel_rfl
  t3 := by kernel_rfl
  a3 := fun _ => by kernel_rfl
  z3 := fun _ => by kernel_rfl
  v3 := fun _ => by kernel_rfl
  t4 := by kernel_rfl
  a4 := fun _ => by kernel_rfl
  z4 := fun _ => by kernel_rfl
  v4 := fun _ => by kernel_rfl
  t5 := by kernel_rfl
  a5 := fun _ => by kernel_rfl
  z5 := fun _ => by kernel_rfl
  v5 := fun _ => by kernel_rfl
  t9 := by kernel_rfl
  a9 := fun _ => by kernel_rfl
  z9 := fun _ => by kernel_rfl
  v9 := fun _ => by kernel_rfl
  t46 := by kernel_rfl
  a46 := fun _ => by kernel_rfl
  z46 := fun _ => by kernel_rfl
  v46 := fun _ => by kernel_rfl
  t51 := by kernel_rfl
  a51 := fun _ => by kernel_rfl
  z51 := fun _ => by kernel_rfl
  v51 := fun _ => by kernel_rfl
  t146 := by kernel_rfl
  a146 := fun _ => by kernel_rfl
  z146 := fun _ => by kernel_rfl
  v146 := fun _ => by kernel_rfl
  g1 := by kernel_rfl
end Go.Proofs.YtococaecjecjgaaGreatDoor.layK
namespace Go.Proofs.YtococaecjecjgaaGreatDoor.lx
set_option linter.unusedVariables false
open Go.ChangeShapes Go.WideShapes Go.ChangeAt Go.RowKit
open mem

theorem refLetter_at (x : Int) (w : World) : Calls Tryz.prog 107 #[.int .u8 x] w fun e w' => e = .returned (.bool (lt x)) ∧ w' = w := by
  go_enter Tryz.func107, Tryz.ntmps107
  go_wp2
  all_goals
    go_ret
    refine ⟨ret_bool ?_, rfl⟩
    rw [Bool.eq_iff_iff]
    simp [lt]
    try omega
theorem refDigit_at (x : Int) (w : World) : Calls Tryz.prog 108 #[.int .u8 x] w fun e w' => e = .returned (.bool (dg x)) ∧ w' = w := by
  go_enter Tryz.func108, Tryz.ntmps108
  go_wp2
  all_goals
    go_ret
    refine ⟨ret_bool ?_, rfl⟩
    rw [Bool.eq_iff_iff]
    simp [dg]
    try omega
theorem IsName_at (s : ByteArray) (w : World) : Calls Tryz.prog 69 #[.string s] w fun e w' => e = .returned (.bool (nmb (L s))) ∧ w' = w := by
  by_cases h0 : 0 < s.size
  · have e1 : (((s[0]'h0).toNat : Nat) : Int) = sb s 0 := (sb_get s 0 h0).symm
    have c1 := refLetter_at (sb s 0)
    have hnm : lt (sb s 0) = nmb (L s) := by
      unfold nmb
      have := L_get s 0 h0
      rw [List.head?_eq_getElem?, this, sb_get s 0 h0]
      rfl
    rw [hnm] at c1
    have hne : (s.toList == []) = false := by
      rw [beq_eq_false_iff_ne, ByteArray.toList_eq]
      intro e
      have := congrArg List.length e
      simp at this
      have h3 : s.size = 0 := by simpa using this
      omega
    go_enter Tryz.func69, Tryz.ntmps69
    go_wp2_with fail
    refine (c1 _).mono ?_
    rintro e w' ⟨rfl, rfl⟩
    go_wp2
    go_ret
    exact ⟨rfl, rfl⟩
  · obtain rfl : s = ⟨#[]⟩ := by
      have h : s.size = 0 := by omega
      exact L_inj (List.eq_nil_of_length_eq_zero (by rw [L_len]; exact h))
    go_enter Tryz.func69, Tryz.ntmps69
    go_wp2
    go_ret
    exact ⟨rfl, rfl⟩
def flt (c p : Int) : Value := .agg #[.int .i64 c, .int .i64 p]
theorem infoF : (Tryz.prog.info? 30).map (·.size) = some 2 := by kernel_rfl
theorem ldF (w : World) (B : Nat) (x y : Value) (h : w.heap[B]? = some (.cells #[x, y] 30 (0, 0))) : (loadVar 30 ⟨B, 0, none⟩).run Tryz.prog w = .ok (.agg #[x, y]) w :=
  run_loadVar_mid w B 0 30 [x, y] _ (fun j v hv => by
    rcases j with _ | _ | j
    · simp at hv; subst hv; rw [cell_of h]; rfl
    · simp at hv; subst hv; rw [cell_of h]; rfl
    · simp at hv) Tryz.underlying30 rfl infoF
theorem Good_at (w : World) : Calls Tryz.prog 21 #[] w fun e w' => e = .returned (flt 0 (-1)) ∧ Bl w w' := by
  go_enter Tryz.func21, Tryz.ntmps21
  go_wp2
  exact bodyPost_ret (v := flt 0 (-1)) (results_cell_row rfl _ _ w.heap.size 30 #[.int .i64 0, .int .i64 (-1)] (0, 0) _ rfl (new_at w _) Tryz.underlying30 rfl infoF) rfl ⟨rfl, (Bl.refl _).alloc _⟩
set_option maxRecDepth 100000 in
theorem one_byte (c : UInt8) (w : World) : Calls Tryz.prog 71 #[.string ⟨#[123, 125, 91, 93, 40, 41, 59, 44, 61, 43, 45, 42, 38, 124, 60, 62]⟩, .string ⟨#[c]⟩] w fun e w' => e = .returned (.bool (isM c)) ∧ w' = w := by
  have h := Any.strings_Contains_one layK.laid ⟨#[123, 125, 91, 93, 40, 41, 59, 44, 61, 43, 45, 42, 38, 124, 60, 62]⟩ c w
  have e : decide (0 ≤ Lib.indexByte (ByteArray.mk #[123, 125, 91, 93, 40, 41, 59, 44, 61, 43, 45, 42, 38, 124, 60, 62]).data.toList c) = isM c := by
    have key : ∀ c : Fin 256, decide (0 ≤ Lib.indexByte (ByteArray.mk #[123, 125, 91, 93, 40, 41, 59, 44, 61, 43, 45, 42, 38, 124, 60, 62]).data.toList (UInt8.ofNat c.1)) = isM (UInt8.ofNat c.1) := by decide
    have := key ⟨c.toNat, c.toNat_lt⟩
    simp only [UInt8.ofNat_toNat] at this
    exact this
  rw [e] at h
  exact h
theorem has_at (s : ByteArray) (I : Nat) (t : List UInt8) (w : World) : Calls Tryz.prog 109 #[.string (s.extract I s.size), .string (tx t)] w fun e w' => e = .returned (.bool (t.isPrefixOf ((L s).drop I))) ∧ w' = w := by
  have e1 : (s.extract I s.size).data.toList = (L s).drop I := by
    have := L_ext s I s.size
    rw [List.take_of_length_le (by rw [L_len]; exact Nat.le_refl _)] at this
    exact this
  have c := Any.strings_HasPrefix layP.laid (s.extract I s.size) (tx t) w
  rw [e1] at c
  exact c
end Go.Proofs.YtococaecjecjgaaGreatDoor.lx
