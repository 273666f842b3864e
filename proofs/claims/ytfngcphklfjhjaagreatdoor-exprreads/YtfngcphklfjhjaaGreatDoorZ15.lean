/- Texts laid together: LaidX, LayK, Lr1. -/
import Derived.Test.YtfngcphklfjhjaaGreatDoorZ5
import Derived.Test.YtfngcphklfjhjaaGreatDoorZ14
import Derived.Test.YtfngcphklfjhjaaGreatDoorChecked
import Derived.Shelf.Strings.Search3
import Derived.Test.YtfngcphklfjhjaaGreatDoorZ6
import Derived.Laws.Rows
import Derived.Laws.ResultCell
import Derived.Deep.CutRange
/- What the row's condition on the tables, on the marks and on errors.errorType gives a walk; and a world that meets it. -/
namespace Go.Proofs.YtfngcphklfjhjaaGreatDoor.laidx
open Go.ChangeShapes Go.WideShapes Go.RowKit

/-- The list that the row lays. -/
def list : List (String × DataW Unit) := [("math/bits.deBruijn32tab", Rows.laid_math_bits_deBruijn32tab), ("math/bits.deBruijn64tab", Rows.laid_math_bits_deBruijn64tab), ("internal/strconv.uint64pow10", Rows.laid_internal_strconv_uint64pow10), ("errors.errorType", Rows.laid_errors_errorType), ("escritoire/lex.marks", Rows.laid_escritoire_lex_marks)]
def plain : List (String × DataW Unit) := [("math/bits.deBruijn32tab", Rows.laid_math_bits_deBruijn32tab), ("math/bits.deBruijn64tab", Rows.laid_math_bits_deBruijn64tab), ("internal/strconv.uint64pow10", Rows.laid_internal_strconv_uint64pow10), ("escritoire/lex.marks", Rows.laid_escritoire_lex_marks)]
set_option maxRecDepth 100000 in
theorem some_of : (list.filter fun x => x.2.handleName?.isSome) = laying.list := by kernel_rfl
set_option maxRecDepth 100000 in
theorem none_of : (list.filter fun x => x.2.handleName?.isNone) = plain := by kernel_rfl
theorem pow_is : (Rows.laid_internal_strconv_uint64pow10 : DataW Unit) = Lib.tabData .u64 Lib.pow10Tab := by kernel_rfl
theorem gt : (Tryz.prog.globals[3]?).map (·.type) = some 161 := by kernel_rfl
theorem pw_of {W : World} (h : Lib.VarReads Tryz.prog W "internal/strconv.uint64pow10" Rows.laid_internal_strconv_uint64pow10) : ex.Pw W ∧ 3 < W.heap.size := by
  rw [pow_is] at h
  obtain ⟨g, t, cs, fuel, p, hg, hty, hvar, hd⟩ := h
  obtain rfl := Option.some.inj (ex.gnP.symm.trans hg)
  obtain rfl := Option.some.inj (gt.symm.trans hty)
  have hP : ex.Pw W := by
    unfold ex.Pw Lib.TabIs
    rw [hvar, ← Lib.cells_of_tab Tryz.underlying161 Tryz.underlying79 (by kernel_rfl) (by kernel_rfl) hd]
  refine ⟨hP, ?_⟩
  have := Lib.TabIs.cell hP ex.gnP 0 (by decide)
  unfold World.cell? at this
  rcases Nat.lt_or_ge 3 W.heap.size with h | h
  · exact h
  · simp [Array.getElem?_eq_none h] at this
theorem of_laid {W : World} (h : laidMetH Tryz.prog list W) : ex.Gd W := by
  unfold laidMetH at h
  rw [some_of] at h
  have h' : laidMet Tryz.prog (list.filter fun x => x.2.handleName?.isNone) W ∧ handlesMet Tryz.prog laying.list W := h
  have h1 := h'.1
  rw [none_of] at h1
  obtain ⟨hp, hl⟩ := pw_of (Lib.laidMet.reads h1 (.tail _ (.tail _ (.head _))))
  exact ⟨laidm.marks_of_reads (Lib.laidMet.reads h1 (.tail _ (.tail _ (.tail _ (.head _))))), laying.handle_of_laid (show laidMetH Tryz.prog laying.list W from ⟨⟨[], rfl, List.nodup_nil, fun _ _ h => by cases h⟩, h'.2⟩), hp, hl⟩
theorem names_of : (plain.filter fun x => ["math/bits.deBruijn32tab", "math/bits.deBruijn64tab", "internal/strconv.uint64pow10", "escritoire/lex.marks"].contains x.1) = plain := by kernel_rfl
theorem names_not : (plain.filter fun x => !["math/bits.deBruijn32tab", "math/bits.deBruijn64tab", "internal/strconv.uint64pow10", "escritoire/lex.marks"].contains x.1) = [] := by kernel_rfl
set_option maxRecDepth 100000 in
theorem world_met (os : Os) (args : Array Value) : laidMetH Tryz.prog list ((World.layVars Tryz.prog (laying.layCell (World.holding Tryz.prog os ⟨#[], #[], []⟩)) plain).forCall (fun _ _ => 0) ⟨#[], args, []⟩).memory := by
  refine laidMetH_of_parts ?_ ?_
  · rw [none_of]
    refine laidMet_layVars (w0 := laying.layCell (World.holding Tryz.prog os ⟨#[], #[], []⟩)) ["math/bits.deBruijn32tab", "math/bits.deBruijn64tab", "internal/strconv.uint64pow10", "escritoire/lex.marks"] [] ?_ ?_ ?_ ?_
    · rw [names_of]; simp [World.memory, World.forCall, Input.heap]
    · rw [names_of]; kernel_rfl
    · rw [names_of]; kernel_rfl
    · rw [names_not]; exact LaidIn.none
  · rw [some_of]; kernel_rfl
end Go.Proofs.YtfngcphklfjhjaaGreatDoor.laidx
/- The library's own texts that a call comes to, as this program has them: laid on the shelf's. -/
namespace Go.Proofs.YtfngcphklfjhjaaGreatDoor.layK
open Go.Shelf
def rf : FuncId → FuncId
  | 143 => 68
  | 144 => 50
  | 217 => 101
  | 219 => 85
  | 224 => 103
  | 225 => 102
  | 266 => 111
  | 267 => 104
  | 314 => 112
  | x => x
def rt : TypeId → TypeId
  | 3 => 3
  | 4 => 4
  | 5 => 5
  | 9 => 9
  | 46 => 159
  | 51 => 162
  | 146 => 165
  | x => x
def rg : Nat → Nat
  | 1 => 2
  | x => x
def ren : Ren := ⟨rf, rt, rg⟩
set_option maxRecDepth 100000 in
theorem laid : Lays.n144 Tryz.prog ren where
  mixed := by kernel_rfl
  f143 := by kernel_rfl
  f144 := by kernel_rfl
  f217 := by kernel_rfl
  f219 := by kernel_rfl
  f224 := by kernel_rfl
  f225 := by kernel_rfl
  f266 := by kernel_rfl
  f267 := by kernel_rfl
  f314 := by kernel_rfl
  t3 := by kernel_rfl
  a3 := fun _ => by kernel_rfl
  z3 := fun _ => by kernel_rfl
  v3 := fun _ => by kernel_rfl
  t4 := by kernel_rfl
  a4 := fun _ => by kernel_rfl
  z4 := fun _ => by kernel_rfl
  v4 := fun _ => by kernel_rfl
  t5 := by kernel_rfl
  a5 := fun _ => by kernel_rfl
  z5 := fun _ => by kernel_rfl
  v5 := fun _ => by kernel_rfl
  t9 := by kernel_rfl
  a9 := fun _ => by kernel_rfl
  z9 := fun _ => by kernel_rfl
  v9 := fun _ => by kernel_rfl
  t46 := by kernel_rfl
  a46 := fun _ => by kernel_rfl
  z46 := fun _ => by kernel_rfl
  v46 := fun _ => by kernel_rfl
  t51 := by kernel_rfl
  a51 := fun _ => by kernel_rfl
  z51 := fun _ => by kernel_rfl
  v51 := fun _ => by kernel_rfl
  t146 := by kernel_rfl
  a146 := fun _ => by kernel_rfl
  z146 := fun _ => by kernel_rfl
  v146 := fun _ => by kernel_rfl
  g1 := by kernel_rfl
end Go.Proofs.YtfngcphklfjhjaaGreatDoor.layK
/- The document's letters, digits and names; no fault; one byte among others. -/
namespace Go.Proofs.YtfngcphklfjhjaaGreatDoor.lx
set_option linter.unusedVariables false
open Go.ChangeShapes Go.WideShapes Go.ChangeAt Go.RowKit
open mem

theorem refLetter_at (x : Int) (w : World) : Calls Tryz.prog 48 #[.int .u8 x] w fun e w' => e = .returned (.bool (lt x)) ∧ w' = w := by
  go_enter Tryz.func48, Tryz.ntmps48
  go_wp2
  all_goals
    go_ret
    refine ⟨ret_bool ?_, rfl⟩
    rw [Bool.eq_iff_iff]
    simp [lt]
    try omega
theorem refDigit_at (x : Int) (w : World) : Calls Tryz.prog 49 #[.int .u8 x] w fun e w' => e = .returned (.bool (dg x)) ∧ w' = w := by
  go_enter Tryz.func49, Tryz.ntmps49
  go_wp2
  all_goals
    go_ret
    refine ⟨ret_bool ?_, rfl⟩
    rw [Bool.eq_iff_iff]
    simp [dg]
    try omega
theorem IsName_at (s : ByteArray) (w : World) : Calls Tryz.prog 54 #[.string s] w fun e w' => e = .returned (.bool (nmb (L s))) ∧ w' = w := by
  by_cases h0 : 0 < s.size
  · have e1 : (((s[0]'h0).toNat : Nat) : Int) = sb s 0 := (sb_get s 0 h0).symm
    have c1 := refLetter_at (sb s 0)
    have hnm : lt (sb s 0) = nmb (L s) := by
      unfold nmb
      have := L_get s 0 h0
      rw [List.head?_eq_getElem?, this, sb_get s 0 h0]
      rfl
    rw [hnm] at c1
    have hne : (s.toList == []) = false := by
      rw [beq_eq_false_iff_ne, ByteArray.toList_eq]
      intro e
      have := congrArg List.length e
      simp at this
      have h3 : s.size = 0 := by simpa using this
      omega
    go_enter Tryz.func54, Tryz.ntmps54
    go_wp2_with fail
    refine (c1 _).mono ?_
    rintro e w' ⟨rfl, rfl⟩
    go_wp2
    go_ret
    exact ⟨rfl, rfl⟩
  · obtain rfl : s = ⟨#[]⟩ := by
      have h : s.size = 0 := by omega
      exact L_inj (List.eq_nil_of_length_eq_zero (by rw [L_len]; exact h))
    go_enter Tryz.func54, Tryz.ntmps54
    go_wp2
    go_ret
    exact ⟨rfl, rfl⟩
def flt (c p : Int) : Value := .agg #[.int .i64 c, .int .i64 p]
theorem infoF : (Tryz.prog.info? 27).map (·.size) = some 2 := by kernel_rfl
theorem ldF (w : World) (B : Nat) (x y : Value) (h : w.heap[B]? = some (.cells #[x, y] 27 (0, 0))) : (loadVar 27 ⟨B, 0, none⟩).run Tryz.prog w = .ok (.agg #[x, y]) w :=
  run_loadVar_mid w B 0 27 [x, y] _ (fun j v hv => by
    rcases j with _ | _ | j
    · simp at hv; subst hv; rw [cell_of h]; rfl
    · simp at hv; subst hv; rw [cell_of h]; rfl
    · simp at hv) Tryz.underlying27 rfl infoF
theorem Good_at (w : World) : Calls Tryz.prog 19 #[] w fun e w' => e = .returned (flt 0 (-1)) ∧ Bl w w' := by
  go_enter Tryz.func19, Tryz.ntmps19
  go_wp2
  exact bodyPost_ret (v := flt 0 (-1)) (results_cell_row rfl _ _ w.heap.size 27 #[.int .i64 0, .int .i64 (-1)] (0, 0) _ rfl (new_at w _) Tryz.underlying27 rfl infoF) rfl ⟨rfl, (Bl.refl _).alloc _⟩
set_option maxRecDepth 100000 in
theorem one_byte (c : UInt8) (w : World) : Calls Tryz.prog 50 #[.string ⟨#[123, 125, 91, 93, 40, 41, 59, 44, 61, 43, 45, 42, 38, 124, 60, 62]⟩, .string ⟨#[c]⟩] w fun e w' => e = .returned (.bool (isM c)) ∧ w' = w := by
  have h := Any.strings_Contains_one layK.laid ⟨#[123, 125, 91, 93, 40, 41, 59, 44, 61, 43, 45, 42, 38, 124, 60, 62]⟩ c w
  have e : decide (0 ≤ Lib.indexByte (ByteArray.mk #[123, 125, 91, 93, 40, 41, 59, 44, 61, 43, 45, 42, 38, 124, 60, 62]).data.toList c) = isM c := by
    have key : ∀ c : Fin 256, decide (0 ≤ Lib.indexByte (ByteArray.mk #[123, 125, 91, 93, 40, 41, 59, 44, 61, 43, 45, 42, 38, 124, 60, 62]).data.toList (UInt8.ofNat c.1)) = isM (UInt8.ofNat c.1) := by decide
    have := key ⟨c.toNat, c.toNat_lt⟩
    simp only [UInt8.ofNat_toNat] at this
    exact this
  rw [e] at h
  exact h
theorem has_at (s : ByteArray) (I : Nat) (t : List UInt8) (w : World) : Calls Tryz.prog 51 #[.string (s.extract I s.size), .string (tx t)] w fun e w' => e = .returned (.bool (t.isPrefixOf ((L s).drop I))) ∧ w' = w := by
  have e1 : (s.extract I s.size).data.toList = (L s).drop I := by
    have := L_ext s I s.size
    rw [List.take_of_length_le (by rw [L_len]; exact Nat.le_refl _)] at this
    exact this
  have c := Any.strings_HasPrefix layP.laid (s.extract I s.size) (tx t) w
  rw [e1] at c
  exact c
end Go.Proofs.YtfngcphklfjhjaaGreatDoor.lx
