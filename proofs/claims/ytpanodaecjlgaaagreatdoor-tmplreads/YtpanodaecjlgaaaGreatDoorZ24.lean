/- Texts laid together: LaidR, LayK, Lr1, Er1. -/
import Derived.Test.YtpanodaecjlgaaaGreatDoorZ11
import Derived.Test.YtpanodaecjlgaaaGreatDoorZ23
import Derived.Test.YtpanodaecjlgaaaGreatDoorChecked
import Derived.Shelf.Strings.Search3
import Derived.Test.YtpanodaecjlgaaaGreatDoorZ5
import Derived.Laws.Rows
import Derived.Laws.ResultCell
import Derived.Deep.CutRange
/- What the row's condition on the words of tmpl gives a walk. -/
namespace Go.Proofs.YtpanodaecjlgaaaGreatDoor.laidr
open Go.ChangeShapes Go.WideShapes Go.RowKit
open mem lx ex

theorem gnR : Tryz.prog.globalNamed "escritoire/tmpl.rules" = some 2 := by kernel_rfl
theorem gtR : (Tryz.prog.globals[2]?).map (·.type) = some 154 := by kernel_rfl
theorem gnN : Tryz.prog.globalNamed "escritoire/tmpl.nums" = some 0 := by kernel_rfl
theorem gtN : (Tryz.prog.globals[0]?).map (·.type) = some 105 := by kernel_rfl
theorem c9 : Tryz.prog.cellsOf 9 = 1 := by kernel_rfl
theorem cN : Tryz.prog.cellsOf 104 = 4 := by kernel_rfl
theorem c3 : Tryz.prog.cellsOf 3 = 1 := by kernel_rfl
theorem c4 : Tryz.prog.cellsOf 4 = 1 := by kernel_rfl
def words : List (List UInt8) := [[], tm.wSize, tm.wCount, tm.wCheck]
theorem rules_is : (Rows.laid_escritoire_tmpl_rules : DataW Unit) = .agg (words.map fun t => .lit (.string t)) := by kernel_rfl
theorem nums_is : (Rows.laid_escritoire_tmpl_nums : DataW Unit) = .agg (tm.numW.map fun p => .agg [.lit (.string p.1), .lit (.int .i64 (p.2.1 : Int)), .lit (.int .i64 (p.2.2.1 : Int)), .lit (.bool p.2.2.2)]) := by kernel_rfl
theorem rules_of {W : World} (h1 : Lib.VarReads Tryz.prog W "escritoire/tmpl.rules" Rows.laid_escritoire_tmpl_rules) : W.rangeAt 2 0 tm.ruL := by
  rw [rules_is] at h1
  obtain ⟨g, t, cs, fuel, p, hg, hty, hvar, hd⟩ := h1
  obtain rfl := Option.some.inj (gnR.symm.trans hg)
  obtain rfl := Option.some.inj (gtR.symm.trans hty)
  intro j v hv
  have hj : j < 4 := (List.getElem?_eq_some_iff.1 hv).1
  have hw : tm.ruL = words.map (fun t => Value.string (tx t)) := rfl
  rw [hw, List.getElem?_map] at hv
  obtain ⟨u, hu, rfl⟩ := Option.map_eq_some_iff.1 hv
  obtain ⟨fuel', d, q, h2, h3⟩ := Lib.array_elem Tryz.underlying154 hd j hj
  rw [List.getElem?_map, hu] at h2
  obtain rfl := Option.some.inj h2
  rw [c9, Nat.mul_one] at h3
  obtain ⟨s, e1, e2, _⟩ := DataW.trod_string Tryz.underlying9 h3
  have e3 : u = s.data.toList := by
    have := congrArg Prod.fst e2
    simpa using this
  have e4 : cs.toList[j]? = some (.string s) := by
    have := congrArg (·[0]?) e1
    simpa [List.getElem?_take, List.getElem?_drop] using this
  have := World.var?_cell hg hvar j
  rw [Nat.zero_add, this, ← Array.getElem?_toList, e4, e3]
  rfl
theorem four {enc : TypeId × Value → Unit} {w : World} {base : Nat} {spare : Nat → Bool} {held : Bool} {t : TypeId} {f0 f1 f2 f3 : Field} {fuel : Nat} {cs : List Value} {x : DataW Unit × List MemPlace} (ht : Tryz.prog.underlying t = some (.struct #[f0, f1, f2, f3])) (h : DataW.trod enc Tryz.prog w base spare held fuel t cs = some x) :
    ∃ y0 y1 y2 y3 n, x.1 = .agg [y0.1, y1.1, y2.1, y3.1] ∧ DataW.trod enc Tryz.prog w base spare held n f0.type ((cs.drop f0.offset).take (Tryz.prog.cellsOf f0.type)) = some y0 ∧
      DataW.trod enc Tryz.prog w base spare held n f1.type ((cs.drop f1.offset).take (Tryz.prog.cellsOf f1.type)) = some y1 ∧ DataW.trod enc Tryz.prog w base spare held n f2.type ((cs.drop f2.offset).take (Tryz.prog.cellsOf f2.type)) = some y2 ∧
      DataW.trod enc Tryz.prog w base spare held n f3.type ((cs.drop f3.offset).take (Tryz.prog.cellsOf f3.type)) = some y3 := by
  obtain ⟨xs, n, _, rfl, hl, hlen, hf⟩ := DataW.trod_struct ht h
  match xs, hlen with
  | [y0, y1, y2, y3], _ => exact ⟨y0, y1, y2, y3, n, by simp, by simpa using hf 0 f0 rfl, by simpa using hf 1 f1 rfl, by simpa using hf 2 f2 rfl, by simpa using hf 3 f3 rfl⟩
theorem nums_of {W : World} (h1 : Lib.VarReads Tryz.prog W "escritoire/tmpl.nums" Rows.laid_escritoire_tmpl_nums) : W.rangeAt 0 0 tm.nuL := by
  rw [nums_is] at h1
  obtain ⟨g, t, cs, fuel, p, hg, hty, hvar, hd⟩ := h1
  obtain rfl := Option.some.inj (gnN.symm.trans hg)
  obtain rfl := Option.some.inj (gtN.symm.trans hty)
  have key : ∀ i, i < 12 → ∀ (q : List UInt8 × Nat × Nat × Bool), tm.numW[i]? = some q → cs.toList[i * 4]? = some (.string (tx q.1)) ∧ cs.toList[i * 4 + 1]? = some (.int .i64 (q.2.1 : Int)) ∧ cs.toList[i * 4 + 2]? = some (.int .i64 (q.2.2.1 : Int)) ∧ cs.toList[i * 4 + 3]? = some (.bool q.2.2.2) := by
    intro i hi q hq
    obtain ⟨fuel', d, r, h2, h3⟩ := Lib.array_elem Tryz.underlying105 hd i hi
    rw [List.getElem?_map, hq] at h2
    obtain rfl := Option.some.inj h2
    rw [cN] at h3
    obtain ⟨y0, y1, y2, y3, n, e0, s0, s1, s2, s3⟩ := four Tryz.underlying104 h3
    have e0' : DataW.agg [DataW.lit (Lit.string q.1), DataW.lit (Lit.int .i64 (q.2.1 : Int)), DataW.lit (Lit.int .i64 (q.2.2.1 : Int)), DataW.lit (Lit.bool q.2.2.2)] = DataW.agg [y0.1, y1.1, y2.1, y3.1] := e0
    simp only [DataW.agg.injEq, List.cons.injEq, and_true] at e0'
    obtain ⟨z0, z1, z2, z3⟩ := e0'
    obtain ⟨a0, b0, d0, _⟩ := DataW.trod_string Tryz.underlying9 s0
    obtain ⟨a1, b1, d1, _⟩ := DataW.trod_int Tryz.underlying3 s1
    obtain ⟨a2, b2, d2, _⟩ := DataW.trod_int Tryz.underlying3 s2
    obtain ⟨a3, b3, d3⟩ := DataW.trod_bool Tryz.underlying4 s3
    rw [d0] at z0
    rw [d1] at z1
    rw [d2] at z2
    rw [d3] at z3
    simp only [DataW.lit.injEq, Lit.string.injEq, Lit.int.injEq, Lit.bool.injEq, true_and] at z0 z1 z2 z3
    have f0 := congrArg (·[0]?) b0
    have f1 := congrArg (·[0]?) b1
    have f2 := congrArg (·[0]?) b2
    have f3 := congrArg (·[0]?) b3
    simp [List.getElem?_drop, c9, c3, c4] at f0 f1 f2 f3
    refine ⟨?_, ?_, ?_, ?_⟩
    · rw [z0, show tx a0.data.toList = a0 from tx_L a0]; simpa using f0
    · rw [z1]; simpa using f1
    · rw [z2]; simpa using f2
    · rw [z3]; simpa using f3
  intro j v hv
  have hj : j < 48 := (List.getElem?_eq_some_iff.1 hv).1
  rw [Nat.zero_add, World.var?_cell hg hvar j, ← Array.getElem?_toList]
  obtain ⟨i, r, hr, rfl⟩ : ∃ i r, r < 4 ∧ j = i * 4 + r := ⟨j / 4, j % 4, Nat.mod_lt _ (by decide), by omega⟩
  obtain ⟨q, hq⟩ : ∃ q, tm.numW[i]? = some q := ⟨_, List.getElem?_eq_getElem (show i < tm.numW.length by show i < 12; omega)⟩
  obtain ⟨k0, k1, k2, k3⟩ := key i (by omega) q hq
  obtain ⟨n1, n2, n3⟩ := tm.nuL_get i q hq
  have n0 : tm.nuL[i * 4]? = some (.string (tx q.1)) := by
    have : ∀ i, i < 12 → ∀ q, tm.numW[i]? = some q → tm.nuL[i * 4]? = some (.string (tx q.1)) := by
      intro i hi q hq
      rcases i with _ | _ | _ | _ | _ | _ | _ | _ | _ | _ | _ | _ | i
      all_goals first | (obtain rfl := Option.some.inj hq; rfl) | omega
    exact this i (by omega) q hq
  rcases r with _ | _ | _ | _ | r
  · rw [Nat.add_zero] at hv ⊢; rw [k0, ← hv, n0]
  · rw [k1, ← hv, n1]
  · rw [k2, ← hv, n2]
  · rw [k3, ← hv, n3]
  · omega
/-- The list that the row lays. -/
def list : List (String × DataW Unit) := [("math/bits.deBruijn32tab", Rows.laid_math_bits_deBruijn32tab), ("math/bits.deBruijn64tab", Rows.laid_math_bits_deBruijn64tab), ("internal/strconv.uint64pow10", Rows.laid_internal_strconv_uint64pow10), ("errors.errorType", Rows.laid_errors_errorType), ("escritoire/lex.marks", Rows.laid_escritoire_lex_marks), ("escritoire/tmpl.nums", Rows.laid_escritoire_tmpl_nums), ("escritoire/tmpl.rules", Rows.laid_escritoire_tmpl_rules)]
def plain : List (String × DataW Unit) := [("math/bits.deBruijn32tab", Rows.laid_math_bits_deBruijn32tab), ("math/bits.deBruijn64tab", Rows.laid_math_bits_deBruijn64tab), ("internal/strconv.uint64pow10", Rows.laid_internal_strconv_uint64pow10), ("escritoire/lex.marks", Rows.laid_escritoire_lex_marks), ("escritoire/tmpl.nums", Rows.laid_escritoire_tmpl_nums), ("escritoire/tmpl.rules", Rows.laid_escritoire_tmpl_rules)]
set_option maxRecDepth 100000 in
theorem some_of : (list.filter fun x => x.2.handleName?.isSome) = laying.list := by kernel_rfl
set_option maxRecDepth 100000 in
theorem none_of : (list.filter fun x => x.2.handleName?.isNone) = plain := by kernel_rfl
theorem of_laid {W : World} (h : laidMetH Tryz.prog list W) : tm.Gt W := by
  unfold laidMetH at h
  rw [some_of] at h
  have h' : laidMet Tryz.prog (list.filter fun x => x.2.handleName?.isNone) W ∧ handlesMet Tryz.prog laying.list W := h
  have h1 := h'.1
  rw [none_of] at h1
  obtain ⟨hp, hl⟩ := laidx.pw_of (Lib.laidMet.reads h1 (.tail _ (.tail _ (.head _))))
  exact ⟨⟨laidm.marks_of_reads (Lib.laidMet.reads h1 (.tail _ (.tail _ (.tail _ (.head _))))), laying.handle_of_laid (show laidMetH Tryz.prog laying.list W from ⟨⟨[], rfl, List.nodup_nil, fun _ _ h => by cases h⟩, h'.2⟩), hp, hl⟩,
    rules_of (Lib.laidMet.reads h1 (.tail _ (.tail _ (.tail _ (.tail _ (.tail _ (.head _))))))), nums_of (Lib.laidMet.reads h1 (.tail _ (.tail _ (.tail _ (.tail _ (.head _))))))⟩
theorem names_of : (plain.filter fun x => ["math/bits.deBruijn32tab", "math/bits.deBruijn64tab", "internal/strconv.uint64pow10", "escritoire/lex.marks", "escritoire/tmpl.nums", "escritoire/tmpl.rules"].contains x.1) = plain := by kernel_rfl
theorem names_not : (plain.filter fun x => !["math/bits.deBruijn32tab", "math/bits.deBruijn64tab", "internal/strconv.uint64pow10", "escritoire/lex.marks", "escritoire/tmpl.nums", "escritoire/tmpl.rules"].contains x.1) = [] := by kernel_rfl
set_option maxRecDepth 100000 in
theorem world_met (os : Os) (args : Array Value) : laidMetH Tryz.prog list ((World.layVars Tryz.prog (laying.layCell (World.holding Tryz.prog os ⟨#[], #[], []⟩)) plain).forCall (fun _ _ => 0) ⟨#[], args, []⟩).memory := by
  refine laidMetH_of_parts ?_ ?_
  · rw [none_of]
    refine laidMet_layVars (w0 := laying.layCell (World.holding Tryz.prog os ⟨#[], #[], []⟩)) ["math/bits.deBruijn32tab", "math/bits.deBruijn64tab", "internal/strconv.uint64pow10", "escritoire/lex.marks", "escritoire/tmpl.nums", "escritoire/tmpl.rules"] [] ?_ ?_ ?_ ?_
    · rw [names_of]; simp [World.memory, World.forCall, Input.heap]
    · rw [names_of]; kernel_rfl
    · rw [names_of]; kernel_rfl
    · rw [names_not]; exact LaidIn.none
  · rw [some_of]; kernel_rfl
end Go.Proofs.YtpanodaecjlgaaaGreatDoor.laidr
/- The library's own texts that a call comes to, as this program has them: laid on the shelf's. -/
namespace Go.Proofs.YtpanodaecjlgaaaGreatDoor.layK
open Go.Shelf
def rf : FuncId → FuncId
  | 143 => 84
  | 144 => 54
  | 217 => 121
  | 219 => 107
  | 224 => 123
  | 225 => 122
  | 266 => 138
  | 267 => 124
  | 314 => 139
  | x => x
def rt : TypeId → TypeId
  | 3 => 3
  | 4 => 4
  | 5 => 5
  | 9 => 9
  | 46 => 186
  | 51 => 200
  | 146 => 201
  | x => x
def rg : Nat → Nat
  | 1 => 4
  | x => x
def ren : Ren := ⟨rf, rt, rg⟩
set_option maxRecDepth 100000 in
theorem laid : Lays.n144 Tryz.prog ren where
  mixed := by kernel_rfl
  f143 := by kernel_rfl
  f144 := by kernel_rfl
  f217 := by kernel_rfl
  f219 := by kernel_rfl
  f224 := by kernel_rfl
  f225 := by kernel_rfl
  f266 := by kernel_rfl
  f267 := by kernel_rfl
  f314 := by kernel_rfl
  t3 := by kernel_rfl
  a3 := fun _ => by kernel_rfl
  z3 := fun _ => by kernel_rfl
  v3 := fun _ => by kernel_rfl
  t4 := by kernel_rfl
  a4 := fun _ => by kernel_rfl
  z4 := fun _ => by kernel_rfl
  v4 := fun _ => by kernel_rfl
  t5 := by kernel_rfl
  a5 := fun _ => by kernel_rfl
  z5 := fun _ => by kernel_rfl
  v5 := fun _ => by kernel_rfl
  t9 := by kernel_rfl
  a9 := fun _ => by kernel_rfl
  z9 := fun _ => by kernel_rfl
  v9 := fun _ => by kernel_rfl
  t46 := by kernel_rfl
  a46 := fun _ => by kernel_rfl
  z46 := fun _ => by kernel_rfl
  v46 := fun _ => by kernel_rfl
  t51 := by kernel_rfl
  a51 := fun _ => by kernel_rfl
  z51 := fun _ => by kernel_rfl
  v51 := fun _ => by kernel_rfl
  t146 := by kernel_rfl
  a146 := fun _ => by kernel_rfl
  z146 := fun _ => by kernel_rfl
  v146 := fun _ => by kernel_rfl
  g1 := by kernel_rfl
end Go.Proofs.YtpanodaecjlgaaaGreatDoor.layK
/- The document's letters, digits and names; no fault; one byte among others. -/
namespace Go.Proofs.YtpanodaecjlgaaaGreatDoor.lx
set_option linter.unusedVariables false
open Go.ChangeShapes Go.WideShapes Go.ChangeAt Go.RowKit
open mem

theorem refLetter_at (x : Int) (w : World) : Calls Tryz.prog 81 #[.int .u8 x] w fun e w' => e = .returned (.bool (lt x)) ∧ w' = w := by
  go_enter Tryz.func81, Tryz.ntmps81
  go_wp2
  all_goals
    go_ret
    refine ⟨ret_bool ?_, rfl⟩
    rw [Bool.eq_iff_iff]
    simp [lt]
    try omega
theorem refDigit_at (x : Int) (w : World) : Calls Tryz.prog 82 #[.int .u8 x] w fun e w' => e = .returned (.bool (dg x)) ∧ w' = w := by
  go_enter Tryz.func82, Tryz.ntmps82
  go_wp2
  all_goals
    go_ret
    refine ⟨ret_bool ?_, rfl⟩
    rw [Bool.eq_iff_iff]
    simp [dg]
    try omega
theorem IsName_at (s : ByteArray) (w : World) : Calls Tryz.prog 52 #[.string s] w fun e w' => e = .returned (.bool (nmb (L s))) ∧ w' = w := by
  by_cases h0 : 0 < s.size
  · have e1 : (((s[0]'h0).toNat : Nat) : Int) = sb s 0 := (sb_get s 0 h0).symm
    have c1 := refLetter_at (sb s 0)
    have hnm : lt (sb s 0) = nmb (L s) := by
      unfold nmb
      have := L_get s 0 h0
      rw [List.head?_eq_getElem?, this, sb_get s 0 h0]
      rfl
    rw [hnm] at c1
    have hne : (s.toList == []) = false := by
      rw [beq_eq_false_iff_ne, ByteArray.toList_eq]
      intro e
      have := congrArg List.length e
      simp at this
      have h3 : s.size = 0 := by simpa using this
      omega
    go_enter Tryz.func52, Tryz.ntmps52
    go_wp2_with fail
    refine (c1 _).mono ?_
    rintro e w' ⟨rfl, rfl⟩
    go_wp2
    go_ret
    exact ⟨rfl, rfl⟩
  · obtain rfl : s = ⟨#[]⟩ := by
      have h : s.size = 0 := by omega
      exact L_inj (List.eq_nil_of_length_eq_zero (by rw [L_len]; exact h))
    go_enter Tryz.func52, Tryz.ntmps52
    go_wp2
    go_ret
    exact ⟨rfl, rfl⟩
def flt (c p : Int) : Value := .agg #[.int .i64 c, .int .i64 p]
theorem infoF : (Tryz.prog.info? 26).map (·.size) = some 2 := by kernel_rfl
theorem ldF (w : World) (B : Nat) (x y : Value) (h : w.heap[B]? = some (.cells #[x, y] 26 (0, 0))) : (loadVar 26 ⟨B, 0, none⟩).run Tryz.prog w = .ok (.agg #[x, y]) w :=
  run_loadVar_mid w B 0 26 [x, y] _ (fun j v hv => by
    rcases j with _ | _ | j
    · simp at hv; subst hv; rw [cell_of h]; rfl
    · simp at hv; subst hv; rw [cell_of h]; rfl
    · simp at hv) Tryz.underlying26 rfl infoF
theorem Good_at (w : World) : Calls Tryz.prog 32 #[] w fun e w' => e = .returned (flt 0 (-1)) ∧ Bl w w' := by
  go_enter Tryz.func32, Tryz.ntmps32
  go_wp2
  exact bodyPost_ret (v := flt 0 (-1)) (results_cell_row rfl _ _ w.heap.size 26 #[.int .i64 0, .int .i64 (-1)] (0, 0) _ rfl (new_at w _) Tryz.underlying26 rfl infoF) rfl ⟨rfl, (Bl.refl _).alloc _⟩
set_option maxRecDepth 100000 in
theorem one_byte (c : UInt8) (w : World) : Calls Tryz.prog 54 #[.string ⟨#[123, 125, 91, 93, 40, 41, 59, 44, 61, 43, 45, 42, 38, 124, 60, 62]⟩, .string ⟨#[c]⟩] w fun e w' => e = .returned (.bool (isM c)) ∧ w' = w := by
  have h := Any.strings_Contains_one layK.laid ⟨#[123, 125, 91, 93, 40, 41, 59, 44, 61, 43, 45, 42, 38, 124, 60, 62]⟩ c w
  have e : decide (0 ≤ Lib.indexByte (ByteArray.mk #[123, 125, 91, 93, 40, 41, 59, 44, 61, 43, 45, 42, 38, 124, 60, 62]).data.toList c) = isM c := by
    have key : ∀ c : Fin 256, decide (0 ≤ Lib.indexByte (ByteArray.mk #[123, 125, 91, 93, 40, 41, 59, 44, 61, 43, 45, 42, 38, 124, 60, 62]).data.toList (UInt8.ofNat c.1)) = isM (UInt8.ofNat c.1) := by decide
    have := key ⟨c.toNat, c.toNat_lt⟩
    simp only [UInt8.ofNat_toNat] at this
    exact this
  rw [e] at h
  exact h
theorem has_at (s : ByteArray) (I : Nat) (t : List UInt8) (w : World) : Calls Tryz.prog 83 #[.string (s.extract I s.size), .string (tx t)] w fun e w' => e = .returned (.bool (t.isPrefixOf ((L s).drop I))) ∧ w' = w := by
  have e1 : (s.extract I s.size).data.toList = (L s).drop I := by
    have := L_ext s I s.size
    rw [List.take_of_length_le (by rw [L_len]; exact Nat.le_refl _)] at this
    exact this
  have c := Any.strings_HasPrefix layP.laid (s.extract I s.size) (tx t) w
  rw [e1] at c
  exact c
end Go.Proofs.YtpanodaecjlgaaaGreatDoor.lx
/- Eyes that go through tokens: the document's reader, its small parts. -/
namespace Go.Proofs.YtpanodaecjlgaaaGreatDoor.ex
set_option linter.unusedVariables false
open Go.ChangeShapes Go.WideShapes Go.ChangeAt Go.RowKit
open mem lx

/-- Eyes upon these tokens; what was wrong first (0: nothing). -/
structure Ey (w : World) (P : Nat) (ts : List Tk) (en : Nat) (c p : Int) : Prop where
  ex : ∃ (q : Option Addr) (k : Nat), w.heap[P]? = some (.cells #[.slice q ts.length k, .int .i64 (en : Int), .int .i64 c, .int .i64 p] 55 (0, 0)) ∧ ts.length ≤ k ∧ tr.In w q ts ∧ (∀ x, q = some x → x.block < w.heap.size ∧ x.block < P)
  len : ts.length ≤ 3000
  tok : ∀ t ∈ ts, (t.t ≠ [] ∧ (32 : UInt8) ∉ t.t) ∧ t.t.length ≤ 3000
theorem Ey.step {w w' : World} {P : Nat} {ts : List Tk} {en : Nat} {c p : Int} (h : Ey w P ts en c p) (hb : Bl w w') : Ey w' P ts en c p := by
  obtain ⟨q, k, h1, h2, h3, h4⟩ := h.ex
  exact ⟨⟨q, k, by rw [Below.block hb P (lt_of_heap h1)]; exact h1, h2, h3.step hb, fun x hx => ⟨Nat.lt_of_lt_of_le (h4 x hx).1 hb.size, (h4 x hx).2⟩⟩, h.len, h.tok⟩
theorem Ey.is {w : World} {P : Nat} {ts : List Tk} {en : Nat} {c p : Int} (h : Ey w P ts en c p) : ∃ cs, w.heap[P]? = some (.cells cs 55 (0, 0)) := by
  obtain ⟨q, k, h1, _⟩ := h.ex
  exact ⟨_, h1⟩
theorem Ey.lt {w : World} {P : Nat} {ts : List Tk} {en : Nat} {c p : Int} (h : Ey w P ts en c p) : P < w.heap.size := by
  obtain ⟨cs, h1⟩ := h.is
  exact lt_of_heap h1
theorem Gp.kxE {P : Nat} {w w' : World} {ts : List Tk} {en : Nat} {c p : Int} (h : Gp P w w') (hp : Ey w P ts en c p) : Kx w w' := fun b cs' hb => by
  obtain ⟨cs, h1⟩ := hp.is
  rw [h.block b (lt_of_heap hb) (fun e => by rw [e, h1] at hb; simp at hb)]
  exact hb
theorem ldE (w : World) (P : Nat) (a b x y : Value) (h : w.heap[P]? = some (.cells #[a, b, x, y] 55 (0, 0))) : (loadVar 26 ⟨P, 2, none⟩).run Tryz.prog w = .ok (.agg #[x, y]) w :=
  run_loadVar_mid w P 2 26 [x, y] _ (fun j v hv => by
    rcases j with _ | _ | j
    · simp at hv; subst hv; rw [cell_of h]; rfl
    · simp at hv; subst hv; rw [cell_of h]; rfl
    · simp at hv) Tryz.underlying26 rfl infoF
theorem Ey.cells {w : World} {P : Nat} {ts : List Tk} {en : Nat} {c p : Int} (h : Ey w P ts en c p) : w.cell? ⟨P, 1, none⟩ = some (.int .i64 (en : Int)) ∧ w.cell? ⟨P, 2, none⟩ = some (.int .i64 c) ∧ w.cell? ⟨P, 3, none⟩ = some (.int .i64 p) ∧ (loadVar 26 ⟨P, 2, none⟩).run Tryz.prog w = .ok (.agg #[.int .i64 c, .int .i64 p]) w ∧ w.frozen? ⟨P, 2, none⟩ = false ∧ w.frozen? ⟨P, 3, none⟩ = false := by
  obtain ⟨q, k, h1, _⟩ := h.ex
  exact ⟨by rw [cell_of h1]; rfl, by rw [cell_of h1]; rfl, by rw [cell_of h1]; rfl, ldE w P _ _ _ _ h1, by simp [World.frozen?, h1], by simp [World.frozen?, h1]⟩
theorem stop_at (w : World) (P : Nat) (ts : List Tk) (en : Nat) (c p : Int) (h : Ey w P ts en c p) :
    Calls Tryz.prog 25 #[.pointer (some ⟨P, 0, none⟩)] w fun e w' => e = .returned (.bool (!(c == 0))) ∧ Bl w w' := by
  obtain ⟨c1, c2, c3, cF, _, _⟩ := h.cells
  clear h
  go_enter Tryz.func25, Tryz.ntmps25
  go_wp2
  go_ret
  exact ⟨rfl, (Bl.refl _).alloc _⟩
/-- The text that eyes see. -/
def see (c : Int) (en : Nat) (ts : List Tk) : List UInt8 := if c = 0 then (hd en ts).t else []
theorem text_at (w : World) (P : Nat) (ts : List Tk) (en : Nat) (c p : Int) (h : Ey w P ts en c p) :
    Calls Tryz.prog 26 #[.pointer (some ⟨P, 0, none⟩)] w fun e w' => e = .returned (.string (tx (see c en ts))) ∧ Bl w w' := by
  have cS := stop_at w P ts en c p h
  have HE : Hid (Ey w P ts en c p) := h
  clear h
  by_cases hc : c = 0
  · subst hc
    rw [show (!((0 : Int) == 0)) = false from rfl] at cS
    rw [show see 0 en ts = (hd en ts).t from if_pos rfl]
    go_enter Tryz.func26, Tryz.ntmps26
    go_wp2_with fail
    refine cS.mono ?_
    rintro e w2 ⟨rfl, hb⟩
    have HE2 : Hid (Ey w2 P ts en 0 p) := HE.out.step hb
    obtain ⟨q, k, h1, h2, h3, h4⟩ := HE2.out.ex
    have hP := lt_of_heap h1
    have c0 : w2.cell? ⟨P, 0, none⟩ = some (.slice q ts.length k) := by rw [cell_of h1]; rfl
    clear h1 cS
    cases ts with
    | nil =>
      rw [show ([] : List Tk).length = 0 from rfl] at c0
      clear h2 h3 h4
      go_wp2
      go_ret
      exact ⟨rfl, hb⟩
    | cons t ts =>
      have hl := HE2.out.len
      obtain ⟨x, rfl, g0, g1⟩ := h3.at' 0 (by simp)
      obtain ⟨n, hn⟩ : ∃ n, n = ts.length := ⟨_, rfl⟩
      rw [show (t :: ts).length = n + 1 by simp [hn]] at c0 h2 hl
      simp only [Nat.zero_mul, Addr.add_zero'] at g0 g1
      rw [show (t :: ts)[0] = t from rfl] at g0 g1
      have hne : ((((n + 1 : Nat) : Int)) == 0) = false := by rw [beq_eq_false_iff_ne]; omega
      clear h3 h4 hn g1
      go_wp2
      go_ret
      exact ⟨rfl, hb⟩
  · have hc' : (c == 0) = false := by rw [beq_eq_false_iff_ne]; exact hc
    rw [hc', show (!false) = true from rfl] at cS
    rw [show see c en ts = [] from if_neg hc]
    go_enter Tryz.func26, Tryz.ntmps26
    go_wp2_with fail
    refine cS.mono ?_
    rintro e w2 ⟨rfl, hb⟩
    go_wp2
    go_ret
    exact ⟨rfl, hb⟩
theorem place_at (w : World) (P : Nat) (ts : List Tk) (en : Nat) (c p : Int) (h : Ey w P ts en c p) :
    Calls Tryz.prog 28 #[.pointer (some ⟨P, 0, none⟩)] w fun e w' => e = .returned (.int .i64 ((hd en ts).a : Int)) ∧ w' = w := by
  have hl := h.len
  obtain ⟨q, k, h1, h2, h3, h4⟩ := h.ex
  have hP := lt_of_heap h1
  have c0 : w.cell? ⟨P, 0, none⟩ = some (.slice q ts.length k) := by rw [cell_of h1]; rfl
  have c1 : w.cell? ⟨P, 1, none⟩ = some (.int .i64 (en : Int)) := by rw [cell_of h1]; rfl
  clear h1 h
  cases ts with
  | nil =>
    rw [show ([] : List Tk).length = 0 from rfl] at c0
    clear h2 h3 h4
    go_enter Tryz.func28, Tryz.ntmps28
    go_wp2
    go_ret
    exact ⟨rfl, rfl⟩
  | cons t ts =>
    obtain ⟨x, rfl, g0, g1⟩ := h3.at' 0 (by simp)
    obtain ⟨n, hn⟩ : ∃ n, n = ts.length := ⟨_, rfl⟩
    rw [show (t :: ts).length = n + 1 by simp [hn]] at c0 h2 hl
    simp only [Nat.zero_mul, Addr.add_zero'] at g0 g1
    rw [show (t :: ts)[0] = t from rfl] at g0 g1
    have hne : ((((n + 1 : Nat) : Int)) == 0) = false := by rw [beq_eq_false_iff_ne]; omega
    clear h3 h4 hn
    go_enter Tryz.func28, Tryz.ntmps28
    go_wp2
    go_ret
    exact ⟨rfl, rfl⟩
/-- What is wrong first stays. -/
theorem wrong_yes (w : World) (P : Nat) (ts : List Tk) (en : Nat) (p a b : Int) (h : Ey w P ts en 0 p) :
    Calls Tryz.prog 27 #[.pointer (some ⟨P, 0, none⟩), .int .i64 a, .int .i64 b] w fun e w' => e = .returned (.tuple #[]) ∧ Ey w' P ts en a b ∧ Gp P w w' := by
  have cS := stop_at w P ts en 0 p h
  rw [show (!((0 : Int) == 0)) = false from rfl] at cS
  have HE : Hid (Ey w P ts en 0 p) := h
  clear h
  go_enter Tryz.func27, Tryz.ntmps27
  go_wp2_with fail
  refine cS.mono ?_
  rintro e w2 ⟨rfl, hb⟩
  have HE2 : Hid (Ey w2 P ts en 0 p ∧ Bl w w2) := ⟨HE.out.step hb, hb⟩
  obtain ⟨c1, c2, c3, cF, z2, z3⟩ := HE2.out.1.cells
  have hP := HE2.out.1.lt
  clear hb cS
  go_wp2
  refine bodyPost_end (results_none rfl _ _ _) rfl ?_
  obtain ⟨q, k, h1, h2, h3, h4⟩ := HE2.out.1.ex
  have hg : Gp P w2 ((w2.setCell ⟨P, 2, none⟩ (.int .i64 a)).setCell ⟨P, 3, none⟩ (.int .i64 b)) := (Gp.set _).trans (Gp.set _)
  refine ⟨rfl, ⟨⟨q, k, ?_, h2, In.gp h3 hg (fun x hx => ⟨(h4 x hx).1, Nat.ne_of_lt (h4 x hx).2⟩), fun x hx => ⟨Nat.lt_of_lt_of_le (h4 x hx).1 hg.size, (h4 x hx).2⟩⟩, HE.out.len, HE.out.tok⟩, (Gp.bl HE2.out.2).trans hg⟩
  simp [World.setCell, Array.getElem?_modify, h1]
theorem wrong_no (w : World) (P : Nat) (ts : List Tk) (en : Nat) (c p a b : Int) (h : Ey w P ts en c p) (hc : c ≠ 0) :
    Calls Tryz.prog 27 #[.pointer (some ⟨P, 0, none⟩), .int .i64 a, .int .i64 b] w fun e w' => e = .returned (.tuple #[]) ∧ Bl w w' := by
  have cS := stop_at w P ts en c p h
  have hc' : (c == 0) = false := by rw [beq_eq_false_iff_ne]; exact hc
  rw [hc', show (!false) = true from rfl] at cS
  clear h hc hc'
  go_enter Tryz.func27, Tryz.ntmps27
  go_wp2_with fail
  refine cS.mono ?_
  rintro e w2 ⟨rfl, hb⟩
  go_wp2
  refine bodyPost_end (results_none rfl _ _ _) rfl ?_
  exact ⟨rfl, hb⟩
set_option maxRecDepth 10000 in
theorem pass_yes (w : World) (P : Nat) (t : Tk) (ts : List Tk) (en : Nat) (p : Int) (h : Ey w P (t :: ts) en 0 p) :
    Calls Tryz.prog 55 #[.pointer (some ⟨P, 0, none⟩)] w fun e w' => e = .returned (.string (tx t.t)) ∧ Ey w' P ts en 0 p ∧ Gp P w w' := by
  have cT := text_at w P (t :: ts) en 0 p h
  rw [show see 0 en (t :: ts) = t.t from if_pos rfl] at cT
  have HE : Hid (Ey w P (t :: ts) en 0 p) := h
  have hne := (h.tok t (by simp)).1.1
  have hem : (tx t.t).toList.isEmpty = false := by
    rw [tl_tx]
    cases h : t.t with
    | nil => exact absurd h hne
    | cons c r => rfl
  clear h hne
  obtain ⟨S, hS⟩ : ∃ S, S = tx t.t := ⟨_, rfl⟩
  rw [← hS] at cT hem ⊢
  clear hS
  go_enter Tryz.func55, Tryz.ntmps55
  go_wp2_with fail
  refine cT.mono ?_
  rintro e w2 ⟨rfl, hb⟩
  have HE2 : Hid (Ey w2 P (t :: ts) en 0 p ∧ Bl w w2) := ⟨HE.out.step hb, hb⟩
  obtain ⟨q, k, h1, h2, h3, h4⟩ := HE2.out.1.ex
  have hl := HE2.out.1.len
  obtain ⟨n, hn⟩ : ∃ n, n = ts.length := ⟨_, rfl⟩
  have hx : ∃ x, q = some x := by
    rcases h3 with h | ⟨x, h, _⟩
    · cases h
    · exact ⟨x, h⟩
  obtain ⟨x, rfl⟩ := hx
  obtain ⟨q1, q2, q3⟩ := h3.cut rfl h2
  have hc1 : 1 ≤ k := by simp at h2; omega
  have hlc : (t :: ts).length = n + 1 := by simp [hn]
  rw [hlc] at h1 h2 hl
  obtain ⟨xb1, xb2⟩ := h4 x rfl
  have hP := lt_of_heap h1
  have c0 : w2.cell? ⟨P, 0, none⟩ = some (.slice (some x) (n + 1) k) := by rw [cell_of h1]; rfl
  have z0 : w2.frozen? ⟨P, 0, none⟩ = false := by simp [World.frozen?, h1]
  obtain ⟨Q, hQ⟩ : ∃ Q, Q = (if k = 1 then some x else some ⟨x.block, x.off + 2, none⟩) := ⟨_, rfl⟩
  have hQ' : (if k = 1 then some x else some ⟨x.block, x.off + 2, none⟩) = Q := hQ.symm
  rw [← hQ] at q1
  have HQ : Hid (tr.In w2 Q ts ∧ n = ts.length ∧ ts.length ≤ k - 1 ∧ (∀ y, Q = some y → y.block = x.block) ∧ x.block < w2.heap.size ∧ x.block < P ∧ w2.heap[P]? = some (.cells #[.slice (some x) (n + 1) k, .int .i64 (en : Int), .int .i64 0, .int .i64 p] 55 (0, 0))) := by
    refine ⟨q1, hn, q3, fun y hy => ?_, xb1, xb2, h1⟩
    rw [hQ] at hy
    split at hy
    · injection hy with hy; rw [← hy]
    · injection hy with hy; rw [← hy]
  clear h1 h3 h4 hb cT q1 q2 q3 hQ hn hlc xb1 xb2
  go_wp2
  go_ret
  obtain ⟨s1, s2, s3, s4, r3, r4, h1⟩ := HQ.out
  have hg : Gp P w2 (w2.setCell ⟨P, 0, none⟩ (.slice Q n (k - 1))) := Gp.set _
  refine ⟨rfl, ⟨⟨Q, k - 1, ?_, s3, In.gp s1 hg (fun y hy => by have := s4 y hy; rw [this]; exact ⟨r3, Nat.ne_of_lt r4⟩), fun y hy => ?_⟩, by have := HE.out.len; simp at this; omega, fun u hu => HE.out.tok u (by simp [hu])⟩, (Gp.bl HE2.out.2).trans hg⟩
  · show _ = some (Obj.cells #[.slice Q ts.length (k - 1), _, _, _] _ _)
    rw [← s2]
    simp [World.setCell, Array.getElem?_modify, h1]
  · have := s4 y hy
    rw [this]
    exact ⟨Nat.lt_of_lt_of_le r3 hg.size, r4⟩
theorem pass_no (w : World) (P : Nat) (ts : List Tk) (en : Nat) (c p : Int) (h : Ey w P ts en c p) (hc : c ≠ 0) :
    Calls Tryz.prog 55 #[.pointer (some ⟨P, 0, none⟩)] w fun e w' => e = .returned (.string ⟨#[]⟩) ∧ Bl w w' := by
  have cT := text_at w P ts en c p h
  rw [show see c en ts = [] from if_neg hc] at cT
  have cP := fun wx (hb : Bl w wx) => place_at wx P ts en c p (h.step hb)
  have cW := fun wx (hb : Bl w wx) a b => wrong_no wx P ts en c p a b (h.step hb) hc
  have hem : (tx ([] : List UInt8)).toList.isEmpty = true := by rw [tl_tx]; rfl
  clear h hc
  generalize tx ([] : List UInt8) = S at *
  go_enter Tryz.func55, Tryz.ntmps55
  go_wp2_with fail
  refine cT.mono ?_
  rintro e w2 ⟨rfl, hb⟩
  go_wp2_with fail
  refine (cP _ hb).mono ?_
  rintro e w3 ⟨rfl, rfl⟩
  go_wp2_with fail
  refine (cW _ hb _ _).mono ?_
  rintro e w4 ⟨rfl, hb4⟩
  go_wp2
  go_ret
  exact ⟨rfl, hb.trans hb4⟩
/-- take. -/
theorem take_yes (w : World) (P : Nat) (t : Tk) (ts : List Tk) (en : Nat) (p : Int) (h : Ey w P (t :: ts) en 0 p) :
    Calls Tryz.prog 51 #[.pointer (some ⟨P, 0, none⟩), .string (tx t.t)] w fun e w' => e = .returned (.bool true) ∧ Ey w' P ts en 0 p ∧ Gp P w w' := by
  have cT := text_at w P (t :: ts) en 0 p h
  rw [show see 0 en (t :: ts) = t.t from if_pos rfl] at cT
  have cP := fun wx (hb : Bl w wx) => pass_yes wx P t ts en p (h.step hb)
  clear h
  generalize tx t.t = S at *
  have hq : (S.toList == S.toList) = true := by simp
  go_enter Tryz.func51, Tryz.ntmps51
  go_wp2_with fail
  refine cT.mono ?_
  rintro e w2 ⟨rfl, hb⟩
  go_wp2_with fail
  refine (cP _ hb).mono ?_
  rintro e w3 ⟨rfl, hE, hg⟩
  go_wp2
  go_ret
  exact ⟨rfl, hE, (Gp.bl hb).trans hg⟩
theorem take_no (w : World) (P : Nat) (ts : List Tk) (en : Nat) (c p : Int) (s : List UInt8) (h : Ey w P ts en c p) (hs : see c en ts ≠ s) :
    Calls Tryz.prog 51 #[.pointer (some ⟨P, 0, none⟩), .string (tx s)] w fun e w' => e = .returned (.bool false) ∧ Bl w w' := by
  have cT := text_at w P ts en c p h
  have hq : ((tx (see c en ts)).toList == (tx s).toList) = false := by rw [tl_tx, tl_tx, beq_eq_false_iff_ne]; exact hs
  clear h hs
  generalize tx (see c en ts) = S at *
  generalize tx s = S' at *
  go_enter Tryz.func51, Tryz.ntmps51
  go_wp2_with fail
  refine cT.mono ?_
  rintro e w2 ⟨rfl, hb⟩
  go_wp2
  go_ret
  exact ⟨rfl, hb⟩
theorem hold_at (t : List UInt8) (w : World) : Calls Tryz.prog 109 #[.string (tx t)] w fun e w' => e = .returned (.int .i64 (bd t : Int)) ∧ w' = w := by
  by_cases h0 : t = [61, 61]
  · subst h0
    show Calls Tryz.prog _ #[.string ⟨#[61, 61]⟩] w fun e w' => e = .returned (.int .i64 1) ∧ w' = w
    go_enter Tryz.func109, Tryz.ntmps109
    go_wp2
    go_ret
    exact ⟨rfl, rfl⟩
  by_cases h1 : t = [33, 61]
  · subst h1
    show Calls Tryz.prog _ #[.string ⟨#[33, 61]⟩] w fun e w' => e = .returned (.int .i64 1) ∧ w' = w
    go_enter Tryz.func109, Tryz.ntmps109
    go_wp2
    go_ret
    exact ⟨rfl, rfl⟩
  by_cases h2 : t = [60]
  · subst h2
    show Calls Tryz.prog _ #[.string ⟨#[60]⟩] w fun e w' => e = .returned (.int .i64 1) ∧ w' = w
    go_enter Tryz.func109, Tryz.ntmps109
    go_wp2
    go_ret
    exact ⟨rfl, rfl⟩
  by_cases h3 : t = [62]
  · subst h3
    show Calls Tryz.prog _ #[.string ⟨#[62]⟩] w fun e w' => e = .returned (.int .i64 1) ∧ w' = w
    go_enter Tryz.func109, Tryz.ntmps109
    go_wp2
    go_ret
    exact ⟨rfl, rfl⟩
  by_cases h4 : t = [43]
  · subst h4
    show Calls Tryz.prog _ #[.string ⟨#[43]⟩] w fun e w' => e = .returned (.int .i64 2) ∧ w' = w
    go_enter Tryz.func109, Tryz.ntmps109
    go_wp2
    go_ret
    exact ⟨rfl, rfl⟩
  by_cases h5 : t = [45]
  · subst h5
    show Calls Tryz.prog _ #[.string ⟨#[45]⟩] w fun e w' => e = .returned (.int .i64 2) ∧ w' = w
    go_enter Tryz.func109, Tryz.ntmps109
    go_wp2
    go_ret
    exact ⟨rfl, rfl⟩
  by_cases h6 : t = [124]
  · subst h6
    show Calls Tryz.prog _ #[.string ⟨#[124]⟩] w fun e w' => e = .returned (.int .i64 2) ∧ w' = w
    go_enter Tryz.func109, Tryz.ntmps109
    go_wp2
    go_ret
    exact ⟨rfl, rfl⟩
  by_cases h7 : t = [42]
  · subst h7
    show Calls Tryz.prog _ #[.string ⟨#[42]⟩] w fun e w' => e = .returned (.int .i64 3) ∧ w' = w
    go_enter Tryz.func109, Tryz.ntmps109
    go_wp2
    go_ret
    exact ⟨rfl, rfl⟩
  by_cases h8 : t = [38]
  · subst h8
    show Calls Tryz.prog _ #[.string ⟨#[38]⟩] w fun e w' => e = .returned (.int .i64 3) ∧ w' = w
    go_enter Tryz.func109, Tryz.ntmps109
    go_wp2
    go_ret
    exact ⟨rfl, rfl⟩
  have e0 : bd t = 0 := by unfold bd; rw [if_neg (by simp [h0, h1, h2, h3]), if_neg (by simp [h4, h5, h6]), if_neg (by simp [h7, h8])]
  have htl := tl_tx t
  have n0 : (t == [61, 61]) = false := by rw [beq_eq_false_iff_ne]; exact h0
  have n1 : (t == [33, 61]) = false := by rw [beq_eq_false_iff_ne]; exact h1
  have n2 : (t == [60]) = false := by rw [beq_eq_false_iff_ne]; exact h2
  have n3 : (t == [62]) = false := by rw [beq_eq_false_iff_ne]; exact h3
  have n4 : (t == [43]) = false := by rw [beq_eq_false_iff_ne]; exact h4
  have n5 : (t == [45]) = false := by rw [beq_eq_false_iff_ne]; exact h5
  have n6 : (t == [124]) = false := by rw [beq_eq_false_iff_ne]; exact h6
  have n7 : (t == [42]) = false := by rw [beq_eq_false_iff_ne]; exact h7
  have n8 : (t == [38]) = false := by rw [beq_eq_false_iff_ne]; exact h8
  rw [e0]
  generalize tx t = S at *
  clear h0 h1 h2 h3 h4 h5 h6 h7 h8 e0
  go_enter Tryz.func109, Tryz.ntmps109
  go_wp2
  go_ret
  exact ⟨rfl, rfl⟩
end Go.Proofs.YtpanodaecjlgaaaGreatDoor.ex
