/- Texts laid together: LaidR, TmPa, TmPb. -/
import Derived.Test.YtpanodaecjlgaaaGreatDoorZ11
import Derived.Test.YtpanodaecjlgaaaGreatDoorZ23
/- What the row's condition on the words of tmpl gives a walk. -/
namespace Go.Proofs.YtpanodaecjlgaaaGreatDoor.laidr
open Go.ChangeShapes Go.WideShapes Go.RowKit
open mem lx ex

theorem gnR : Tryz.prog.globalNamed "escritoire/tmpl.rules" = some 2 := by kernel_rfl
theorem gtR : (Tryz.prog.globals[2]?).map (·.type) = some 154 := by kernel_rfl
theorem gnN : Tryz.prog.globalNamed "escritoire/tmpl.nums" = some 0 := by kernel_rfl
theorem gtN : (Tryz.prog.globals[0]?).map (·.type) = some 105 := by kernel_rfl
theorem c9 : Tryz.prog.cellsOf 9 = 1 := by kernel_rfl
theorem cN : Tryz.prog.cellsOf 104 = 4 := by kernel_rfl
theorem c3 : Tryz.prog.cellsOf 3 = 1 := by kernel_rfl
theorem c4 : Tryz.prog.cellsOf 4 = 1 := by kernel_rfl
def words : List (List UInt8) := [[], tm.wSize, tm.wCount, tm.wCheck]
theorem rules_is : (Rows.laid_escritoire_tmpl_rules : DataW Unit) = .agg (words.map fun t => .lit (.string t)) := by kernel_rfl
theorem nums_is : (Rows.laid_escritoire_tmpl_nums : DataW Unit) = .agg (tm.numW.map fun p => .agg [.lit (.string p.1), .lit (.int .i64 (p.2.1 : Int)), .lit (.int .i64 (p.2.2.1 : Int)), .lit (.bool p.2.2.2)]) := by kernel_rfl
theorem rules_of {W : World} (h1 : Lib.VarReads Tryz.prog W "escritoire/tmpl.rules" Rows.laid_escritoire_tmpl_rules) : W.rangeAt 2 0 tm.ruL := by
  rw [rules_is] at h1
  obtain ⟨g, t, cs, fuel, p, hg, hty, hvar, hd⟩ := h1
  obtain rfl := Option.some.inj (gnR.symm.trans hg)
  obtain rfl := Option.some.inj (gtR.symm.trans hty)
  intro j v hv
  have hj : j < 4 := (List.getElem?_eq_some_iff.1 hv).1
  have hw : tm.ruL = words.map (fun t => Value.string (tx t)) := rfl
  rw [hw, List.getElem?_map] at hv
  obtain ⟨u, hu, rfl⟩ := Option.map_eq_some_iff.1 hv
  obtain ⟨fuel', d, q, h2, h3⟩ := Lib.array_elem Tryz.underlying154 hd j hj
  rw [List.getElem?_map, hu] at h2
  obtain rfl := Option.some.inj h2
  rw [c9, Nat.mul_one] at h3
  obtain ⟨s, e1, e2, _⟩ := DataW.trod_string Tryz.underlying9 h3
  have e3 : u = s.data.toList := by
    have := congrArg Prod.fst e2
    simpa using this
  have e4 : cs.toList[j]? = some (.string s) := by
    have := congrArg (·[0]?) e1
    simpa [List.getElem?_take, List.getElem?_drop] using this
  have := World.var?_cell hg hvar j
  rw [Nat.zero_add, this, ← Array.getElem?_toList, e4, e3]
  rfl
theorem four {enc : TypeId × Value → Unit} {w : World} {base : Nat} {spare : Nat → Bool} {held : Bool} {t : TypeId} {f0 f1 f2 f3 : Field} {fuel : Nat} {cs : List Value} {x : DataW Unit × List MemPlace} (ht : Tryz.prog.underlying t = some (.struct #[f0, f1, f2, f3])) (h : DataW.trod enc Tryz.prog w base spare held fuel t cs = some x) :
    ∃ y0 y1 y2 y3 n, x.1 = .agg [y0.1, y1.1, y2.1, y3.1] ∧ DataW.trod enc Tryz.prog w base spare held n f0.type ((cs.drop f0.offset).take (Tryz.prog.cellsOf f0.type)) = some y0 ∧
      DataW.trod enc Tryz.prog w base spare held n f1.type ((cs.drop f1.offset).take (Tryz.prog.cellsOf f1.type)) = some y1 ∧ DataW.trod enc Tryz.prog w base spare held n f2.type ((cs.drop f2.offset).take (Tryz.prog.cellsOf f2.type)) = some y2 ∧
      DataW.trod enc Tryz.prog w base spare held n f3.type ((cs.drop f3.offset).take (Tryz.prog.cellsOf f3.type)) = some y3 := by
  obtain ⟨xs, n, _, rfl, hl, hlen, hf⟩ := DataW.trod_struct ht h
  match xs, hlen with
  | [y0, y1, y2, y3], _ => exact ⟨y0, y1, y2, y3, n, by simp, by simpa using hf 0 f0 rfl, by simpa using hf 1 f1 rfl, by simpa using hf 2 f2 rfl, by simpa using hf 3 f3 rfl⟩
theorem nums_of {W : World} (h1 : Lib.VarReads Tryz.prog W "escritoire/tmpl.nums" Rows.laid_escritoire_tmpl_nums) : W.rangeAt 0 0 tm.nuL := by
  rw [nums_is] at h1
  obtain ⟨g, t, cs, fuel, p, hg, hty, hvar, hd⟩ := h1
  obtain rfl := Option.some.inj (gnN.symm.trans hg)
  obtain rfl := Option.some.inj (gtN.symm.trans hty)
  have key : ∀ i, i < 12 → ∀ (q : List UInt8 × Nat × Nat × Bool), tm.numW[i]? = some q → cs.toList[i * 4]? = some (.string (tx q.1)) ∧ cs.toList[i * 4 + 1]? = some (.int .i64 (q.2.1 : Int)) ∧ cs.toList[i * 4 + 2]? = some (.int .i64 (q.2.2.1 : Int)) ∧ cs.toList[i * 4 + 3]? = some (.bool q.2.2.2) := by
    intro i hi q hq
    obtain ⟨fuel', d, r, h2, h3⟩ := Lib.array_elem Tryz.underlying105 hd i hi
    rw [List.getElem?_map, hq] at h2
    obtain rfl := Option.some.inj h2
    rw [cN] at h3
    obtain ⟨y0, y1, y2, y3, n, e0, s0, s1, s2, s3⟩ := four Tryz.underlying104 h3
    have e0' : DataW.agg [DataW.lit (Lit.string q.1), DataW.lit (Lit.int .i64 (q.2.1 : Int)), DataW.lit (Lit.int .i64 (q.2.2.1 : Int)), DataW.lit (Lit.bool q.2.2.2)] = DataW.agg [y0.1, y1.1, y2.1, y3.1] := e0
    simp only [DataW.agg.injEq, List.cons.injEq, and_true] at e0'
    obtain ⟨z0, z1, z2, z3⟩ := e0'
    obtain ⟨a0, b0, d0, _⟩ := DataW.trod_string Tryz.underlying9 s0
    obtain ⟨a1, b1, d1, _⟩ := DataW.trod_int Tryz.underlying3 s1
    obtain ⟨a2, b2, d2, _⟩ := DataW.trod_int Tryz.underlying3 s2
    obtain ⟨a3, b3, d3⟩ := DataW.trod_bool Tryz.underlying4 s3
    rw [d0] at z0
    rw [d1] at z1
    rw [d2] at z2
    rw [d3] at z3
    simp only [DataW.lit.injEq, Lit.string.injEq, Lit.int.injEq, Lit.bool.injEq, true_and] at z0 z1 z2 z3
    have f0 := congrArg (·[0]?) b0
    have f1 := congrArg (·[0]?) b1
    have f2 := congrArg (·[0]?) b2
    have f3 := congrArg (·[0]?) b3
    simp [List.getElem?_drop, c9, c3, c4] at f0 f1 f2 f3
    refine ⟨?_, ?_, ?_, ?_⟩
    · rw [z0, show tx a0.data.toList = a0 from tx_L a0]; simpa using f0
    · rw [z1]; simpa using f1
    · rw [z2]; simpa using f2
    · rw [z3]; simpa using f3
  intro j v hv
  have hj : j < 48 := (List.getElem?_eq_some_iff.1 hv).1
  rw [Nat.zero_add, World.var?_cell hg hvar j, ← Array.getElem?_toList]
  obtain ⟨i, r, hr, rfl⟩ : ∃ i r, r < 4 ∧ j = i * 4 + r := ⟨j / 4, j % 4, Nat.mod_lt _ (by decide), by omega⟩
  obtain ⟨q, hq⟩ : ∃ q, tm.numW[i]? = some q := ⟨_, List.getElem?_eq_getElem (show i < tm.numW.length by show i < 12; omega)⟩
  obtain ⟨k0, k1, k2, k3⟩ := key i (by omega) q hq
  obtain ⟨n1, n2, n3⟩ := tm.nuL_get i q hq
  have n0 : tm.nuL[i * 4]? = some (.string (tx q.1)) := by
    have : ∀ i, i < 12 → ∀ q, tm.numW[i]? = some q → tm.nuL[i * 4]? = some (.string (tx q.1)) := by
      intro i hi q hq
      rcases i with _ | _ | _ | _ | _ | _ | _ | _ | _ | _ | _ | _ | i
      all_goals first | (obtain rfl := Option.some.inj hq; rfl) | omega
    exact this i (by omega) q hq
  rcases r with _ | _ | _ | _ | r
  · rw [Nat.add_zero] at hv ⊢; rw [k0, ← hv, n0]
  · rw [k1, ← hv, n1]
  · rw [k2, ← hv, n2]
  · rw [k3, ← hv, n3]
  · omega
/-- The list that the row lays. -/
def list : List (String × DataW Unit) := [("math/bits.deBruijn32tab", Rows.laid_math_bits_deBruijn32tab), ("math/bits.deBruijn64tab", Rows.laid_math_bits_deBruijn64tab), ("internal/strconv.uint64pow10", Rows.laid_internal_strconv_uint64pow10), ("errors.errorType", Rows.laid_errors_errorType), ("escritoire/lex.marks", Rows.laid_escritoire_lex_marks), ("escritoire/tmpl.nums", Rows.laid_escritoire_tmpl_nums), ("escritoire/tmpl.rules", Rows.laid_escritoire_tmpl_rules)]
def plain : List (String × DataW Unit) := [("math/bits.deBruijn32tab", Rows.laid_math_bits_deBruijn32tab), ("math/bits.deBruijn64tab", Rows.laid_math_bits_deBruijn64tab), ("internal/strconv.uint64pow10", Rows.laid_internal_strconv_uint64pow10), ("escritoire/lex.marks", Rows.laid_escritoire_lex_marks), ("escritoire/tmpl.nums", Rows.laid_escritoire_tmpl_nums), ("escritoire/tmpl.rules", Rows.laid_escritoire_tmpl_rules)]
set_option maxRecDepth 100000 in
theorem some_of : (list.filter fun x => x.2.handleName?.isSome) = laying.list := by kernel_rfl
set_option maxRecDepth 100000 in
theorem none_of : (list.filter fun x => x.2.handleName?.isNone) = plain := by kernel_rfl
theorem of_laid {W : World} (h : laidMetH Tryz.prog list W) : tm.Gt W := by
  unfold laidMetH at h
  rw [some_of] at h
  have h' : laidMet Tryz.prog (list.filter fun x => x.2.handleName?.isNone) W ∧ handlesMet Tryz.prog laying.list W := h
  have h1 := h'.1
  rw [none_of] at h1
  obtain ⟨hp, hl⟩ := laidx.pw_of (Lib.laidMet.reads h1 (.tail _ (.tail _ (.head _))))
  exact ⟨⟨laidm.marks_of_reads (Lib.laidMet.reads h1 (.tail _ (.tail _ (.tail _ (.head _))))), laying.handle_of_laid (show laidMetH Tryz.prog laying.list W from ⟨⟨[], rfl, List.nodup_nil, fun _ _ h => by cases h⟩, h'.2⟩), hp, hl⟩,
    rules_of (Lib.laidMet.reads h1 (.tail _ (.tail _ (.tail _ (.tail _ (.tail _ (.head _))))))), nums_of (Lib.laidMet.reads h1 (.tail _ (.tail _ (.tail _ (.tail _ (.head _))))))⟩
theorem names_of : (plain.filter fun x => ["math/bits.deBruijn32tab", "math/bits.deBruijn64tab", "internal/strconv.uint64pow10", "escritoire/lex.marks", "escritoire/tmpl.nums", "escritoire/tmpl.rules"].contains x.1) = plain := by kernel_rfl
theorem names_not : (plain.filter fun x => !["math/bits.deBruijn32tab", "math/bits.deBruijn64tab", "internal/strconv.uint64pow10", "escritoire/lex.marks", "escritoire/tmpl.nums", "escritoire/tmpl.rules"].contains x.1) = [] := by kernel_rfl
set_option maxRecDepth 100000 in
theorem world_met (os : Os) (args : Array Value) : laidMetH Tryz.prog list ((World.layVars Tryz.prog (laying.layCell (World.holding Tryz.prog os ⟨#[], #[], []⟩)) plain).forCall (fun _ _ => 0) ⟨#[], args, []⟩).memory := by
  refine laidMetH_of_parts ?_ ?_
  · rw [none_of]
    refine laidMet_layVars (w0 := laying.layCell (World.holding Tryz.prog os ⟨#[], #[], []⟩)) ["math/bits.deBruijn32tab", "math/bits.deBruijn64tab", "internal/strconv.uint64pow10", "escritoire/lex.marks", "escritoire/tmpl.nums", "escritoire/tmpl.rules"] [] ?_ ?_ ?_ ?_
    · rw [names_of]; simp [World.memory, World.forCall, Input.heap]
    · rw [names_of]; kernel_rfl
    · rw [names_of]; kernel_rfl
    · rw [names_not]; exact LaidIn.none
  · rw [some_of]; kernel_rfl
end Go.Proofs.YtpanodaecjlgaaaGreatDoor.laidr
/- Templates: one behind the other (pure). -/
namespace Go.Proofs.YtpanodaecjlgaaaGreatDoor.tm
set_option linter.unusedVariables false
open lx ex

theorem RT.app {l l' m m' : List Ty} (h : RT id l l') (k : RT id m m') : RT id (l ++ m) (l' ++ m') := by
  induction h with
  | nil => exact k
  | cons hn hi _ ih => exact RT.cons hn hi ih
/-- Two texts of templates in one are both. -/
theorem prT_join {a b : List UInt8} {x y : List Ty} (hx : prT a = .ok x) (hy : prT b = .ok y) (hn : x.length + y.length ≤ 8) :
    ∃ z, prT (a ++ 10 :: b) = .ok z ∧ ptxt z = ptxt x ++ ptxt y := by
  unfold prT at hx hy
  split at hx
  · cases hx
  rename_i hx0
  split at hy
  · cases hy
  rename_i hy0
  have e1 := lx_join _ a 0 (lx a 0).1 b (Nat.le_refl _) (by rw [← hx0])
  obtain ⟨e2, e3⟩ := lx_else _ b 0 (0 + a.length + 1) (Nat.le_refl _)
  have e3 := e3 hy0
  have hf : RF id (lx b 0).1 (lx b (0 + a.length + 1)).1 := rf_id e2.symm
  have hg : RF id (lx a 0).1 (lx a 0).1 := rf_id rfl
  obtain ⟨_, k1⟩ := typs_just 8 hy
  obtain ⟨y', k2, k3⟩ := typs_ren (en' := (a ++ 10 :: b).length) (ρ := id) rfl [] 0 [] (by rw [typs]) _ _ _ _ hf k1
  rw [List.append_nil, List.append_nil, Nat.add_zero] at k2
  obtain ⟨_, j1⟩ := typs_just 8 hx
  obtain ⟨x', j2, j3⟩ := typs_ren (en' := (a ++ 10 :: b).length) (ρ := id) rfl _ _ _ k2 _ _ _ _ hg j1
  refine ⟨x' ++ y', ?_, ?_⟩
  · unfold prT
    rw [e1]
    dsimp only
    rw [e3]
    exact typs_more hn j2
  · rw [ptxt_id (j3.app k3)]
    unfold ptxt
    rw [List.flatMap_append]
end Go.Proofs.YtpanodaecjlgaaaGreatDoor.tm
/- The law on two texts of templates in one: the walk. -/
namespace Go.Proofs.YtpanodaecjlgaaaGreatDoor.tm
set_option linter.unusedVariables false
open Go.ChangeShapes Go.WideShapes Go.ChangeAt Go.RowKit Go.Shelf
open mem lx ex

set_option maxRecDepth 10000 in
set_option maxHeartbeats 4000000 in
theorem pieces_at (a0 a1 : ByteArray) (w : World) (hG : Gt w) :
    Calls Tryz.prog 5 #[.string a0, .string a1] w fun e w' => e = .returned (.bool true) ∧ Below w.heap.size w w' := by
  have cF := boxed_at w hG
  have cL := long_at a0
  have cM := long_at a1
  have HG : Hid (Gt w) := hG
  clear hG
  go_enter Tryz.func5, Tryz.ntmps5
  go_wp2_with fail
  refine cF.mono ?_
  rintro e w1 ⟨⟨v0, rfl⟩, hb1⟩
  by_cases hs : 900 < a0.size
  · rw [decide_eq_true hs] at cL
    go_wp2_with fail
    refine (cL _).mono ?_
    rintro e w2 ⟨rfl, rfl⟩
    go_wp2
    go_ret
    exact ⟨rfl, hb1⟩
  rw [decide_eq_false hs] at cL
  by_cases ht : 900 < a1.size
  · rw [decide_eq_true ht] at cM
    go_wp2_with fail
    refine (cL _).mono ?_
    rintro e w2 ⟨rfl, rfl⟩
    go_wp2_with fail
    refine (cM _).mono ?_
    rintro e w3 ⟨rfl, rfl⟩
    go_wp2
    go_ret
    exact ⟨rfl, hb1⟩
  rw [decide_eq_false ht] at cM
  have cP := Parse_at a0 w1 (by omega) (HG.out.bl hb1)
  go_wp2_with fail
  refine (cL _).mono ?_
  rintro e w2 ⟨rfl, rfl⟩
  go_wp2_with fail
  refine (cM _).mono ?_
  rintro e w3 ⟨rfl, rfl⟩
  go_wp2_with fail
  refine cP.mono ?_
  rintro e w4 ⟨hb4, hans⟩
  have HB4 : Hid (Bl w w4) := hb1.trans hb4
  have cQ := Parse_at a1 w4 (by omega) (HG.out.bl HB4.out)
  cases hp : prT (L a0) with
  | error cp =>
    obtain ⟨c, p⟩ := cp
    rw [hp] at hans
    obtain ⟨B, rfl, _, _⟩ := hans
    unfold atV
    clear cP cL cM cF hb1 hb4 hp
    go_wp2_with fail
    refine cQ.mono ?_
    rintro e w5 ⟨hb5, hans⟩
    have HB5 : Hid (Bl w w5) := HB4.out.trans hb5
    cases hq : prT (L a1) with
    | error cp =>
      obtain ⟨c', p'⟩ := cp
      rw [hq] at hans
      obtain ⟨B', rfl, _, _⟩ := hans
      unfold atV
      clear hq hb5 cQ
      go_wp2
      go_ret
      exact ⟨rfl, HB5.out⟩
    | ok y =>
      rw [hq] at hans
      obtain ⟨v, rfl, hv⟩ := hans
      obtain ⟨yp, yc, ycs, rfl, _⟩ := hv
      clear hq hb5 cQ
      go_wp2
      go_ret
      exact ⟨rfl, HB5.out⟩
  | ok x =>
    rw [hp] at hans
    obtain ⟨v, rfl, hv⟩ := hans
    obtain ⟨xp, xn, xc, rfl, hxn⟩ : ∃ xp xn xc, v = .slice xp xn xc ∧ xn = x.length := by
      obtain ⟨p, c, cs, h1, _⟩ := hv
      exact ⟨_, _, _, h1, rfl⟩
    have HX : Hid (prT (L a0) = .ok x ∧ (∃ ok, IsTs w4 ok (.slice xp xn xc) x) ∧ xn = x.length) := ⟨hp, ⟨_, hv⟩, hxn⟩
    have hx8 : xn ≤ 8 := by rw [hxn]; exact (prT_told hp (by rw [L_len]; omega)).2.2.2
    clear cP cL cM cF hb1 hb4 hp hv hxn
    go_wp2_with fail
    refine cQ.mono ?_
    rintro e w5 ⟨hb5, hans⟩
    have HB5 : Hid (Bl w w5 ∧ Bl w4 w5) := ⟨HB4.out.trans hb5, hb5⟩
    cases hq : prT (L a1) with
    | error cp =>
      obtain ⟨c', p'⟩ := cp
      rw [hq] at hans
      obtain ⟨B', rfl, _, _⟩ := hans
      unfold atV
      clear hq hb5 cQ
      go_wp2
      go_ret
      exact ⟨rfl, HB5.out.1⟩
    | ok y =>
      rw [hq] at hans
      obtain ⟨v, rfl, hv⟩ := hans
      obtain ⟨yp, yn, yc, rfl, hyn⟩ : ∃ yp yn yc, v = .slice yp yn yc ∧ yn = y.length := by
        obtain ⟨p, c, cs, h1, _⟩ := hv
        exact ⟨_, _, _, h1, rfl⟩
      have HY : Hid (prT (L a1) = .ok y ∧ (∃ ok, IsTs w5 ok (.slice yp yn yc) y) ∧ yn = y.length) := ⟨hq, ⟨_, hv⟩, hyn⟩
      have hy8 : yn ≤ 8 := by rw [hyn]; exact (prT_told hq (by rw [L_len]; omega)).2.2.2
      clear hq hv hyn hb5 cQ
      by_cases h8 : 8 < xn + yn
      · have h8' : (8 : Int) < (xn : Int) + (yn : Int) := by omega
        go_wp2
        go_ret
        exact ⟨rfl, HB5.out.1⟩
      · have h8' : ¬ (8 : Int) < (xn : Int) + (yn : Int) := by omega
        obtain ⟨z, hz1, hz2⟩ := prT_join HX.out.1 HY.out.1 (by rw [← HX.out.2.2, ← HY.out.2.2]; omega)
        obtain ⟨S, hS⟩ : ∃ S, S = a0 ++ ⟨#[10]⟩ ++ a1 := ⟨_, rfl⟩
        have hSs : S.size ≤ 1801 := by rw [hS, ByteArray.size_append, ByteArray.size_append]; show a0.size + 1 + a1.size ≤ 1801; omega
        have hSL : L S = L a0 ++ 10 :: L a1 := by rw [hS, L_app, L_app, List.append_assoc]; rfl
        have cR := Parse_at S w5 (by omega) (HG.out.bl HB5.out.1)
        have HS : Hid (S = a0 ++ ⟨#[10]⟩ ++ a1 ∧ L S = L a0 ++ 10 :: L a1) := ⟨hS, hSL⟩
        rw [hS] at cR
        have HZ : Hid (prT (L a0 ++ 10 :: L a1) = .ok z ∧ ptxt z = ptxt x ++ ptxt y) := ⟨hz1, hz2⟩
        clear hz1 hz2 hS hSL
        go_wp2_with fail
        refine cR.mono ?_
        rintro e w6 ⟨hb6, hans⟩
        rw [show L (a0 ++ ⟨#[10]⟩ ++ a1) = L a0 ++ 10 :: L a1 by rw [← HS.out.1, HS.out.2], HZ.out.1] at hans
        obtain ⟨v, rfl, hv⟩ := hans
        obtain ⟨zp, zn, zc, rfl⟩ : ∃ zp zn zc, v = .slice zp zn zc := by
          obtain ⟨p, c, cs, h1, _⟩ := hv
          exact ⟨_, _, _, h1⟩
        obtain ⟨k1, k2, k3, _⟩ := prT_told HZ.out.1 (by rw [← HS.out.2, L_len]; omega)
        obtain ⟨_, x2, x3, _⟩ := prT_told HX.out.1 (by rw [L_len]; omega)
        obtain ⟨_, y2, y3, _⟩ := prT_told HY.out.1 (by rw [L_len]; omega)
        obtain ⟨okx, hvx⟩ := HX.out.2.1
        obtain ⟨oky, hvy⟩ := HY.out.2.1
        have hvx := (hvx.bl HB5.out.2).bl hb6
        have hvy := hvy.bl hb6
        have hG6 := HG.out.bl (HB5.out.1.trans hb6)
        have pZ := fun wx (hb : Bl w6 wx) => Print_at z (.slice zp zn zc) wx _ (hv.bl hb) k2 (hG6.bl hb) (by omega)
        have pX := fun wx (hb : Bl w6 wx) => Print_at x (.slice xp xn xc) wx _ (hvx.bl hb) x2 (hG6.bl hb) (by omega)
        have pY := fun wx (hb : Bl w6 wx) => Print_at y (.slice yp yn yc) wx _ (hvy.bl hb) y2 (hG6.bl hb) (by omega)
        obtain ⟨X, hX⟩ : ∃ X, X = tx (ptxt x) := ⟨_, rfl⟩
        obtain ⟨Y, hY⟩ : ∃ Y, Y = tx (ptxt y) := ⟨_, rfl⟩
        have hXs : X.size ≤ 300000 := by rw [hX, tx_size]; exact x3
        have hYs : Y.size ≤ 300000 := by rw [hY, tx_size]; exact y3
        rw [HZ.out.2, ← tx_app, ← hX, ← hY] at pZ
        rw [← hX] at pX
        rw [← hY] at pY
        have HB6 : Hid (Bl w w6) := HB5.out.1.trans hb6
        have ho : ¬ 9223372036854775807 < X.size + Y.size := by omega
        clear hX hY k1 k2 k3 x2 x3 y2 y3 hvx hvy hG6 hv hb6 cR
        go_wp2_with fail
        refine (pZ _ (Bl.refl _)).mono ?_
        rintro e w7 ⟨rfl, hb7⟩
        go_wp2_with fail
        refine (pX _ hb7).mono ?_
        rintro e w8 ⟨rfl, hb8⟩
        go_wp2_with fail
        refine (pY _ (hb7.trans hb8)).mono ?_
        rintro e w9 ⟨rfl, hb9⟩
        have HB9 : Hid (Bl w w9) := HB6.out.trans ((hb7.trans hb8).trans hb9)
        clear hb7 hb8 hb9 pZ pX pY
        go_wp2
        go_ret
        exact ⟨rfl, HB9.out⟩
end Go.Proofs.YtpanodaecjlgaaaGreatDoor.tm
