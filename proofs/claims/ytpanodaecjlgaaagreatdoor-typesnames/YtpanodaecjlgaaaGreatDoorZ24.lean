/- Texts laid together: LaidR, TmPa, TyNa, Lk1z. -/
import Derived.Test.YtpanodaecjlgaaaGreatDoorZ11
import Derived.Test.YtpanodaecjlgaaaGreatDoorZ23
import Derived.Test.YtpanodaecjlgaaaGreatDoorZ5
/- What the row's condition on the words of tmpl gives a walk. -/
namespace Go.Proofs.YtpanodaecjlgaaaGreatDoor.laidr
open Go.ChangeShapes Go.WideShapes Go.RowKit
open mem lx ex

theorem gnR : Tryz.prog.globalNamed "escritoire/tmpl.rules" = some 2 := by kernel_rfl
theorem gtR : (Tryz.prog.globals[2]?).map (·.type) = some 154 := by kernel_rfl
theorem gnN : Tryz.prog.globalNamed "escritoire/tmpl.nums" = some 0 := by kernel_rfl
theorem gtN : (Tryz.prog.globals[0]?).map (·.type) = some 105 := by kernel_rfl
theorem c9 : Tryz.prog.cellsOf 9 = 1 := by kernel_rfl
theorem cN : Tryz.prog.cellsOf 104 = 4 := by kernel_rfl
theorem c3 : Tryz.prog.cellsOf 3 = 1 := by kernel_rfl
theorem c4 : Tryz.prog.cellsOf 4 = 1 := by kernel_rfl
def words : List (List UInt8) := [[], tm.wSize, tm.wCount, tm.wCheck]
theorem rules_is : (Rows.laid_escritoire_tmpl_rules : DataW Unit) = .agg (words.map fun t => .lit (.string t)) := by kernel_rfl
theorem nums_is : (Rows.laid_escritoire_tmpl_nums : DataW Unit) = .agg (tm.numW.map fun p => .agg [.lit (.string p.1), .lit (.int .i64 (p.2.1 : Int)), .lit (.int .i64 (p.2.2.1 : Int)), .lit (.bool p.2.2.2)]) := by kernel_rfl
theorem rules_of {W : World} (h1 : Lib.VarReads Tryz.prog W "escritoire/tmpl.rules" Rows.laid_escritoire_tmpl_rules) : W.rangeAt 2 0 tm.ruL := by
  rw [rules_is] at h1
  obtain ⟨g, t, cs, fuel, p, hg, hty, hvar, hd⟩ := h1
  obtain rfl := Option.some.inj (gnR.symm.trans hg)
  obtain rfl := Option.some.inj (gtR.symm.trans hty)
  intro j v hv
  have hj : j < 4 := (List.getElem?_eq_some_iff.1 hv).1
  have hw : tm.ruL = words.map (fun t => Value.string (tx t)) := rfl
  rw [hw, List.getElem?_map] at hv
  obtain ⟨u, hu, rfl⟩ := Option.map_eq_some_iff.1 hv
  obtain ⟨fuel', d, q, h2, h3⟩ := Lib.array_elem Tryz.underlying154 hd j hj
  rw [List.getElem?_map, hu] at h2
  obtain rfl := Option.some.inj h2
  rw [c9, Nat.mul_one] at h3
  obtain ⟨s, e1, e2, _⟩ := DataW.trod_string Tryz.underlying9 h3
  have e3 : u = s.data.toList := by
    have := congrArg Prod.fst e2
    simpa using this
  have e4 : cs.toList[j]? = some (.string s) := by
    have := congrArg (·[0]?) e1
    simpa [List.getElem?_take, List.getElem?_drop] using this
  have := World.var?_cell hg hvar j
  rw [Nat.zero_add, this, ← Array.getElem?_toList, e4, e3]
  rfl
theorem four {enc : TypeId × Value → Unit} {w : World} {base : Nat} {spare : Nat → Bool} {held : Bool} {t : TypeId} {f0 f1 f2 f3 : Field} {fuel : Nat} {cs : List Value} {x : DataW Unit × List MemPlace} (ht : Tryz.prog.underlying t = some (.struct #[f0, f1, f2, f3])) (h : DataW.trod enc Tryz.prog w base spare held fuel t cs = some x) :
    ∃ y0 y1 y2 y3 n, x.1 = .agg [y0.1, y1.1, y2.1, y3.1] ∧ DataW.trod enc Tryz.prog w base spare held n f0.type ((cs.drop f0.offset).take (Tryz.prog.cellsOf f0.type)) = some y0 ∧
      DataW.trod enc Tryz.prog w base spare held n f1.type ((cs.drop f1.offset).take (Tryz.prog.cellsOf f1.type)) = some y1 ∧ DataW.trod enc Tryz.prog w base spare held n f2.type ((cs.drop f2.offset).take (Tryz.prog.cellsOf f2.type)) = some y2 ∧
      DataW.trod enc Tryz.prog w base spare held n f3.type ((cs.drop f3.offset).take (Tryz.prog.cellsOf f3.type)) = some y3 := by
  obtain ⟨xs, n, _, rfl, hl, hlen, hf⟩ := DataW.trod_struct ht h
  match xs, hlen with
  | [y0, y1, y2, y3], _ => exact ⟨y0, y1, y2, y3, n, by simp, by simpa using hf 0 f0 rfl, by simpa using hf 1 f1 rfl, by simpa using hf 2 f2 rfl, by simpa using hf 3 f3 rfl⟩
theorem nums_of {W : World} (h1 : Lib.VarReads Tryz.prog W "escritoire/tmpl.nums" Rows.laid_escritoire_tmpl_nums) : W.rangeAt 0 0 tm.nuL := by
  rw [nums_is] at h1
  obtain ⟨g, t, cs, fuel, p, hg, hty, hvar, hd⟩ := h1
  obtain rfl := Option.some.inj (gnN.symm.trans hg)
  obtain rfl := Option.some.inj (gtN.symm.trans hty)
  have key : ∀ i, i < 12 → ∀ (q : List UInt8 × Nat × Nat × Bool), tm.numW[i]? = some q → cs.toList[i * 4]? = some (.string (tx q.1)) ∧ cs.toList[i * 4 + 1]? = some (.int .i64 (q.2.1 : Int)) ∧ cs.toList[i * 4 + 2]? = some (.int .i64 (q.2.2.1 : Int)) ∧ cs.toList[i * 4 + 3]? = some (.bool q.2.2.2) := by
    intro i hi q hq
    obtain ⟨fuel', d, r, h2, h3⟩ := Lib.array_elem Tryz.underlying105 hd i hi
    rw [List.getElem?_map, hq] at h2
    obtain rfl := Option.some.inj h2
    rw [cN] at h3
    obtain ⟨y0, y1, y2, y3, n, e0, s0, s1, s2, s3⟩ := four Tryz.underlying104 h3
    have e0' : DataW.agg [DataW.lit (Lit.string q.1), DataW.lit (Lit.int .i64 (q.2.1 : Int)), DataW.lit (Lit.int .i64 (q.2.2.1 : Int)), DataW.lit (Lit.bool q.2.2.2)] = DataW.agg [y0.1, y1.1, y2.1, y3.1] := e0
    simp only [DataW.agg.injEq, List.cons.injEq, and_true] at e0'
    obtain ⟨z0, z1, z2, z3⟩ := e0'
    obtain ⟨a0, b0, d0, _⟩ := DataW.trod_string Tryz.underlying9 s0
    obtain ⟨a1, b1, d1, _⟩ := DataW.trod_int Tryz.underlying3 s1
    obtain ⟨a2, b2, d2, _⟩ := DataW.trod_int Tryz.underlying3 s2
    obtain ⟨a3, b3, d3⟩ := DataW.trod_bool Tryz.underlying4 s3
    rw [d0] at z0
    rw [d1] at z1
    rw [d2] at z2
    rw [d3] at z3
    simp only [DataW.lit.injEq, Lit.string.injEq, Lit.int.injEq, Lit.bool.injEq, true_and] at z0 z1 z2 z3
    have f0 := congrArg (·[0]?) b0
    have f1 := congrArg (·[0]?) b1
    have f2 := congrArg (·[0]?) b2
    have f3 := congrArg (·[0]?) b3
    simp [List.getElem?_drop, c9, c3, c4] at f0 f1 f2 f3
    refine ⟨?_, ?_, ?_, ?_⟩
    · rw [z0, show tx a0.data.toList = a0 from tx_L a0]; simpa using f0
    · rw [z1]; simpa using f1
    · rw [z2]; simpa using f2
    · rw [z3]; simpa using f3
  intro j v hv
  have hj : j < 48 := (List.getElem?_eq_some_iff.1 hv).1
  rw [Nat.zero_add, World.var?_cell hg hvar j, ← Array.getElem?_toList]
  obtain ⟨i, r, hr, rfl⟩ : ∃ i r, r < 4 ∧ j = i * 4 + r := ⟨j / 4, j % 4, Nat.mod_lt _ (by decide), by omega⟩
  obtain ⟨q, hq⟩ : ∃ q, tm.numW[i]? = some q := ⟨_, List.getElem?_eq_getElem (show i < tm.numW.length by show i < 12; omega)⟩
  obtain ⟨k0, k1, k2, k3⟩ := key i (by omega) q hq
  obtain ⟨n1, n2, n3⟩ := tm.nuL_get i q hq
  have n0 : tm.nuL[i * 4]? = some (.string (tx q.1)) := by
    have : ∀ i, i < 12 → ∀ q, tm.numW[i]? = some q → tm.nuL[i * 4]? = some (.string (tx q.1)) := by
      intro i hi q hq
      rcases i with _ | _ | _ | _ | _ | _ | _ | _ | _ | _ | _ | _ | i
      all_goals first | (obtain rfl := Option.some.inj hq; rfl) | omega
    exact this i (by omega) q hq
  rcases r with _ | _ | _ | _ | r
  · rw [Nat.add_zero] at hv ⊢; rw [k0, ← hv, n0]
  · rw [k1, ← hv, n1]
  · rw [k2, ← hv, n2]
  · rw [k3, ← hv, n3]
  · omega
/-- The list that the row lays. -/
def list : List (String × DataW Unit) := [("math/bits.deBruijn32tab", Rows.laid_math_bits_deBruijn32tab), ("math/bits.deBruijn64tab", Rows.laid_math_bits_deBruijn64tab), ("internal/strconv.uint64pow10", Rows.laid_internal_strconv_uint64pow10), ("errors.errorType", Rows.laid_errors_errorType), ("escritoire/lex.marks", Rows.laid_escritoire_lex_marks), ("escritoire/tmpl.nums", Rows.laid_escritoire_tmpl_nums), ("escritoire/tmpl.rules", Rows.laid_escritoire_tmpl_rules)]
def plain : List (String × DataW Unit) := [("math/bits.deBruijn32tab", Rows.laid_math_bits_deBruijn32tab), ("math/bits.deBruijn64tab", Rows.laid_math_bits_deBruijn64tab), ("internal/strconv.uint64pow10", Rows.laid_internal_strconv_uint64pow10), ("escritoire/lex.marks", Rows.laid_escritoire_lex_marks), ("escritoire/tmpl.nums", Rows.laid_escritoire_tmpl_nums), ("escritoire/tmpl.rules", Rows.laid_escritoire_tmpl_rules)]
set_option maxRecDepth 100000 in
theorem some_of : (list.filter fun x => x.2.handleName?.isSome) = laying.list := by kernel_rfl
set_option maxRecDepth 100000 in
theorem none_of : (list.filter fun x => x.2.handleName?.isNone) = plain := by kernel_rfl
theorem of_laid {W : World} (h : laidMetH Tryz.prog list W) : tm.Gt W := by
  unfold laidMetH at h
  rw [some_of] at h
  have h' : laidMet Tryz.prog (list.filter fun x => x.2.handleName?.isNone) W ∧ handlesMet Tryz.prog laying.list W := h
  have h1 := h'.1
  rw [none_of] at h1
  obtain ⟨hp, hl⟩ := laidx.pw_of (Lib.laidMet.reads h1 (.tail _ (.tail _ (.head _))))
  exact ⟨⟨laidm.marks_of_reads (Lib.laidMet.reads h1 (.tail _ (.tail _ (.tail _ (.head _))))), laying.handle_of_laid (show laidMetH Tryz.prog laying.list W from ⟨⟨[], rfl, List.nodup_nil, fun _ _ h => by cases h⟩, h'.2⟩), hp, hl⟩,
    rules_of (Lib.laidMet.reads h1 (.tail _ (.tail _ (.tail _ (.tail _ (.tail _ (.head _))))))), nums_of (Lib.laidMet.reads h1 (.tail _ (.tail _ (.tail _ (.tail _ (.head _))))))⟩
theorem names_of : (plain.filter fun x => ["math/bits.deBruijn32tab", "math/bits.deBruijn64tab", "internal/strconv.uint64pow10", "escritoire/lex.marks", "escritoire/tmpl.nums", "escritoire/tmpl.rules"].contains x.1) = plain := by kernel_rfl
theorem names_not : (plain.filter fun x => !["math/bits.deBruijn32tab", "math/bits.deBruijn64tab", "internal/strconv.uint64pow10", "escritoire/lex.marks", "escritoire/tmpl.nums", "escritoire/tmpl.rules"].contains x.1) = [] := by kernel_rfl
set_option maxRecDepth 100000 in
theorem world_met (os : Os) (args : Array Value) : laidMetH Tryz.prog list ((World.layVars Tryz.prog (laying.layCell (World.holding Tryz.prog os ⟨#[], #[], []⟩)) plain).forCall (fun _ _ => 0) ⟨#[], args, []⟩).memory := by
  refine laidMetH_of_parts ?_ ?_
  · rw [none_of]
    refine laidMet_layVars (w0 := laying.layCell (World.holding Tryz.prog os ⟨#[], #[], []⟩)) ["math/bits.deBruijn32tab", "math/bits.deBruijn64tab", "internal/strconv.uint64pow10", "escritoire/lex.marks", "escritoire/tmpl.nums", "escritoire/tmpl.rules"] [] ?_ ?_ ?_ ?_
    · rw [names_of]; simp [World.memory, World.forCall, Input.heap]
    · rw [names_of]; kernel_rfl
    · rw [names_of]; kernel_rfl
    · rw [names_not]; exact LaidIn.none
  · rw [some_of]; kernel_rfl
end Go.Proofs.YtpanodaecjlgaaaGreatDoor.laidr
/- Templates: one behind the other (pure). -/
namespace Go.Proofs.YtpanodaecjlgaaaGreatDoor.tm
set_option linter.unusedVariables false
open lx ex

theorem RT.app {l l' m m' : List Ty} (h : RT id l l') (k : RT id m m') : RT id (l ++ m) (l' ++ m') := by
  induction h with
  | nil => exact k
  | cons hn hi _ ih => exact RT.cons hn hi ih
/-- Two texts of templates in one are both. -/
theorem prT_join {a b : List UInt8} {x y : List Ty} (hx : prT a = .ok x) (hy : prT b = .ok y) (hn : x.length + y.length ≤ 8) :
    ∃ z, prT (a ++ 10 :: b) = .ok z ∧ ptxt z = ptxt x ++ ptxt y := by
  unfold prT at hx hy
  split at hx
  · cases hx
  rename_i hx0
  split at hy
  · cases hy
  rename_i hy0
  have e1 := lx_join _ a 0 (lx a 0).1 b (Nat.le_refl _) (by rw [← hx0])
  obtain ⟨e2, e3⟩ := lx_else _ b 0 (0 + a.length + 1) (Nat.le_refl _)
  have e3 := e3 hy0
  have hf : RF id (lx b 0).1 (lx b (0 + a.length + 1)).1 := rf_id e2.symm
  have hg : RF id (lx a 0).1 (lx a 0).1 := rf_id rfl
  obtain ⟨_, k1⟩ := typs_just 8 hy
  obtain ⟨y', k2, k3⟩ := typs_ren (en' := (a ++ 10 :: b).length) (ρ := id) rfl [] 0 [] (by rw [typs]) _ _ _ _ hf k1
  rw [List.append_nil, List.append_nil, Nat.add_zero] at k2
  obtain ⟨_, j1⟩ := typs_just 8 hx
  obtain ⟨x', j2, j3⟩ := typs_ren (en' := (a ++ 10 :: b).length) (ρ := id) rfl _ _ _ k2 _ _ _ _ hg j1
  refine ⟨x' ++ y', ?_, ?_⟩
  · unfold prT
    rw [e1]
    dsimp only
    rw [e3]
    exact typs_more hn j2
  · rw [ptxt_id (j3.app k3)]
    unfold ptxt
    rw [List.flatMap_append]
end Go.Proofs.YtpanodaecjlgaaaGreatDoor.tm
/- Templates: with a letter more at each name (pure). -/
namespace Go.Proofs.YtpanodaecjlgaaaGreatDoor.tm
set_option linter.unusedVariables false
open lx ex

/-- A letter more: at names of no more than 12 letters; at all names. -/
def ren (t : List UInt8) : List UInt8 := if isN t = true ∧ resv t = false ∧ t.length ≤ 12 then t ++ [90] else t
def ren2 (t : List UInt8) : List UInt8 := if isN t = true ∧ resv t = false then t ++ [90] else t
theorem isN_more {t : List UInt8} (h : isN t = true) : isN (t ++ [90]) = true := by
  cases t with
  | nil => revert h; decide
  | cons c r => exact h
theorem resv_last {t : List UInt8} (h : resv t = true) : t.getLast? ≠ some 90 := by
  unfold resv at h
  rw [Bool.or_eq_true] at h
  rcases h with h | h
  · have : t ∈ [wStruct, wBytes, wWhen, wSize, wCount, wCheck] := by simpa using h
    have key : ∀ u ∈ [wStruct, wBytes, wWhen, wSize, wCount, wCheck], u.getLast? ≠ some 90 := by decide
    exact key t this
  · unfold numOf at h
    rw [Option.isSome_map, List.find?_isSome] at h
    obtain ⟨p, hp, he⟩ := h
    have key : ∀ q ∈ numW, q.1.getLast? ≠ some 90 := by decide
    have := key p hp
    rw [beq_iff_eq] at he
    rw [← he]; exact this
theorem resv_more (t : List UInt8) : resv (t ++ [90]) = false := by
  cases h : resv (t ++ [90]) with
  | false => rfl
  | true => exact absurd (by simp) (resv_last h)
theorem ren_gd {t : List UInt8} (h : isN t = true → resv t = false → t.length ≤ 12 → t.length ≤ 11) : Gd ren t := by
  refine ⟨fun hc => ?_, fun h1 h2 => ?_⟩
  · unfold ren
    rw [if_neg]
    rintro ⟨a, b, _⟩
    rcases hc with hc | hc
    · rw [hc] at a; cases a
    · rw [hc] at b; cases b
  · unfold ren
    by_cases h3 : t.length ≤ 12
    · rw [if_pos ⟨h1, h2, h3⟩]
      exact ⟨isN_more h1, resv_more t, fun _ => by have := h h1 h2 h3; simp; omega⟩
    · rw [if_neg (fun hc => h3 hc.2.2)]
      exact ⟨h1, h2, fun hc => hc⟩
theorem ren_two {t : List UInt8} (h : t.length ≤ 12) : ren2 t = ren t := by
  unfold ren ren2
  by_cases hc : isN t = true ∧ resv t = false
  · rw [if_pos hc, if_pos ⟨hc.1, hc.2, h⟩]
  · rw [if_neg hc, if_neg (fun k => hc ⟨k.1, k.2.1⟩)]
theorem ren2_inj : Inj ren2 := by
  have key : ∀ t, (isN (ren2 t) = true ∧ resv (ren2 t) = false) ↔ (isN t = true ∧ resv t = false) := by
    intro t
    unfold ren2
    split
    · rename_i h
      exact ⟨fun _ => h, fun _ => ⟨isN_more h.1, resv_more t⟩⟩
    · exact Iff.rfl
  intro a b h
  have hab := key a
  rw [h, key b] at hab
  unfold ren2 at h
  by_cases ha : isN a = true ∧ resv a = false
  · rw [if_pos ha, if_pos (hab.2 ha)] at h
    exact List.append_cancel_right h
  · rw [if_neg ha, if_neg (fun hb => ha (hab.1 hb))] at h
    exact h
/-- Expressions' names are short. -/
theorem wf_two {x y : Ex} (h : Rx ren x y) (hw : Wf (nb := nb) Lib.itoa x) : Rx ren2 x y := by
  induction h with
  | num a b k => exact Rx.num _ _ _
  | nam a b t => 
    have : t.length ≤ 12 := hw.2
    rw [← ren_two this]
    exact Rx.nam _ _ _
  | bin a b o l l' r r' _ _ il ir => exact Rx.bin _ _ _ _ _ _ _ (il hw.2.1) (ir hw.2.2)
theorem ro_two {o o' : Option Ex} (h : RO ren o o') (hw : ∀ x, o = some x → WX x) : RO ren2 o o' := by
  cases h with
  | none => exact RO.none
  | some hx => exact RO.some (wf_two hx (hw _ rfl).1)
theorem nm_two {t u : List UInt8} (h : u = ren t) (hn : NM t ∨ t = []) : u = ren2 t := by
  rw [h]
  rcases hn with hn | rfl
  · exact (ren_two hn.2.2.1).symm
  · rfl
theorem wd_names {d : D} (h : WD d) : (NM d.nm ∨ d.nm = []) ∧ (NM d.ty ∨ d.ty = []) ∧ (NM d.f1 ∨ d.f1 = []) ∧ (NM d.l1 ∨ d.l1 = []) := by
  rcases h with h | h | h | h
  · exact ⟨Or.inr h.2.2.1, Or.inr h.2.2.2.2.2.1, Or.inr h.2.2.2.2.2.2.1, Or.inr h.2.2.2.2.2.2.2.1⟩
  · exact ⟨Or.inl h.2.1, Or.inr h.2.2.2.2.2.1, Or.inr h.2.2.2.2.2.2.2.2.2.1, Or.inr h.2.2.2.2.2.2.2.2.2.2⟩
  · exact ⟨Or.inl h.2.2.1, Or.inl h.2.1, Or.inr h.2.2.2.2.2.2.2.1, Or.inr h.2.2.2.2.2.2.2.2.1⟩
  · refine ⟨Or.inl h.2.2.2.1, Or.inr h.2.1, ?_⟩
    rcases h.2.2.2.2 with k | ⟨_, _, k | k | k⟩
    · exact ⟨Or.inr k.2.2.2.1, Or.inr k.2.2.2.2⟩
    · exact ⟨Or.inr k.2.1, Or.inr k.2.2⟩
    · exact ⟨Or.inl k.2.1, Or.inr k.2.2⟩
    · exact ⟨Or.inl k.2.1, Or.inl k.2.2⟩
theorem rd_two {d d' : D} (h : RD ren d d') (hw : WD d) : RD ren2 d d' := by
  obtain ⟨n1, n2, n3, n4⟩ := wd_names hw
  exact ⟨h.kd, nm_two h.nm n1, nm_two h.ty n2, h.wd, h.od, h.sg, h.mn, ro_two h.ct (wd_wx hw), h.ru, nm_two h.f1 n3, nm_two h.l1 n4⟩
theorem ri_two {l l' : Its} (h : RI ren l l') : ∀ k, WI k l → RI ren2 l l' := by
  induction h with
  | nil => intro k _; exact RI.nil
  | @cons d d' s s' t t' hd hs ht is it =>
    intro k hw
    obtain ⟨w1, w2, w3, w4⟩ := hw
    refine RI.cons (rd_two hd w1) ?_ (it k w4)
    by_cases h4 : d.kd = 4
    · exact is (k - 1) (w3 h4).2.2
    · have := w2 h4
      cases s with
      | nil => cases hs; exact RI.nil
      | cons _ _ _ => cases this
theorem rt_two {l l' : List Ty} (h : RT ren l l') (hw : ∀ t ∈ l, NM t.nm ∧ t.l.len ≤ 16 ∧ WI 7 t.l) : RT ren2 l l' := by
  induction h with
  | nil => exact RT.nil
  | @cons t t' l l' hn hi _ ih =>
    obtain ⟨w1, w2, w3⟩ := hw t (by simp)
    exact RT.cons (nm_two hn (Or.inl w1)) (ri_two hi 7 w3) (ih (fun u hu => hw u (by simp [hu])))
/-- A token with a letter more. -/
theorem isT_more {t : List UInt8} (h : IsT t) : IsT (ren t) := by
  unfold ren
  split
  · rename_i hc
    left
    rcases h with ⟨h1, h2⟩ | ⟨c, rfl, h2⟩ | rfl | rfl
    · refine ⟨by simp, fun c hm => ?_⟩
      rw [List.mem_append] at hm
      rcases hm with hm | hm
      · exact h2 c hm
      · obtain rfl : c = 90 := by simpa using hm
        decide
    · exfalso
      have h3 := (isM_not c (Or.inl h2)).2.2
      have h4 : isL c = true := hc.1
      unfold isW at h3
      rw [h4] at h3
      cases h3
    · exact absurd hc.1 (by decide)
    · exact absurd hc.1 (by decide)
  · exact h
/-- NAMES ARE BUT NAMES. -/
theorem prT_names {s : List UInt8} {x : List Ty} (hx : prT s = .ok x) (hs : s.length ≤ 3000) (hl : ∀ t ∈ (lx s 0).1, isN t.t = true → resv t.t = false → t.t.length ≤ 12 → t.t.length ≤ 11) :
    ∃ y, prT (jb [32] ((lx s 0).1.map (fun t => ren t.t))) = .ok y ∧ code (chk y) = code (chk x) := by
  obtain ⟨_, hW, _, _⟩ := prT_told hx hs
  unfold prT at hx
  split at hx
  · cases hx
  rename_i hx0
  have hch := lx_ch s _ 0 (Nat.le_refl _) (Nat.zero_le _)
  rw [List.drop_zero] at hch
  have hT := ch_is hch
  obtain ⟨e1, e2⟩ := relex [32] (by decide) ((lx s 0).1.map (fun t => ren t.t)) (fun u hu => by
    obtain ⟨t, ht, rfl⟩ := List.mem_map.1 hu
    exact isT_more (hT t ht)) 0
  have hf : RF ren (lx s 0).1 (lx (jb [32] ((lx s 0).1.map (fun t => ren t.t))) 0).1 := rf_map (fun t ht => ren_gd (hl t ht)) e1
  obtain ⟨_, k1⟩ := typs_just 8 hx
  obtain ⟨y, k2, k3⟩ := typs_ren (en' := (jb [32] ((lx s 0).1.map (fun t => ren t.t))).length) (ρ := ren) (by decide) [] 0 [] (by rw [typs]) _ _ _ _ hf k1
  rw [List.append_nil, List.append_nil, Nat.add_zero] at k2
  refine ⟨y, ?_, chk_ren ren2_inj (rt_two k3 hW.2)⟩
  unfold prT
  rw [e2]
  exact typs_more hW.1 k2
/-- Is it a name, as reading asks? -/
theorem prT_one {t : List UInt8} (h1 : isN t = true) (h2 : IsT t) : (∃ l, prT (wStruct ++ [32] ++ t ++ [32, 123, 125]) = .ok l) ↔ (resv t = false ∧ t.length ≤ 12) := by
  have hw : ∀ c ∈ t, isW c = true := by
    rcases h2 with ⟨_, h⟩ | ⟨c, rfl, h⟩ | rfl | rfl
    · exact h
    · exfalso
      have h3 := (isM_not c (Or.inl h)).2.2
      have h4 : isL c = true := h1
      unfold isW at h3
      rw [h4] at h3
      cases h3
    · revert h1; decide
    · revert h1; decide
  have e1 : lx (wStruct ++ [32] ++ t ++ [32, 123, 125]) 0 = ([⟨wStruct, 0⟩, ⟨t, 7⟩, ⟨[123], 7 + t.length + 1⟩, ⟨[125], 7 + t.length + 1 + 1⟩], none) := by
    have nb : ∀ c y, isW c = false → (∀ d ∈ wStruct, isW d = true) → ∀ d, (c :: y : List UInt8).head? = some d → isW d = false := by
      intro c y hc _ d hd
      simp at hd
      rw [← hd]; exact hc
    rw [List.append_assoc, List.append_assoc]
    rw [lx_app wStruct _ 0 (Or.inl ⟨by decide, by decide⟩) (fun _ d hd => by simp at hd; rw [← hd]; decide) (fun h => absurd h (by decide))]
    rw [show [32] ++ (t ++ [32, 123, 125]) = 32 :: (t ++ [32, 123, 125]) from rfl, lx_blank 32 _ _ (by decide)]
    rw [lx_app t _ _ h2 (fun _ d hd => by simp at hd; rw [← hd]; decide) (fun h => by rw [h] at h1; revert h1; decide)]
    rw [lx_blank 32 _ _ (by decide)]
    rw [show [123, 125] = [123] ++ ([125] : List UInt8) from rfl, lx_app [123] _ _ (Or.inr (Or.inl ⟨123, rfl, by decide⟩)) (fun h => absurd (h 123 (by simp)) (by decide)) (fun h => absurd h (by decide))]
    rw [show ([125] : List UInt8) = [125] ++ [] from rfl, lx_app [125] _ _ (Or.inr (Or.inl ⟨125, rfl, by decide⟩)) (fun h => absurd (h 125 (by simp)) (by decide)) (fun h => absurd h (by decide)), lx_nil]
    rfl
  unfold prT
  rw [e1]
  dsimp only
  generalize (wStruct ++ [32] ++ t ++ [32, 123, 125]).length = en
  have hname : name en [⟨t, 7⟩, ⟨[123], 7 + t.length + 1⟩, ⟨[125], 7 + t.length + 1 + 1⟩] = if resv t = true ∨ isN t = false then .error (3, 7) else if 12 < t.length then .error (4, 7) else .ok (t, [⟨[123], 7 + t.length + 1⟩, ⟨[125], 7 + t.length + 1 + 1⟩]) := rfl
  rw [typs, if_pos rfl, hname]
  cases hr : resv t with
  | true =>
    rw [if_pos (Or.inl rfl)]
    exact ⟨fun ⟨l, h⟩ => (by cases h), fun h => absurd h.1 (by simp)⟩
  | false =>
    rw [if_neg (by rw [h1]; simp)]
    by_cases h12 : 12 < t.length
    · rw [if_pos h12]
      exact ⟨fun ⟨l, h⟩ => (by cases h), fun h => absurd h.2 (by omega)⟩
    · rw [if_neg h12]
      refine ⟨fun _ => ⟨rfl, by omega⟩, fun _ => ?_⟩
      dsimp only
      rw [blk, if_pos (by rfl), loop, if_pos (by rfl)]
      dsimp only [List.tail]
      rw [typs]
      exact ⟨_, rfl⟩
end Go.Proofs.YtpanodaecjlgaaaGreatDoor.tm
/- Rows of tokens that are alike: slices.Equal; cutUp of the laws. -/
namespace Go.Proofs.YtpanodaecjlgaaaGreatDoor.lx
set_option linter.unusedVariables false
open Go.ChangeShapes Go.WideShapes Go.ChangeAt Go.RowKit
open mem

theorem neTk (x : Tk) (w : World) : (binOp .neq 49 (.agg #[.string (tx x.t), .int .i64 (x.a : Int)]) (.agg #[.string (tx x.t), .int .i64 (x.a : Int)])).run Tryz.prog w = .ok (.bool false) w := by
  rw [run_neq_struct]
  go_simp
set_option maxRecDepth 10000 in
theorem equal_at (l : List Tk) (u v : Value) (w : World) (hu : tr.View w u l) (hv : tr.View w v l) (hl : l.length ≤ 100000) :
    Calls Tryz.prog 46 #[u, v] w fun e w' => e = .returned (.bool true) ∧ Bl w w' := by
  obtain ⟨p, c, rfl, hc, hp⟩ := hu
  obtain ⟨q, d, rfl, hd, hq⟩ := hv
  have HP : Hid (tr.In w p l) := hp
  have HQ : Hid (tr.In w q l) := hq
  clear hp hq
  obtain ⟨n, hn⟩ : ∃ n, n = l.length := ⟨_, rfl⟩
  rw [← hn] at hc hd hl ⊢
  have HN : Hid (n = l.length) := hn
  clear hn
  go_enter Tryz.func46, Tryz.ntmps46
  go_wp2
  go_loopw [13] (fun i wr => ∃ k : Nat, k ≤ n ∧ i = .int .i64 (k : Int) ∧ Hid (Bl w wr)) (fun i _ => n - (intOf i).toNat)
  case atStart => exact ⟨0, Nat.zero_le _, rfl, Bl.refl _⟩
  case round =>
    obtain ⟨k, hk, rfl, HB⟩ := hrel
    by_cases h1 : k < n
    · have d1 : decide ((k : Int) < (n : Int)) = true := decide_eq_true (by omega)
      have hkl : k < l.length := by have := HN.out; omega
      obtain ⟨x, rfl, a1, a2⟩ := (HP.out.step HB.out).at' k hkl
      obtain ⟨y, rfl, b1, b2⟩ := (HQ.out.step HB.out).at' k hkl
      have hE := neTk l[k]
      generalize l[k] = t at *
      go_wp2
      go_quiet (fail)
      go_wp2
      go_roundw
      case rel => exact ⟨k + 1, by omega, by go_num, HB.out.drewN _⟩
      case measure => simp [intOf]; omega
    · have d1 : decide ((k : Int) < (n : Int)) = false := decide_eq_false (by omega)
      go_wp2
      go_ret
      exact ⟨rfl, HB.out⟩
theorem lit_view (l : List Tk) (B c : Nat) (w : World) (hc : l.length ≤ c) (h : w.heap[B]? = some (.cells (tr.rowE l).toArray 49 (0, 0))) : tr.View w (.slice (some ⟨B, 0, none⟩) l.length c) l := by
  refine ⟨_, _, rfl, hc, Or.inr ⟨_, rfl, fun j u hu => ?_⟩⟩
  rw [Addr.add_lit, Nat.zero_add, cell_of h]
  simpa using hu
/-- The fixed tokens. -/
def fixT : List Tk := [⟨[97], 0⟩, ⟨[61, 61], 1⟩, ⟨[49, 50], 3⟩, ⟨[59], 10⟩]
theorem fix_lx : lx (L ⟨#[97, 61, 61, 49, 50, 32, 35, 32, 98, 10, 59]⟩) 0 = (fixT, none) := by decide
theorem cutUp_at (w : World) (hm : Mks w) : Calls Tryz.prog 20 #[] w fun e w' => e = .returned (.bool true) ∧ Bl w w' := by
  have c1 := Lex_at ⟨#[97, 61, 61, 49, 50, 32, 35, 32, 98, 10, 59]⟩ w (by decide) hm
  have c2 := Name_at ⟨#[120, 49]⟩
  rw [show nmb (L ⟨#[120, 49]⟩) = true by decide] at c2
  go_enter Tryz.func20, Tryz.ntmps20
  go_wp2_with fail
  refine c1.mono ?_
  rintro e w1 ⟨hb1, ⟨h1, v, rfl, h2⟩ | ⟨p, B, h1, _⟩⟩
  · rw [fix_lx] at h2
    have HO : Hid (tr.Own w1 w.heap.size v fixT) := h2
    clear h1 h2 c1
    go_wp2_with fail
    refine (equal_at fixT v _ _ ((HO.out.step ((Bl.refl _).alloc _)).view) (lit_view fixT w1.heap.size 4 _ (by decide) (new_at w1 _)) (by decide)).mono ?_
    rintro e w2 ⟨rfl, hb2⟩
    go_wp2_with fail
    refine (c2 _).mono ?_
    rintro e w3 ⟨rfl, rfl⟩
    go_wp2
    go_ret
    exact ⟨rfl, hb1.trans (((Bl.refl _).alloc _).trans hb2)⟩
  · rw [fix_lx] at h1
    cases h1
end Go.Proofs.YtpanodaecjlgaaaGreatDoor.lx
