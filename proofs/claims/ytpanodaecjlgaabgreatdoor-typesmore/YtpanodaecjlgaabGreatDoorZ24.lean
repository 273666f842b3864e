/- Texts laid together: LaidR, TmPa, TyMa, TrP. -/
import Derived.Test.YtpanodaecjlgaabGreatDoorZ11
import Derived.Test.YtpanodaecjlgaabGreatDoorZ23
import Derived.Lib.IndexMore
/- What the row's condition on the words of tmpl gives a walk. -/
namespace Go.Proofs.YtpanodaecjlgaabGreatDoor.laidr
open Go.ChangeShapes Go.WideShapes Go.RowKit
open mem lx ex

theorem gnR : Tryz.prog.globalNamed "escritoire/tmpl.rules" = some 3 := by kernel_rfl
theorem gtR : (Tryz.prog.globals[3]?).map (·.type) = some 134 := by kernel_rfl
theorem gnN : Tryz.prog.globalNamed "escritoire/tmpl.nums" = some 0 := by kernel_rfl
theorem gtN : (Tryz.prog.globals[0]?).map (·.type) = some 73 := by kernel_rfl
theorem c9 : Tryz.prog.cellsOf 9 = 1 := by kernel_rfl
theorem cN : Tryz.prog.cellsOf 72 = 4 := by kernel_rfl
theorem c3 : Tryz.prog.cellsOf 3 = 1 := by kernel_rfl
theorem c4 : Tryz.prog.cellsOf 4 = 1 := by kernel_rfl
def words : List (List UInt8) := [[], tm.wSize, tm.wCount, tm.wCheck]
theorem rules_is : (Rows.laid_escritoire_tmpl_rules : DataW Unit) = .agg (words.map fun t => .lit (.string t)) := by kernel_rfl
theorem nums_is : (Rows.laid_escritoire_tmpl_nums : DataW Unit) = .agg (tm.numW.map fun p => .agg [.lit (.string p.1), .lit (.int .i64 (p.2.1 : Int)), .lit (.int .i64 (p.2.2.1 : Int)), .lit (.bool p.2.2.2)]) := by kernel_rfl
theorem rules_of {W : World} (h1 : Lib.VarReads Tryz.prog W "escritoire/tmpl.rules" Rows.laid_escritoire_tmpl_rules) : W.rangeAt 3 0 tm.ruL := by
  rw [rules_is] at h1
  obtain ⟨g, t, cs, fuel, p, hg, hty, hvar, hd⟩ := h1
  obtain rfl := Option.some.inj (gnR.symm.trans hg)
  obtain rfl := Option.some.inj (gtR.symm.trans hty)
  intro j v hv
  have hj : j < 4 := (List.getElem?_eq_some_iff.1 hv).1
  have hw : tm.ruL = words.map (fun t => Value.string (tx t)) := rfl
  rw [hw, List.getElem?_map] at hv
  obtain ⟨u, hu, rfl⟩ := Option.map_eq_some_iff.1 hv
  obtain ⟨fuel', d, q, h2, h3⟩ := Lib.array_elem Tryz.underlying134 hd j hj
  rw [List.getElem?_map, hu] at h2
  obtain rfl := Option.some.inj h2
  rw [c9, Nat.mul_one] at h3
  obtain ⟨s, e1, e2, _⟩ := DataW.trod_string Tryz.underlying9 h3
  have e3 : u = s.data.toList := by
    have := congrArg Prod.fst e2
    simpa using this
  have e4 : cs.toList[j]? = some (.string s) := by
    have := congrArg (·[0]?) e1
    simpa [List.getElem?_take, List.getElem?_drop] using this
  have := World.var?_cell hg hvar j
  rw [Nat.zero_add, this, ← Array.getElem?_toList, e4, e3]
  rfl
theorem four {enc : TypeId × Value → Unit} {w : World} {base : Nat} {spare : Nat → Bool} {held : Bool} {t : TypeId} {f0 f1 f2 f3 : Field} {fuel : Nat} {cs : List Value} {x : DataW Unit × List MemPlace} (ht : Tryz.prog.underlying t = some (.struct #[f0, f1, f2, f3])) (h : DataW.trod enc Tryz.prog w base spare held fuel t cs = some x) :
    ∃ y0 y1 y2 y3 n, x.1 = .agg [y0.1, y1.1, y2.1, y3.1] ∧ DataW.trod enc Tryz.prog w base spare held n f0.type ((cs.drop f0.offset).take (Tryz.prog.cellsOf f0.type)) = some y0 ∧
      DataW.trod enc Tryz.prog w base spare held n f1.type ((cs.drop f1.offset).take (Tryz.prog.cellsOf f1.type)) = some y1 ∧ DataW.trod enc Tryz.prog w base spare held n f2.type ((cs.drop f2.offset).take (Tryz.prog.cellsOf f2.type)) = some y2 ∧
      DataW.trod enc Tryz.prog w base spare held n f3.type ((cs.drop f3.offset).take (Tryz.prog.cellsOf f3.type)) = some y3 := by
  obtain ⟨xs, n, _, rfl, hl, hlen, hf⟩ := DataW.trod_struct ht h
  match xs, hlen with
  | [y0, y1, y2, y3], _ => exact ⟨y0, y1, y2, y3, n, by simp, by simpa using hf 0 f0 rfl, by simpa using hf 1 f1 rfl, by simpa using hf 2 f2 rfl, by simpa using hf 3 f3 rfl⟩
theorem nums_of {W : World} (h1 : Lib.VarReads Tryz.prog W "escritoire/tmpl.nums" Rows.laid_escritoire_tmpl_nums) : W.rangeAt 0 0 tm.nuL := by
  rw [nums_is] at h1
  obtain ⟨g, t, cs, fuel, p, hg, hty, hvar, hd⟩ := h1
  obtain rfl := Option.some.inj (gnN.symm.trans hg)
  obtain rfl := Option.some.inj (gtN.symm.trans hty)
  have key : ∀ i, i < 12 → ∀ (q : List UInt8 × Nat × Nat × Bool), tm.numW[i]? = some q → cs.toList[i * 4]? = some (.string (tx q.1)) ∧ cs.toList[i * 4 + 1]? = some (.int .i64 (q.2.1 : Int)) ∧ cs.toList[i * 4 + 2]? = some (.int .i64 (q.2.2.1 : Int)) ∧ cs.toList[i * 4 + 3]? = some (.bool q.2.2.2) := by
    intro i hi q hq
    obtain ⟨fuel', d, r, h2, h3⟩ := Lib.array_elem Tryz.underlying73 hd i hi
    rw [List.getElem?_map, hq] at h2
    obtain rfl := Option.some.inj h2
    rw [cN] at h3
    obtain ⟨y0, y1, y2, y3, n, e0, s0, s1, s2, s3⟩ := four Tryz.underlying72 h3
    have e0' : DataW.agg [DataW.lit (Lit.string q.1), DataW.lit (Lit.int .i64 (q.2.1 : Int)), DataW.lit (Lit.int .i64 (q.2.2.1 : Int)), DataW.lit (Lit.bool q.2.2.2)] = DataW.agg [y0.1, y1.1, y2.1, y3.1] := e0
    simp only [DataW.agg.injEq, List.cons.injEq, and_true] at e0'
    obtain ⟨z0, z1, z2, z3⟩ := e0'
    obtain ⟨a0, b0, d0, _⟩ := DataW.trod_string Tryz.underlying9 s0
    obtain ⟨a1, b1, d1, _⟩ := DataW.trod_int Tryz.underlying3 s1
    obtain ⟨a2, b2, d2, _⟩ := DataW.trod_int Tryz.underlying3 s2
    obtain ⟨a3, b3, d3⟩ := DataW.trod_bool Tryz.underlying4 s3
    rw [d0] at z0
    rw [d1] at z1
    rw [d2] at z2
    rw [d3] at z3
    simp only [DataW.lit.injEq, Lit.string.injEq, Lit.int.injEq, Lit.bool.injEq, true_and] at z0 z1 z2 z3
    have f0 := congrArg (·[0]?) b0
    have f1 := congrArg (·[0]?) b1
    have f2 := congrArg (·[0]?) b2
    have f3 := congrArg (·[0]?) b3
    simp [List.getElem?_drop, c9, c3, c4] at f0 f1 f2 f3
    refine ⟨?_, ?_, ?_, ?_⟩
    · rw [z0, show tx a0.data.toList = a0 from tx_L a0]; simpa using f0
    · rw [z1]; simpa using f1
    · rw [z2]; simpa using f2
    · rw [z3]; simpa using f3
  intro j v hv
  have hj : j < 48 := (List.getElem?_eq_some_iff.1 hv).1
  rw [Nat.zero_add, World.var?_cell hg hvar j, ← Array.getElem?_toList]
  obtain ⟨i, r, hr, rfl⟩ : ∃ i r, r < 4 ∧ j = i * 4 + r := ⟨j / 4, j % 4, Nat.mod_lt _ (by decide), by omega⟩
  obtain ⟨q, hq⟩ : ∃ q, tm.numW[i]? = some q := ⟨_, List.getElem?_eq_getElem (show i < tm.numW.length by show i < 12; omega)⟩
  obtain ⟨k0, k1, k2, k3⟩ := key i (by omega) q hq
  obtain ⟨n1, n2, n3⟩ := tm.nuL_get i q hq
  have n0 : tm.nuL[i * 4]? = some (.string (tx q.1)) := by
    have : ∀ i, i < 12 → ∀ q, tm.numW[i]? = some q → tm.nuL[i * 4]? = some (.string (tx q.1)) := by
      intro i hi q hq
      rcases i with _ | _ | _ | _ | _ | _ | _ | _ | _ | _ | _ | _ | i
      all_goals first | (obtain rfl := Option.some.inj hq; rfl) | omega
    exact this i (by omega) q hq
  rcases r with _ | _ | _ | _ | r
  · rw [Nat.add_zero] at hv ⊢; rw [k0, ← hv, n0]
  · rw [k1, ← hv, n1]
  · rw [k2, ← hv, n2]
  · rw [k3, ← hv, n3]
  · omega
/-- The list that the row lays. -/
def list : List (String × DataW Unit) := [("math/bits.deBruijn32tab", Rows.laid_math_bits_deBruijn32tab), ("math/bits.deBruijn64tab", Rows.laid_math_bits_deBruijn64tab), ("internal/strconv.uint64pow10", Rows.laid_internal_strconv_uint64pow10), ("errors.errorType", Rows.laid_errors_errorType), ("escritoire/lex.marks", Rows.laid_escritoire_lex_marks), ("escritoire/tmpl.nums", Rows.laid_escritoire_tmpl_nums), ("escritoire/tmpl.rules", Rows.laid_escritoire_tmpl_rules)]
def plain : List (String × DataW Unit) := [("math/bits.deBruijn32tab", Rows.laid_math_bits_deBruijn32tab), ("math/bits.deBruijn64tab", Rows.laid_math_bits_deBruijn64tab), ("internal/strconv.uint64pow10", Rows.laid_internal_strconv_uint64pow10), ("escritoire/lex.marks", Rows.laid_escritoire_lex_marks), ("escritoire/tmpl.nums", Rows.laid_escritoire_tmpl_nums), ("escritoire/tmpl.rules", Rows.laid_escritoire_tmpl_rules)]
set_option maxRecDepth 100000 in
theorem some_of : (list.filter fun x => x.2.handleName?.isSome) = laying.list := by kernel_rfl
set_option maxRecDepth 100000 in
theorem none_of : (list.filter fun x => x.2.handleName?.isNone) = plain := by kernel_rfl
theorem of_laid {W : World} (h : laidMetH Tryz.prog list W) : tm.Gt W := by
  unfold laidMetH at h
  rw [some_of] at h
  have h' : laidMet Tryz.prog (list.filter fun x => x.2.handleName?.isNone) W ∧ handlesMet Tryz.prog laying.list W := h
  have h1 := h'.1
  rw [none_of] at h1
  obtain ⟨hp, hl⟩ := laidx.pw_of (Lib.laidMet.reads h1 (.tail _ (.tail _ (.head _))))
  exact ⟨⟨laidm.marks_of_reads (Lib.laidMet.reads h1 (.tail _ (.tail _ (.tail _ (.head _))))), laying.handle_of_laid (show laidMetH Tryz.prog laying.list W from ⟨⟨[], rfl, List.nodup_nil, fun _ _ h => by cases h⟩, h'.2⟩), hp, hl⟩,
    rules_of (Lib.laidMet.reads h1 (.tail _ (.tail _ (.tail _ (.tail _ (.tail _ (.head _))))))), nums_of (Lib.laidMet.reads h1 (.tail _ (.tail _ (.tail _ (.tail _ (.head _))))))⟩
theorem names_of : (plain.filter fun x => ["math/bits.deBruijn32tab", "math/bits.deBruijn64tab", "internal/strconv.uint64pow10", "escritoire/lex.marks", "escritoire/tmpl.nums", "escritoire/tmpl.rules"].contains x.1) = plain := by kernel_rfl
theorem names_not : (plain.filter fun x => !["math/bits.deBruijn32tab", "math/bits.deBruijn64tab", "internal/strconv.uint64pow10", "escritoire/lex.marks", "escritoire/tmpl.nums", "escritoire/tmpl.rules"].contains x.1) = [] := by kernel_rfl
set_option maxRecDepth 100000 in
theorem world_met (os : Os) (args : Array Value) : laidMetH Tryz.prog list ((World.layVars Tryz.prog (laying.layCell (World.holding Tryz.prog os ⟨#[], #[], []⟩)) plain).forCall (fun _ _ => 0) ⟨#[], args, []⟩).memory := by
  refine laidMetH_of_parts ?_ ?_
  · rw [none_of]
    refine laidMet_layVars (w0 := laying.layCell (World.holding Tryz.prog os ⟨#[], #[], []⟩)) ["math/bits.deBruijn32tab", "math/bits.deBruijn64tab", "internal/strconv.uint64pow10", "escritoire/lex.marks", "escritoire/tmpl.nums", "escritoire/tmpl.rules"] [] ?_ ?_ ?_ ?_
    · rw [names_of]; simp [World.memory, World.forCall, Input.heap]
    · rw [names_of]; kernel_rfl
    · rw [names_of]; kernel_rfl
    · rw [names_not]; exact LaidIn.none
  · rw [some_of]; kernel_rfl
end Go.Proofs.YtpanodaecjlgaabGreatDoor.laidr
/- Templates: one behind the other (pure). -/
namespace Go.Proofs.YtpanodaecjlgaabGreatDoor.tm
set_option linter.unusedVariables false
open lx ex

theorem RT.app {l l' m m' : List Ty} (h : RT id l l') (k : RT id m m') : RT id (l ++ m) (l' ++ m') := by
  induction h with
  | nil => exact k
  | cons hn hi _ ih => exact RT.cons hn hi ih
/-- Two texts of templates in one are both. -/
theorem prT_join {a b : List UInt8} {x y : List Ty} (hx : prT a = .ok x) (hy : prT b = .ok y) (hn : x.length + y.length ≤ 8) :
    ∃ z, prT (a ++ 10 :: b) = .ok z ∧ ptxt z = ptxt x ++ ptxt y := by
  unfold prT at hx hy
  split at hx
  · cases hx
  rename_i hx0
  split at hy
  · cases hy
  rename_i hy0
  have e1 := lx_join _ a 0 (lx a 0).1 b (Nat.le_refl _) (by rw [← hx0])
  obtain ⟨e2, e3⟩ := lx_else _ b 0 (0 + a.length + 1) (Nat.le_refl _)
  have e3 := e3 hy0
  have hf : RF id (lx b 0).1 (lx b (0 + a.length + 1)).1 := rf_id e2.symm
  have hg : RF id (lx a 0).1 (lx a 0).1 := rf_id rfl
  obtain ⟨_, k1⟩ := typs_just 8 hy
  obtain ⟨y', k2, k3⟩ := typs_ren (en' := (a ++ 10 :: b).length) (ρ := id) rfl [] 0 [] (by rw [typs]) _ _ _ _ hf k1
  rw [List.append_nil, List.append_nil, Nat.add_zero] at k2
  obtain ⟨_, j1⟩ := typs_just 8 hx
  obtain ⟨x', j2, j3⟩ := typs_ren (en' := (a ++ 10 :: b).length) (ρ := id) rfl _ _ _ k2 _ _ _ _ hg j1
  refine ⟨x' ++ y', ?_, ?_⟩
  · unfold prT
    rw [e1]
    dsimp only
    rw [e3]
    exact typs_more hn j2
  · rw [ptxt_id (j3.app k3)]
    unfold ptxt
    rw [List.flatMap_append]
end Go.Proofs.YtpanodaecjlgaabGreatDoor.tm
/- Templates, and a struct more that has all of them (pure). -/
namespace Go.Proofs.YtpanodaecjlgaabGreatDoor.tm
set_option linter.unusedVariables false
open lx ex

def zz : List UInt8 := [122, 122]
def dN : D := { D0 with kd := 1, nm := [110], wd := 1 }
def dZ (i : Nat) (t : List UInt8) : D := { D0 with kd := 3, ty := t, nm := zz ++ Lib.itoa (i : Int), mn := true, ct := some (.nam 0 [110]) }
def zIt : Nat → List Ty → Its
  | _, [] => .nil
  | i, t :: l => .cons (dZ i t.nm) .nil (zIt (i + 1) l)
def zTy (l : List Ty) : Ty := ⟨zz, 0, .cons dN .nil (zIt 0 l)⟩
/-- The lines. -/
def zLn : Nat → List Ty → List UInt8
  | _, [] => []
  | i, t :: l => (t.nm ++ [32, 122, 122] ++ Lib.itoa (i : Int) ++ [91, 110, 93, 59, 10]) ++ zLn (i + 1) l
def zHd : List UInt8 := [115, 116, 114, 117, 99, 116, 32, 122, 122, 32, 123, 10, 117, 56, 32, 110, 59, 10]
theorem nm_n : NM [110] := by unfold NM; decide
theorem nm_zz : NM zz := by unfold NM; decide
theorem nm_zi (i : Nat) (hi : i < 8) : NM (zz ++ Lib.itoa (i : Int)) ∧ zz ++ Lib.itoa (i : Int) = [122, 122, UInt8.ofNat (48 + i)] := by
  have h : Lib.itoa (i : Int) = [UInt8.ofNat (48 + i)] := itoa_small i (by omega)
  rw [h]
  refine ⟨?_, rfl⟩
  have key : ∀ k : Fin 8, NM (zz ++ [UInt8.ofNat (48 + k.1)]) := by unfold NM; decide
  exact key ⟨i, hi⟩
theorem wx_n : WX (.nam 0 [110]) := ⟨⟨nm_n.2.1, nm_n.2.2.1⟩, ⟨nm_n.2.2.2, by decide, by decide⟩, Nat.zero_le _⟩
theorem wd_n : WD dN := Or.inr (Or.inr (Or.inr ⟨rfl, rfl, ⟨[117, 56], by decide⟩, nm_n, Or.inr ⟨rfl, rfl, Or.inl ⟨rfl, rfl, rfl⟩⟩⟩))
theorem wd_z {i : Nat} {t : List UInt8} (hi : i < 8) (ht : NM t) : WD (dZ i t) := Or.inr (Or.inr (Or.inl ⟨rfl, ht, (nm_zi i hi).1, rfl, rfl, rfl, rfl, rfl, rfl, Or.inl ⟨rfl, _, rfl, wx_n⟩⟩))
theorem zIt_ok (l : List Ty) : ∀ i, i + l.length ≤ 8 → (∀ t ∈ l, NM t.nm) → WI 7 (zIt i l) ∧ (zIt i l).len = l.length ∧ CutF (zLn i l) (tkI (zIt i l)) := by
  induction l with
  | nil => intro i _ _; exact ⟨trivial, rfl, CutF.nil⟩
  | cons t l ih =>
    intro i hi hn
    rw [List.length_cons] at hi
    obtain ⟨h1, h2, h3⟩ := ih (i + 1) (by omega) (fun u hu => hn u (by simp [hu]))
    have hw := wd_z (i := i) (by omega) (hn t (by simp))
    have hk4 : (dZ i t.nm).kd ≠ 4 := by show (3 : Nat) ≠ 4; decide
    refine ⟨⟨hw, fun _ => rfl, fun h => absurd h hk4, h1⟩, ?_, ?_⟩
    · show (zIt (i + 1) l).len + 1 = _
      rw [h2]; rfl
    · have e1 : zLn i (t :: l) = (paT (dZ i t.nm) ++ [59, 10]) ++ zLn (i + 1) l := by
        rw [zLn]
        congr 1
        show _ = kw (dZ i t.nm) ++ [32] ++ (dZ i t.nm).nm ++ mnT (dZ i t.nm) ++ ruT (dZ i t.nm) ++ [59, 10]
        have a1 : kw (dZ i t.nm) = t.nm := rfl
        have a2 : mnT (dZ i t.nm) = [91] ++ [110] ++ [93] := by
          unfold mnT
          rw [if_pos (show (dZ i t.nm).mn = true ∨ (dZ i t.nm).kd = 2 from Or.inl rfl)]
          rfl
        have a3 : ruT (dZ i t.nm) = [] := by unfold ruT; rw [if_pos (show (dZ i t.nm).ru = 0 ∨ 4 ≤ (dZ i t.nm).ru from Or.inl rfl)]
        rw [a1, a2, a3]
        show _ = t.nm ++ [32] ++ (zz ++ Lib.itoa (i : Int)) ++ ([91] ++ [110] ++ [93]) ++ [] ++ [59, 10]
        simp [zz]
      have e2 : tkI (zIt i (t :: l)) = tkD (dZ i t.nm) ++ tkI (zIt (i + 1) l) := by
        show tkI (.cons (dZ i t.nm) .nil (zIt (i + 1) l)) = _
        rw [tkI, if_neg hk4]
      rw [e1, e2]
      exact (cut_line _ hw hk4).app h3
/-- The struct more is read. -/
theorem zTy_reads (l : List Ty) (hl : l.length ≤ 7) (hn : ∀ t ∈ l, NM t.nm) : ∃ y, prT (zHd ++ zLn 0 l ++ [125, 10]) = .ok y ∧ RT id [zTy l] y := by
  obtain ⟨h1, h2, h3⟩ := zIt_ok l 0 (by omega) hn
  have k1 : Cut ([32] ++ zz) [zz] := (cutF_blank 32 (by decide)).then (cut_nm nm_zz)
  have k2 : Cut (wStruct ++ ([32] ++ zz)) ([wStruct] ++ [zz]) := (cut_word (t := wStruct) (by decide) (by decide)).then (c := 32) (by decide) k1
  have k3 : CutF [32, 123, 10] [[123]] := ((cutF_blank 32 (by decide)).app (cutF_mark 123 (by decide) (by decide) (by decide))).app (cutF_blank 10 (by decide))
  have k4 : CutF [125, 10] [[125]] := (cutF_mark 125 (by decide) (by decide) (by decide)).app (cutF_blank 10 (by decide))
  have k5 := (((k2.thenF (c := 32) (by decide) k3).app (cut_line dN wd_n (by decide))).app h3).app k4
  have e1 : zHd ++ zLn 0 l ++ [125, 10] = wStruct ++ ([32] ++ zz) ++ [32, 123, 10] ++ (paT dN ++ [59, 10]) ++ zLn 0 l ++ [125, 10] := by
    congr 2
  have e2 : [zTy l].flatMap tkT = [wStruct] ++ [zz] ++ [[123]] ++ tkD dN ++ tkI (zIt 0 l) ++ [[125]] := by
    rw [List.flatMap_cons, List.flatMap_nil, List.append_nil]
    show wStruct :: zz :: [123] :: tkI (.cons dN .nil (zIt 0 l)) ++ [[125]] = _
    rw [tkI, if_neg (by decide)]
    simp
  rw [← e1, ← e2] at k5
  obtain ⟨us, u1, u2⟩ := k5 [] 0
  rw [List.append_nil, lx_nil, List.append_nil] at u2
  obtain ⟨y, y1, y2⟩ := typs_reads (en := (zHd ++ zLn 0 l ++ [125, 10]).length) 8 [zTy l] us (by simp) (fun t ht => by
    obtain rfl : t = zTy l := by simpa using ht
    refine ⟨nm_zz, ?_, wd_n, fun _ => rfl, fun h => absurd h (by decide), h1⟩
    show (zIt 0 l).len + 1 ≤ 16
    omega) u1
  refine ⟨y, ?_, y2⟩
  unfold prT
  rw [u2]
  exact y1
/-- Two texts of templates in one tell both. -/
theorem prT_both {a b : List UInt8} {x y : List Ty} (hx : prT a = .ok x) (hy : prT b = .ok y) (hn : x.length + y.length ≤ 8) :
    ∃ z, prT (a ++ 10 :: b) = .ok z ∧ RT id (x ++ y) z := by
  unfold prT at hx hy
  split at hx
  · cases hx
  rename_i hx0
  split at hy
  · cases hy
  rename_i hy0
  have e1 := lx_join _ a 0 (lx a 0).1 b (Nat.le_refl _) (by rw [← hx0])
  obtain ⟨e2, e3⟩ := lx_else _ b 0 (0 + a.length + 1) (Nat.le_refl _)
  have e3 := e3 hy0
  have hf : RF id (lx b 0).1 (lx b (0 + a.length + 1)).1 := rf_id e2.symm
  have hg : RF id (lx a 0).1 (lx a 0).1 := rf_id rfl
  obtain ⟨_, k1⟩ := typs_just 8 hy
  obtain ⟨y', k2, k3⟩ := typs_ren (en' := (a ++ 10 :: b).length) (ρ := id) rfl [] 0 [] (by rw [typs]) _ _ _ _ hf k1
  rw [List.append_nil, List.append_nil, Nat.add_zero] at k2
  obtain ⟨_, j1⟩ := typs_just 8 hx
  obtain ⟨x', j2, j3⟩ := typs_ren (en' := (a ++ 10 :: b).length) (ρ := id) rfl _ _ _ k2 _ _ _ _ hg j1
  refine ⟨x' ++ y', ?_, j3.app k3⟩
  unfold prT
  rw [e1]
  dsimp only
  rw [e3]
  exact typs_more hn j2
theorem rx_self (x : Ex) : Rx id x x := by
  induction x with
  | num a k => exact Rx.num _ _ _
  | nam a t => exact Rx.nam _ _ _
  | bin a o l r il ir => exact Rx.bin _ _ _ _ _ _ _ il ir
theorem rd_self (d : D) : RD id d d := ⟨rfl, rfl, rfl, rfl, rfl, rfl, rfl, by cases d.ct with | none => exact RO.none | some x => exact RO.some (rx_self x), rfl, rfl, rfl⟩
theorem ri_self (l : Its) : RI id l l := by
  induction l with
  | nil => exact RI.nil
  | cons d s t is it => exact RI.cons (rd_self d) is it
theorem rt_self (l : List Ty) : RT id l l := by
  induction l with
  | nil => exact RT.nil
  | cons t l ih => exact RT.cons rfl (ri_self t.l) ih
/-- No name is zz, if none stands in the text. -/
def noZ (t : List UInt8) : List UInt8 := if t = zz then [121] else t
theorem noZ_gd {t : List UInt8} (h : t ≠ zz) : Gd noZ t := by
  have e : noZ t = t := if_neg h
  exact ⟨fun _ => e, fun h1 h2 => by rw [e]; exact ⟨h1, h2, fun h => h⟩⟩
theorem noZ_names {l l' : List Ty} (h : RT noZ l l') (e : l' = l) : ∀ t ∈ l, t.nm ≠ zz := by
  induction h with
  | nil => intro t ht; cases ht
  | @cons t t' l l' hn hi _ ih =>
    injection e with e1 e2
    subst e1
    intro u hu
    rw [List.mem_cons] at hu
    rcases hu with rfl | hu
    · intro hz
      unfold noZ at hn
      rw [hz, if_pos rfl] at hn
      revert hn; decide
    · exact ih e2 u hu
theorem prT_noZ {s : List UInt8} {x : List Ty} (hx : prT s = .ok x) (hz : ¬ ∃ p q, s = p ++ zz ++ q) : ∀ t ∈ x, t.nm ≠ zz := by
  unfold prT at hx
  split at hx
  · cases hx
  have hch := lx_ch s _ 0 (Nat.le_refl _) (Nat.zero_le _)
  rw [List.drop_zero] at hch
  have key : ∀ (l : List Tk) (p : Nat), Ch s p l → ∀ t ∈ l, t.t ≠ zz := by
    intro l
    induction l with
    | nil => intro p h t ht; cases ht
    | cons u r ih =>
      intro p h t ht
      obtain ⟨_, h2, h3, _, h5⟩ := (show p ≤ u.a ∧ u.a + u.t.length ≤ s.length ∧ (s.drop u.a).take u.t.length = u.t ∧ IsT u.t ∧ Ch s (u.a + u.t.length) r from h)
      rw [List.mem_cons] at ht
      rcases ht with rfl | ht
      · intro e
        refine hz ⟨s.take t.a, (s.drop t.a).drop t.t.length, ?_⟩
        rw [← e]
        conv => lhs; rw [← List.take_append_drop t.a s, ← List.take_append_drop t.t.length (s.drop t.a), h3]
        rw [List.append_assoc]
      · exact ih _ h5 t ht
  have hk := key _ _ hch
  have hf : RF noZ (lx s 0).1 (lx s 0).1 := rf_map (fun t ht => noZ_gd (hk t ht)) (by
    apply List.map_congr_left
    intro t ht
    exact (if_neg (hk t ht)).symm)
  obtain ⟨_, k1⟩ := typs_just 8 hx
  obtain ⟨x', k2, k3⟩ := typs_ren (en' := s.length) (ρ := noZ) (by decide) [] 0 [] (by rw [typs]) _ _ _ _ hf k1
  rw [List.append_nil, List.append_nil, Nat.add_zero, k1] at k2
  injection k2 with k2
  exact noZ_names k3 k2.symm
/-- The struct more is right. -/
theorem zIt_chk (earl : List (List UInt8)) (l : List Ty) : ∀ i, i + l.length ≤ 8 → (∀ t ∈ l, t.nm ∈ earl) → ∀ names, (∀ j, i ≤ j → j < 8 → zz ++ Lib.itoa ((j : Nat) : Int) ∉ names) → ∃ ns, chkI earl (zIt i l) names [[110]] = .ok ns := by
  induction l with
  | nil => intro i _ _ names _; exact ⟨names, rfl⟩
  | cons t l ih =>
    intro i hi he names hn
    rw [List.length_cons] at hi
    show ∃ ns, chkI earl (.cons (dZ i t.nm) .nil (zIt (i + 1) l)) names [[110]] = .ok ns
    rw [chkI, if_neg (show ¬ (dZ i t.nm).kd = 4 by show ¬ (3 : Nat) = 4; decide)]
    have hw : itemW earl names [[110]] (dZ i t.nm) = none := by
      unfold itemW
      rw [if_neg (show (dZ i t.nm).nm ∉ names from hn i (Nat.le_refl _) (by omega)), if_neg (fun h => h.2 (he t (by simp)))]
      show (misO [[110]] (some (.nam 0 [110]))).map _ = none
      have : misO [[110]] (some (.nam 0 [110])) = none := by decide
      rw [this]; rfl
    rw [hw]
    dsimp only
    rw [if_neg (show ¬ ((dZ i t.nm).kd = 1 ∧ _) from fun h => absurd h.1 (by show ¬ (3 : Nat) = 1; decide))]
    refine ih (i + 1) (by omega) (fun u hu => he u (by simp [hu])) _ (fun j h1 h2 hm => ?_)
    rw [List.mem_cons] at hm
    rcases hm with hm | hm
    · have e1 := (nm_zi j h2).2
      have e2 := (nm_zi i (by omega)).2
      have hm : zz ++ Lib.itoa ((j : Nat) : Int) = zz ++ Lib.itoa (i : Int) := hm
      rw [e1, e2] at hm
      injection hm with _ hm
      injection hm with _ hm
      injection hm with hm _
      have key : ∀ a b : Fin 8, UInt8.ofNat (48 + a.1) = UInt8.ofNat (48 + b.1) → a = b := by decide
      have := key ⟨j, h2⟩ ⟨i, by omega⟩ hm
      injection this with this
      omega
    · exact hn j (by omega) h2 hm
theorem zIt_ru (l : List Ty) : ∀ i, ∀ d ∈ (zIt i l).ds, d.ru = 0 := by
  induction l with
  | nil => intro i d hd; cases hd
  | cons t l ih =>
    intro i d hd
    have hd : d ∈ dZ i t.nm :: (zIt (i + 1) l).ds := hd
    rw [List.mem_cons] at hd
    rcases hd with rfl | hd
    · rfl
    · exact ih _ d hd
theorem firstW_none {g : Nat → D → Option (Int × Nat)} (l : List D) : ∀ i, (∀ k, ∀ d ∈ l, g k d = none) → firstW g i l = none := by
  induction l with
  | nil => intro i _; rfl
  | cons d l ih =>
    intro i h
    rw [firstW, h i d (by simp)]
    exact ih (i + 1) (fun k e he => h k e (by simp [he]))
theorem rulesW_none {ds : List D} (h : ∀ d ∈ ds, d.ru = 0) : rulesW ds = none := by
  unfold rulesW
  rw [firstW_none ds 0 (fun k d hd => by unfold ruleW; rw [if_pos (h d hd)])]
  exact firstW_none ds 0 (fun k d hd => by unfold cycW; rw [if_neg]; rintro ⟨h1, _⟩; rw [h d hd] at h1; cases h1)
theorem zTy_chk (earl : List (List UInt8)) (l : List Ty) (hl : l.length ≤ 7) (h0 : zz ∉ earl) (he : ∀ t ∈ l, t.nm ∈ earl) : chkT earl [zTy l] = none := by
  rw [chkT, if_neg (show (zTy l).nm ∉ earl from h0)]
  obtain ⟨ns, hns⟩ := zIt_chk earl l 0 (by omega) he [[110]] (fun j _ h2 hm => by
    rw [(nm_zi j h2).2] at hm
    have key : ∀ a : Fin 8, ([122, 122, UInt8.ofNat (48 + a.1)] : List UInt8) ∉ [[110]] := by decide
    exact key ⟨j, h2⟩ hm)
  have e1 : chkI earl (zTy l).l [] [] = .ok ns := by
    show chkI earl (.cons dN .nil (zIt 0 l)) [] [] = _
    rw [chkI, if_neg (by decide)]
    have : itemW earl [] [] dN = none := by
      unfold itemW
      rw [if_neg (by simp), if_neg (fun h => absurd h.1 (by decide))]
      rfl
    rw [this]
    dsimp only
    rw [if_pos (by decide)]
    exact hns
  have e2 : chkB earl (zTy l).l [] [] = .ok ns := by
    unfold chkB
    rw [e1]
    dsimp only
    rw [rulesW_none]
    intro d hd
    have hd : d ∈ dN :: (zIt 0 l).ds := hd
    rw [List.mem_cons] at hd
    rcases hd with rfl | hd
    · rfl
    · exact zIt_ru l 0 d hd
  rw [e2]
  rfl
/-- WHAT STANDS BEHIND CHANGES NOTHING. -/
theorem prT_zz {s : List UInt8} {x : List Ty} (hx : prT s = .ok x) (hs : s.length ≤ 3000) (hl : x.length ≤ 7) (hz : ¬ ∃ p q, s = p ++ zz ++ q) :
    ∃ z, prT (s ++ 10 :: (zHd ++ zLn 0 x ++ [125, 10])) = .ok z ∧ code (chk z) = code (chk x) := by
  obtain ⟨_, hW, _, _⟩ := prT_told hx hs
  obtain ⟨y, y1, y2⟩ := zTy_reads x hl (fun t ht => (hW.2 t ht).1)
  obtain ⟨z, z1, z2⟩ := prT_both hx y1 (by rw [y2.len]; simp; omega)
  refine ⟨z, z1, ?_⟩
  have h1 := chk_ren (ρ := id) (fun a b h => h) z2
  have h2 := chk_ren (ρ := id) (fun a b h => h) ((rt_self x).app y2)
  rw [h1, h2]
  unfold chk
  rw [chkT_app]
  cases hc : chkT [] x with
  | some e => rfl
  | none =>
    dsimp only
    rw [zTy_chk]
    · exact hl
    · intro hm
      rw [List.append_nil, List.mem_reverse, List.mem_map] at hm
      obtain ⟨t, ht, he⟩ := hm
      exact prT_noZ hx hz t ht he
    · intro t ht
      rw [List.append_nil, List.mem_reverse, List.mem_map]
      exact ⟨t, ht, rfl⟩
end Go.Proofs.YtpanodaecjlgaabGreatDoor.tm
/- Words among words, by blanks about them (pure). -/
namespace Go.Proofs.YtpanodaecjlgaabGreatDoor.tm
set_option linter.unusedVariables false
open lx ex

theorem occ_iff (l m : List UInt8) : Lib.contains l m = true ↔ ∃ p q, l = p ++ m ++ q := by
  unfold Lib.contains
  rw [decide_eq_true_eq]
  constructor
  · intro h
    rcases Lib.index_spec l m with ⟨h1, _⟩ | ⟨i, h1, h2, h3, _⟩
    · omega
    · have h4 : m.isPrefixOf (l.drop i) = true := h3
      rw [List.isPrefixOf_iff_prefix] at h4
      obtain ⟨q, hq⟩ := h4
      exact ⟨l.take i, q, by rw [List.append_assoc, hq, List.take_append_drop]⟩
  · rintro ⟨p, q, h⟩
    rcases Lib.index_spec l m with ⟨h1, h2⟩ | ⟨i, h1, _⟩
    · have := h2 p.length (by rw [h]; simp)
      have h4 : m.isPrefixOf (l.drop p.length) = true := by
        rw [List.isPrefixOf_iff_prefix, h, List.append_assoc, List.drop_left]
        exact ⟨q, rfl⟩
      rw [show Lib.occAt l m p.length = m.isPrefixOf (l.drop p.length) from rfl, h4] at this
      cases this
    · omega
/-- Words with blanks about them. -/
def wds (ws : List (List UInt8)) : List UInt8 := 32 :: ws.flatMap (fun w => w ++ [32])
theorem split_word {a b x y : List UInt8} (ha : (32 : UInt8) ∉ a) (hb : (32 : UInt8) ∉ b) (h : a ++ 32 :: x = b ++ 32 :: y) : a = b ∧ x = y := by
  induction a generalizing b with
  | nil =>
    cases b with
    | nil => simp at h; exact ⟨rfl, h⟩
    | cons c b => simp at h; exact absurd h.1 (fun e => hb (by rw [← e]; simp))
  | cons c a ih =>
    cases b with
    | nil => simp at h; exact absurd h.1 (fun e => ha (by rw [e]; simp))
    | cons d b =>
      simp only [List.cons_append, List.cons.injEq] at h
      obtain ⟨h1, h2⟩ := ih (fun h => ha (by simp [h])) (fun h => hb (by simp [h])) h.2
      exact ⟨by rw [h.1, h1], h2⟩
theorem split_far {a p x y : List UInt8} (ha : (32 : UInt8) ∉ a) (h : a ++ x = p ++ 32 :: y) : ∃ p', p = a ++ p' ∧ x = p' ++ 32 :: y := by
  induction a generalizing p with
  | nil => exact ⟨p, rfl, h⟩
  | cons c a ih =>
    cases p with
    | nil => simp at h; exact absurd h.1 (fun e => ha (by rw [e]; simp))
    | cons d p =>
      simp only [List.cons_append, List.cons.injEq] at h
      obtain ⟨p', h1, h2⟩ := ih (fun h => ha (by simp [h])) h.2
      exact ⟨p', by rw [h.1, h1]; rfl, h2⟩
theorem wds_has (s : List UInt8) (hs : (32 : UInt8) ∉ s) (ws : List (List UInt8)) (hw : ∀ w ∈ ws, (32 : UInt8) ∉ w) : (∃ p q, wds ws = p ++ ([32] ++ s ++ [32]) ++ q) ↔ s ∈ ws := by
  induction ws with
  | nil =>
    constructor
    · rintro ⟨p, q, h⟩
      have := congrArg List.length h
      simp [wds] at this
      omega
    · intro h; cases h
  | cons w ws ih =>
    have hw1 : (32 : UInt8) ∉ w := hw w (by simp)
    have ih := ih (fun u hu => hw u (by simp [hu]))
    have e : wds (w :: ws) = 32 :: (w ++ wds ws) := by
      unfold wds
      rw [List.flatMap_cons, List.append_assoc]
      rfl
    constructor
    · rintro ⟨p, q, h⟩
      rw [e] at h
      cases p with
      | nil =>
        simp only [List.nil_append, List.cons_append, List.append_assoc, List.cons.injEq, true_and] at h
        have h' : w ++ 32 :: (ws.flatMap fun w => w ++ [32]) = s ++ 32 :: q := h
        rw [(split_word hw1 hs h').1]
        simp
      | cons c p =>
        simp only [List.cons_append, List.nil_append, List.append_assoc, List.cons.injEq] at h
        obtain ⟨p', h1, h2⟩ := split_far hw1 h.2
        rw [List.mem_cons]
        right
        refine ih.1 ⟨p', q, ?_⟩
        rw [h2]
        simp
    · intro h
      rw [List.mem_cons] at h
      rw [e]
      rcases h with rfl | h
      · exact ⟨[], ws.flatMap (fun w => w ++ [32]), by unfold wds; simp⟩
      · obtain ⟨p, q, h⟩ := ih.2 h
        exact ⟨32 :: w ++ p, q, by rw [h]; simp⟩
theorem wds_is (s : List UInt8) (hs : (32 : UInt8) ∉ s) (ws : List (List UInt8)) (hw : ∀ w ∈ ws, (32 : UInt8) ∉ w) : Lib.contains (wds ws) ([32] ++ s ++ [32]) = decide (s ∈ ws) := by
  rw [Bool.eq_iff_iff, occ_iff, wds_has s hs ws hw, decide_eq_true_eq]
/-- The words for numbers. -/
def numK : List (List UInt8) := numW.map (·.1)
def othK : List (List UInt8) := [wStruct, wBytes, wWhen, wSize, wCount, wCheck]
theorem num_mem (t : List UInt8) : (numOf t).isSome = decide (t ∈ numK) := by
  rw [Bool.eq_iff_iff, decide_eq_true_eq]
  unfold numOf numK
  rw [Option.isSome_map, List.find?_isSome, List.mem_map]
  constructor
  · rintro ⟨p, h1, h2⟩; exact ⟨p, h1, by simpa using h2⟩
  · rintro ⟨p, h1, h2⟩; exact ⟨p, h1, by simpa using h2⟩
theorem isT_blank {t : List UInt8} (h : IsT t) : (32 : UInt8) ∉ t := by
  rcases h with ⟨_, h⟩ | ⟨c, rfl, h⟩ | rfl | rfl
  · intro hm
    exact absurd (h 32 hm) (by decide)
  · intro hm
    have : (32 : UInt8) = c := by simpa using hm
    rw [← this] at h
    revert h; decide
  · decide
  · decide
theorem num_text (t : List UInt8) (h : (32 : UInt8) ∉ t) : Lib.contains (wds numK) ([32] ++ t ++ [32]) = (numOf t).isSome := by
  rw [wds_is t h numK (by decide), num_mem]
theorem oth_text (t : List UInt8) (h : (32 : UInt8) ∉ t) : Lib.contains (wds othK) ([32] ++ t ++ [32]) = othK.contains t := by
  rw [wds_is t h othK (by decide), Bool.eq_iff_iff]
  simp
end Go.Proofs.YtpanodaecjlgaabGreatDoor.tm
