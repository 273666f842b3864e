/- Texts laid together: TmO, TmU, LaidR, Num, LyP. -/
import Derived.Test.YtococaecjecjgaaGreatDoorXLayoutBack18
import Derived.Test.YtococaecjecjgaaGreatDoorXLayoutBack9
import Derived.WalkKit
import Derived.ProofKit
import Derived.OpenShut
import Derived.Laws.BytesArg
import Derived.Test.YtococaecjecjgaaGreatDoorXLayoutBack10
import Derived.Test.YtococaecjecjgaaGreatDoorXLayoutBack7
/- Templates: what is printed of the same is the same; the fixed one (pure). -/
namespace Go.Proofs.YtococaecjecjgaaGreatDoor.tm
set_option linter.unusedVariables false
open lx ex

theorem rx_sm {x y : Ex} (h : Rx id x y) : Sm x y := by
  induction h with
  | num a b k => exact Sm.num _ _ _
  | nam a b t => exact Sm.nam _ _ _
  | bin a b o l l' r r' _ _ il ir => exact Sm.bin _ _ _ _ _ _ _ il ir
theorem txO_id {o o' : Option Ex} (h : RO id o o') : txO o' = txO o := by
  cases h with
  | none => rfl
  | some hx => exact (Sm.txt (rx_sm hx)).1
theorem paT_id {d d' : D} (h : RD id d d') : paT d' = paT d := by
  have h1 : kw d' = kw d := by unfold kw; rw [h.kd, h.ty, h.wd, h.od, h.sg]; rfl
  have h2 : mnT d' = mnT d := by unfold mnT; rw [h.mn, h.kd, txO_id h.ct]
  have h3 : ruT d' = ruT d := by unfold ruT; rw [h.ru, h.f1, h.l1]; rfl
  unfold paT
  rw [h1, h2, h3, h.nm]
  rfl
theorem itx_id {l l' : Its} (h : RI id l l') : ∀ pad, itx pad l' = itx pad l := by
  induction h with
  | nil => intro pad; rfl
  | cons hd hs ht is it =>
    intro pad
    rw [itx, itx, hd.kd, txO_id hd.ct, is, paT_id hd, it]
theorem ptxt_id {l l' : List Ty} (h : RT id l l') : ptxt l' = ptxt l := by
  induction h with
  | nil => rfl
  | cons hn hi _ ih =>
    unfold ptxt at ih ⊢
    rw [List.flatMap_cons, List.flatMap_cons, ih]
    unfold tyx
    rw [hn, itx_id hi]
    rfl
/-- What is printed is read so, and printed again so. -/
theorem prT_print {l : List Ty} (h : WT l) : ∃ l', prT (ptxt l) = .ok l' ∧ RT id l l' ∧ ptxt l' = ptxt l ∧ (chk l' = none ↔ chk l = none) := by
  obtain ⟨h0, l', h1, h2⟩ := print_reads l h
  refine ⟨l', ?_, h2, ptxt_id h2, ?_⟩
  · unfold prT
    rw [h0]
    exact h1
  · have hc := chk_ren (ρ := id) (fun a b h => h) h2
    exact (code_none hc).symm
/-- The fixed one. -/
def bxL : List Ty :=
  [⟨[112, 97, 105, 114], 0, .cons { D0 with kd := 1, nm := [110], wd := 1, ru := 1, f1 := [115] } .nil (.cons { D0 with kd := 2, nm := [115], ct := some (.nam 0 [110]) } .nil .nil)⟩,
   ⟨[98, 111, 120], 0, .cons { D0 with kd := 1, nm := [107, 105, 110, 100], wd := 2, od := 1 } .nil
     (.cons { D0 with kd := 1, nm := [109, 97, 110, 121], wd := 1, ru := 2, f1 := [108] } .nil
     (.cons { D0 with kd := 3, ty := [112, 97, 105, 114], nm := [108], mn := true, ct := some (.nam 0 [109, 97, 110, 121]) } .nil
     (.cons { D0 with kd := 4, ct := some (.bin 0 [61, 61] (.nam 0 [107, 105, 110, 100]) (.num 0 1)) } (.cons { D0 with kd := 1, nm := [109, 111, 114, 101], wd := 1, sg := true } .nil .nil)
     (.cons { D0 with kd := 1, nm := [115, 117, 109], wd := 4, ru := 3, f1 := [107, 105, 110, 100], l1 := [108] } .nil .nil))))⟩]
def bxT : List UInt8 := [115, 116, 114, 117, 99, 116, 32, 112, 97, 105, 114, 32, 123, 10, 32, 32, 117, 56, 32, 110, 32, 61, 32, 115, 105, 122, 101, 32, 115, 59, 10, 32, 32, 98, 121, 116, 101, 115, 32, 115, 91, 110, 93, 59, 10, 125, 10, 115, 116, 114, 117, 99, 116, 32, 98, 111, 120, 32, 123, 10, 32, 32, 117, 49, 54, 98, 101, 32, 107, 105, 110, 100, 59, 10, 32, 32, 117, 56, 32, 109, 97, 110, 121, 32, 61, 32, 99, 111, 117, 110, 116, 32, 108, 59, 10, 32, 32, 112, 97, 105, 114, 32, 108, 91, 109, 97, 110, 121, 93, 59, 10, 32, 32, 119, 104, 101, 110, 32, 107, 105, 110, 100, 32, 61, 61, 32, 49, 32, 123, 10, 32, 32, 32, 32, 105, 56, 32, 109, 111, 114, 101, 59, 10, 32, 32, 125, 10, 32, 32, 117, 51, 50, 108, 101, 32, 115, 117, 109, 32, 61, 32, 99, 104, 101, 99, 107, 32, 107, 105, 110, 100, 32, 108, 59, 10, 125, 10]
theorem bx_txt : ptxt bxL = bxT := by
  have e1 : txO (some (.bin 0 [61, 61] (.nam 0 [107, 105, 110, 100]) (.num 0 1))) = [107, 105, 110, 100, 32, 61, 61, 32, 49] := by
    show txt _ = _
    have h1 : Lib.itoa 1 = [49] := itoa_small 1 (by omega)
    simp only [txt, h1]
    rfl
  unfold bxL ptxt
  simp only [List.flatMap_cons, List.flatMap_nil, tyx, itx, e1]
  rfl
theorem bx_chk : chk bxL = none := by decide
theorem bx_wt : WT bxL := by
  have w : ∀ n : Int, 0 ≤ n → n < 9223372036854775808 → isN (Lib.itoa n) = false ∧ isU (Lib.itoa n) = true ∧ nb (Lib.itoa n) = (n, 0) := fun n h1 h2 => by
    obtain ⟨a, b, c, _⟩ := nb_itoa n h1 h2
    exact ⟨a, b, c⟩
  have nm : ∀ t ∈ [[112, 97, 105, 114], [98, 111, 120], [110], [115], [107, 105, 110, 100], [109, 97, 110, 121], [108], [109, 111, 114, 101], [115, 117, 109]], NM t := by
    unfold NM
    decide
  have wn : ∀ t : List UInt8, NM t → WX (.nam 0 t) := fun t h => ⟨⟨h.2.1, h.2.2.1⟩, ⟨h.2.2.2, fun e => by have := h.2.1; rw [e] at this; revert this; decide, h.2.2.1⟩, Nat.zero_le _⟩
  have wk : WX (.bin 0 [61, 61] (.nam 0 [107, 105, 110, 100]) (.num 0 1)) := ⟨⟨by decide, ⟨by decide, by decide⟩, w 1 (by omega) (by omega)⟩, ⟨⟨by decide, by decide, by decide⟩, by omega, by omega⟩, by decide⟩
  refine ⟨by decide, fun t ht => ?_⟩
  unfold bxL at ht
  simp only [List.mem_cons, List.not_mem_nil, or_false] at ht
  rcases ht with rfl | rfl
  · refine ⟨nm _ (by simp), by decide, ?_, fun _ => rfl, fun h => absurd h (by decide), ?_, fun _ => rfl, fun h => absurd h (by decide), trivial⟩
    · exact Or.inr (Or.inr (Or.inr ⟨rfl, rfl, ⟨[117, 56], by decide⟩, nm _ (by simp), Or.inr ⟨rfl, rfl, Or.inr (Or.inl ⟨Or.inl rfl, nm _ (by simp), rfl⟩)⟩⟩))
    · exact Or.inr (Or.inl ⟨rfl, nm _ (by simp), ⟨_, rfl, wn _ (nm _ (by simp))⟩, rfl, rfl, rfl, rfl, rfl, rfl, rfl, rfl⟩)
  · refine ⟨nm _ (by simp), by decide, ?_, fun _ => rfl, fun h => absurd h (by decide), ?_, fun _ => rfl, fun h => absurd h (by decide), ?_, fun _ => rfl, fun h => absurd h (by decide), ?_, fun h => absurd rfl h, fun _ => ⟨by decide, by decide, ?_, fun _ => rfl, fun h => absurd h (by decide), trivial⟩, ?_, fun _ => rfl, fun h => absurd h (by decide), trivial⟩
    · exact Or.inr (Or.inr (Or.inr ⟨rfl, rfl, ⟨[117, 49, 54, 98, 101], by decide⟩, nm _ (by simp), Or.inr ⟨rfl, rfl, Or.inl ⟨rfl, rfl, rfl⟩⟩⟩))
    · exact Or.inr (Or.inr (Or.inr ⟨rfl, rfl, ⟨[117, 56], by decide⟩, nm _ (by simp), Or.inr ⟨rfl, rfl, Or.inr (Or.inl ⟨Or.inr rfl, nm _ (by simp), rfl⟩)⟩⟩))
    · exact Or.inr (Or.inr (Or.inl ⟨rfl, nm _ (by simp), nm _ (by simp), rfl, rfl, rfl, rfl, rfl, rfl, Or.inl ⟨rfl, _, rfl, wn _ (nm _ (by simp))⟩⟩))
    · exact Or.inl ⟨rfl, ⟨_, rfl, wk⟩, rfl, rfl, rfl, rfl, rfl, rfl, rfl, rfl, rfl⟩
    · exact Or.inr (Or.inr (Or.inr ⟨rfl, rfl, ⟨[105, 56], by decide⟩, nm _ (by simp), Or.inr ⟨rfl, rfl, Or.inl ⟨rfl, rfl, rfl⟩⟩⟩))
    · exact Or.inr (Or.inr (Or.inr ⟨rfl, rfl, ⟨[117, 51, 50, 108, 101], by decide⟩, nm _ (by simp), Or.inr ⟨rfl, rfl, Or.inr (Or.inr ⟨rfl, nm _ (by simp), nm _ (by simp)⟩)⟩⟩))
/-- It is read, and right. -/
theorem bx_reads : ∃ l, prT bxT = .ok l ∧ chk l = none ∧ ptxt l = bxT ∧ l.length = 2 := by
  obtain ⟨l, h1, h2, h3, h4⟩ := prT_print bx_wt
  rw [bx_txt] at h1 h3
  exact ⟨l, h1, h4.2 bx_chk, h3, by rw [h2.len]; rfl⟩
end Go.Proofs.YtococaecjecjgaaGreatDoor.tm
/- The fixed template: the walk. -/
namespace Go.Proofs.YtococaecjecjgaaGreatDoor.tm
set_option linter.unusedVariables false
open Go.ChangeShapes Go.WideShapes Go.ChangeAt Go.RowKit Go.Shelf
open mem lx ex

theorem long_at (s : ByteArray) (w : World) : Calls Tryz.prog 31 #[.string s] w fun e w' => e = .returned (.bool (decide (900 < s.size))) ∧ w' = w := by
  go_enter Tryz.func31, Tryz.ntmps31
  go_wp2
  all_goals
    go_ret
    first | exact ⟨rfl, rfl⟩ | (refine ⟨ret_bool ?_, rfl⟩; rw [Bool.eq_iff_iff]; simp; omega)
end Go.Proofs.YtococaecjecjgaaGreatDoor.tm
/- What the row's condition on the words of tmpl gives a walk. -/
namespace Go.Proofs.YtococaecjecjgaaGreatDoor.laidr
open Go.ChangeShapes Go.WideShapes Go.RowKit
open mem lx ex

theorem gnR : Tryz.prog.globalNamed "escritoire/tmpl.rules" = some 2 := by kernel_rfl
theorem gtR : (Tryz.prog.globals[2]?).map (·.type) = some 243 := by kernel_rfl
theorem gnN : Tryz.prog.globalNamed "escritoire/tmpl.nums" = some 0 := by kernel_rfl
theorem gtN : (Tryz.prog.globals[0]?).map (·.type) = some 177 := by kernel_rfl
theorem c9 : Tryz.prog.cellsOf 9 = 1 := by kernel_rfl
theorem cN : Tryz.prog.cellsOf 176 = 4 := by kernel_rfl
theorem c3 : Tryz.prog.cellsOf 3 = 1 := by kernel_rfl
theorem c4 : Tryz.prog.cellsOf 4 = 1 := by kernel_rfl
def words : List (List UInt8) := [[], tm.wSize, tm.wCount, tm.wCheck]
theorem rules_is : (Rows.laid_escritoire_tmpl_rules : DataW Unit) = .agg (words.map fun t => .lit (.string t)) := by kernel_rfl
theorem nums_is : (Rows.laid_escritoire_tmpl_nums : DataW Unit) = .agg (tm.numW.map fun p => .agg [.lit (.string p.1), .lit (.int .i64 (p.2.1 : Int)), .lit (.int .i64 (p.2.2.1 : Int)), .lit (.bool p.2.2.2)]) := by kernel_rfl
theorem rules_of {W : World} (h1 : Lib.VarReads Tryz.prog W "escritoire/tmpl.rules" Rows.laid_escritoire_tmpl_rules) : W.rangeAt 2 0 tm.ruL := by
  rw [rules_is] at h1
  obtain ⟨g, t, cs, fuel, p, hg, hty, hvar, hd⟩ := h1
  obtain rfl := Option.some.inj (gnR.symm.trans hg)
  obtain rfl := Option.some.inj (gtR.symm.trans hty)
  intro j v hv
  have hj : j < 4 := (List.getElem?_eq_some_iff.1 hv).1
  have hw : tm.ruL = words.map (fun t => Value.string (tx t)) := rfl
  rw [hw, List.getElem?_map] at hv
  obtain ⟨u, hu, rfl⟩ := Option.map_eq_some_iff.1 hv
  obtain ⟨fuel', d, q, h2, h3⟩ := Lib.array_elem Tryz.underlying243 hd j hj
  rw [List.getElem?_map, hu] at h2
  obtain rfl := Option.some.inj h2
  rw [c9, Nat.mul_one] at h3
  obtain ⟨s, e1, e2, _⟩ := DataW.trod_string Tryz.underlying9 h3
  have e3 : u = s.data.toList := by
    have := congrArg Prod.fst e2
    simpa using this
  have e4 : cs.toList[j]? = some (.string s) := by
    have := congrArg (·[0]?) e1
    simpa [List.getElem?_take, List.getElem?_drop] using this
  have := World.var?_cell hg hvar j
  rw [Nat.zero_add, this, ← Array.getElem?_toList, e4, e3]
  rfl
theorem four {enc : TypeId × Value → Unit} {w : World} {base : Nat} {spare : Nat → Bool} {held : Bool} {t : TypeId} {f0 f1 f2 f3 : Field} {fuel : Nat} {cs : List Value} {x : DataW Unit × List MemPlace} (ht : Tryz.prog.underlying t = some (.struct #[f0, f1, f2, f3])) (h : DataW.trod enc Tryz.prog w base spare held fuel t cs = some x) :
    ∃ y0 y1 y2 y3 n, x.1 = .agg [y0.1, y1.1, y2.1, y3.1] ∧ DataW.trod enc Tryz.prog w base spare held n f0.type ((cs.drop f0.offset).take (Tryz.prog.cellsOf f0.type)) = some y0 ∧
      DataW.trod enc Tryz.prog w base spare held n f1.type ((cs.drop f1.offset).take (Tryz.prog.cellsOf f1.type)) = some y1 ∧ DataW.trod enc Tryz.prog w base spare held n f2.type ((cs.drop f2.offset).take (Tryz.prog.cellsOf f2.type)) = some y2 ∧
      DataW.trod enc Tryz.prog w base spare held n f3.type ((cs.drop f3.offset).take (Tryz.prog.cellsOf f3.type)) = some y3 := by
  obtain ⟨xs, n, _, rfl, hl, hlen, hf⟩ := DataW.trod_struct ht h
  match xs, hlen with
  | [y0, y1, y2, y3], _ => exact ⟨y0, y1, y2, y3, n, by simp, by simpa using hf 0 f0 rfl, by simpa using hf 1 f1 rfl, by simpa using hf 2 f2 rfl, by simpa using hf 3 f3 rfl⟩
theorem nums_of {W : World} (h1 : Lib.VarReads Tryz.prog W "escritoire/tmpl.nums" Rows.laid_escritoire_tmpl_nums) : W.rangeAt 0 0 tm.nuL := by
  rw [nums_is] at h1
  obtain ⟨g, t, cs, fuel, p, hg, hty, hvar, hd⟩ := h1
  obtain rfl := Option.some.inj (gnN.symm.trans hg)
  obtain rfl := Option.some.inj (gtN.symm.trans hty)
  have key : ∀ i, i < 12 → ∀ (q : List UInt8 × Nat × Nat × Bool), tm.numW[i]? = some q → cs.toList[i * 4]? = some (.string (tx q.1)) ∧ cs.toList[i * 4 + 1]? = some (.int .i64 (q.2.1 : Int)) ∧ cs.toList[i * 4 + 2]? = some (.int .i64 (q.2.2.1 : Int)) ∧ cs.toList[i * 4 + 3]? = some (.bool q.2.2.2) := by
    intro i hi q hq
    obtain ⟨fuel', d, r, h2, h3⟩ := Lib.array_elem Tryz.underlying177 hd i hi
    rw [List.getElem?_map, hq] at h2
    obtain rfl := Option.some.inj h2
    rw [cN] at h3
    obtain ⟨y0, y1, y2, y3, n, e0, s0, s1, s2, s3⟩ := four Tryz.underlying176 h3
    have e0' : DataW.agg [DataW.lit (Lit.string q.1), DataW.lit (Lit.int .i64 (q.2.1 : Int)), DataW.lit (Lit.int .i64 (q.2.2.1 : Int)), DataW.lit (Lit.bool q.2.2.2)] = DataW.agg [y0.1, y1.1, y2.1, y3.1] := e0
    simp only [DataW.agg.injEq, List.cons.injEq, and_true] at e0'
    obtain ⟨z0, z1, z2, z3⟩ := e0'
    obtain ⟨a0, b0, d0, _⟩ := DataW.trod_string Tryz.underlying9 s0
    obtain ⟨a1, b1, d1, _⟩ := DataW.trod_int Tryz.underlying3 s1
    obtain ⟨a2, b2, d2, _⟩ := DataW.trod_int Tryz.underlying3 s2
    obtain ⟨a3, b3, d3⟩ := DataW.trod_bool Tryz.underlying4 s3
    rw [d0] at z0
    rw [d1] at z1
    rw [d2] at z2
    rw [d3] at z3
    simp only [DataW.lit.injEq, Lit.string.injEq, Lit.int.injEq, Lit.bool.injEq, true_and] at z0 z1 z2 z3
    have f0 := congrArg (·[0]?) b0
    have f1 := congrArg (·[0]?) b1
    have f2 := congrArg (·[0]?) b2
    have f3 := congrArg (·[0]?) b3
    simp [List.getElem?_drop, c9, c3, c4] at f0 f1 f2 f3
    refine ⟨?_, ?_, ?_, ?_⟩
    · rw [z0, show tx a0.data.toList = a0 from tx_L a0]; simpa using f0
    · rw [z1]; simpa using f1
    · rw [z2]; simpa using f2
    · rw [z3]; simpa using f3
  intro j v hv
  have hj : j < 48 := (List.getElem?_eq_some_iff.1 hv).1
  rw [Nat.zero_add, World.var?_cell hg hvar j, ← Array.getElem?_toList]
  obtain ⟨i, r, hr, rfl⟩ : ∃ i r, r < 4 ∧ j = i * 4 + r := ⟨j / 4, j % 4, Nat.mod_lt _ (by decide), by omega⟩
  obtain ⟨q, hq⟩ : ∃ q, tm.numW[i]? = some q := ⟨_, List.getElem?_eq_getElem (show i < tm.numW.length by show i < 12; omega)⟩
  obtain ⟨k0, k1, k2, k3⟩ := key i (by omega) q hq
  obtain ⟨n1, n2, n3⟩ := tm.nuL_get i q hq
  have n0 : tm.nuL[i * 4]? = some (.string (tx q.1)) := by
    have : ∀ i, i < 12 → ∀ q, tm.numW[i]? = some q → tm.nuL[i * 4]? = some (.string (tx q.1)) := by
      intro i hi q hq
      rcases i with _ | _ | _ | _ | _ | _ | _ | _ | _ | _ | _ | _ | i
      all_goals first | (obtain rfl := Option.some.inj hq; rfl) | omega
    exact this i (by omega) q hq
  rcases r with _ | _ | _ | _ | r
  · rw [Nat.add_zero] at hv ⊢; rw [k0, ← hv, n0]
  · rw [k1, ← hv, n1]
  · rw [k2, ← hv, n2]
  · rw [k3, ← hv, n3]
  · omega
/-- The list that the row lays. -/
def list : List (String × DataW Unit) := [("math/bits.deBruijn32tab", Rows.laid_math_bits_deBruijn32tab), ("math/bits.deBruijn64tab", Rows.laid_math_bits_deBruijn64tab), ("internal/strconv.uint64pow10", Rows.laid_internal_strconv_uint64pow10), ("errors.errorType", Rows.laid_errors_errorType), ("escritoire/lex.marks", Rows.laid_escritoire_lex_marks), ("escritoire/tmpl.nums", Rows.laid_escritoire_tmpl_nums), ("escritoire/tmpl.rules", Rows.laid_escritoire_tmpl_rules)]
def plain : List (String × DataW Unit) := [("math/bits.deBruijn32tab", Rows.laid_math_bits_deBruijn32tab), ("math/bits.deBruijn64tab", Rows.laid_math_bits_deBruijn64tab), ("internal/strconv.uint64pow10", Rows.laid_internal_strconv_uint64pow10), ("escritoire/lex.marks", Rows.laid_escritoire_lex_marks), ("escritoire/tmpl.nums", Rows.laid_escritoire_tmpl_nums), ("escritoire/tmpl.rules", Rows.laid_escritoire_tmpl_rules)]
set_option maxRecDepth 100000 in
theorem some_of : (list.filter fun x => x.2.handleName?.isSome) = laying.list := by kernel_rfl
set_option maxRecDepth 100000 in
theorem none_of : (list.filter fun x => x.2.handleName?.isNone) = plain := by kernel_rfl
theorem of_laid {W : World} (h : laidMetH Tryz.prog list W) : tm.Gt W := by
  unfold laidMetH at h
  rw [some_of] at h
  have h' : laidMet Tryz.prog (list.filter fun x => x.2.handleName?.isNone) W ∧ handlesMet Tryz.prog laying.list W := h
  have h1 := h'.1
  rw [none_of] at h1
  obtain ⟨hp, hl⟩ := laidx.pw_of (Lib.laidMet.reads h1 (.tail _ (.tail _ (.head _))))
  exact ⟨⟨laidm.marks_of_reads (Lib.laidMet.reads h1 (.tail _ (.tail _ (.tail _ (.head _))))), laying.handle_of_laid (show laidMetH Tryz.prog laying.list W from ⟨⟨[], rfl, List.nodup_nil, fun _ _ h => by cases h⟩, h'.2⟩), hp, hl⟩,
    rules_of (Lib.laidMet.reads h1 (.tail _ (.tail _ (.tail _ (.tail _ (.tail _ (.head _))))))), nums_of (Lib.laidMet.reads h1 (.tail _ (.tail _ (.tail _ (.tail _ (.head _))))))⟩
theorem names_of : (plain.filter fun x => ["math/bits.deBruijn32tab", "math/bits.deBruijn64tab", "internal/strconv.uint64pow10", "escritoire/lex.marks", "escritoire/tmpl.nums", "escritoire/tmpl.rules"].contains x.1) = plain := by kernel_rfl
theorem names_not : (plain.filter fun x => !["math/bits.deBruijn32tab", "math/bits.deBruijn64tab", "internal/strconv.uint64pow10", "escritoire/lex.marks", "escritoire/tmpl.nums", "escritoire/tmpl.rules"].contains x.1) = [] := by kernel_rfl
set_option maxRecDepth 100000 in
theorem world_met (os : Os) (args : Array Value) : laidMetH Tryz.prog list ((World.layVars Tryz.prog (laying.layCell (World.holding Tryz.prog os ⟨#[], #[], []⟩)) plain).forCall (fun _ _ => 0) ⟨#[], args, []⟩).memory := by
  refine laidMetH_of_parts ?_ ?_
  · rw [none_of]
    refine laidMet_layVars (w0 := laying.layCell (World.holding Tryz.prog os ⟨#[], #[], []⟩)) ["math/bits.deBruijn32tab", "math/bits.deBruijn64tab", "internal/strconv.uint64pow10", "escritoire/lex.marks", "escritoire/tmpl.nums", "escritoire/tmpl.rules"] [] ?_ ?_ ?_ ?_
    · rw [names_of]; simp [World.memory, World.forCall, Input.heap]
    · rw [names_of]; kernel_rfl
    · rw [names_of]; kernel_rfl
    · rw [names_not]; exact LaidIn.none
  · rw [some_of]; kernel_rfl
end Go.Proofs.YtococaecjecjgaaGreatDoor.laidr
/- Plain facts on numbers as bytes: putL lays a number's bytes, gv is the number that bytes are, rev turns them round. No program. -/
namespace Go.Proofs.YtococaecjecjgaaGreatDoor.num
open Go.RowKit

theorem ret_int {k : IntKind} {a b : Int} (h : a = b) : Ending.returned (.int k a) = .returned (.int k b) := by rw [h]
theorem ret_bool {a b : Bool} (h : a = b) : Ending.returned (.bool a) = .returned (.bool b) := by rw [h]
/-- Where, of W bytes, the one of weight k stands. -/
def pl (W : Nat) (o : Bool) (k : Nat) : Nat := if o then W - 1 - k else k
/-- The bytes of n, as many as W, of which those below weight k are laid. -/
def putL (n : Int) (W : Nat) (o : Bool) (k : Nat) : List Int := (List.range W).map fun j => if pl W o j < k then n / 256 ^ (pl W o j) % 256 else 0
theorem putL_len (n : Int) (W : Nat) (o : Bool) (k : Nat) : (putL n W o k).length = W := by simp [putL]
theorem putL_zero (n : Int) (W : Nat) (o : Bool) : putL n W o 0 = List.replicate W 0 := by
  simp [putL, List.map_const']
theorem putL_set (n : Int) (W : Nat) (o : Bool) (k : Nat) (hk : k < W) : (putL n W o k).set (pl W o k) (n / 256 ^ k % 256) = putL n W o (k + 1) := by
  apply List.ext_getElem
  · simp [putL]
  · intro i h1 h2
    have hi : i < W := by simpa [putL] using h1
    have hinv : pl W o (pl W o k) = k := by unfold pl; split <;> omega
    rw [List.getElem_set]
    by_cases e : pl W o k = i
    · subst e
      simp [putL, hinv]
    · have hne : pl W o i ≠ k := by
        intro h
        apply e
        rw [← h]
        unfold pl; split <;> omega
      rw [if_neg e]
      simp only [putL, List.getElem_map, List.getElem_range]
      by_cases hlt : pl W o i < k
      · rw [if_pos hlt, if_pos (by omega)]
      · rw [if_neg hlt, if_neg (by omega)]
theorem wrap8 (k : Nat) (hk : k ≤ 8) : IntKind.i64.wrap (8 * (k : Int)) = 8 * (k : Int) := by
  rw [IntKind.wrap_i64]; omega
theorem two256 (k : Nat) : (2 : Int) ^ (8 * k) = 256 ^ k := by rw [Int.pow_mul]; rfl
theorem run_shr8 {P : Program} (n : Int) (k : Nat) (hk : k ≤ 8) (w : World) :
    (Op.shift .shr .u64 n .i64 (IntKind.i64.wrap (8 * (k : Int)))).run P w = .ok (.int .u64 (n / 256 ^ k)) w := by
  rw [wrap8 k hk]
  unfold Op.shift
  rw [if_neg (by omega)]
  have e : min (8 * (k : Int)).toNat IntKind.u64.bits = 8 * k := by
    show min (8 * (k : Int)).toNat 64 = 8 * k
    omega
  simp only [e]
  rw [two256, Int.fdiv_eq_ediv_of_nonneg _ (Int.le_of_lt (Int.pow_pos (by decide)))]
  rfl
/-- The number whose byte of weight i is f i, up to weight k. -/
def gv (f : Nat → Int) : Nat → Int
  | 0 => 0
  | k + 1 => gv f k + f k * 256 ^ k
/-- Byte j of a text. -/
def sb (s : ByteArray) (j : Nat) : Int := ((s.data.toList.getD j 0).toNat : Int)
theorem sb_bd (s : ByteArray) (j : Nat) : 0 ≤ sb s j ∧ sb s j < 256 := by
  unfold sb
  have := (s.data.toList.getD j 0).toNat_lt
  omega
theorem gv_bd (f : Nat → Int) (hf : ∀ i, 0 ≤ f i ∧ f i < 256) (k : Nat) : 0 ≤ gv f k ∧ gv f k < 256 ^ k := by
  induction k with
  | zero => simp [gv]
  | succ k ih =>
    have := hf k
    have hp : (0 : Int) < 256 ^ k := Int.pow_pos (by decide)
    have h1 : 0 ≤ f k * 256 ^ k := Int.mul_nonneg this.1 (Int.le_of_lt hp)
    have h2 : f k * 256 ^ k ≤ 255 * 256 ^ k := Int.mul_le_mul_of_nonneg_right (by omega) (Int.le_of_lt hp)
    have h3 : (256 : Int) ^ (k + 1) = 256 ^ k * 256 := Int.pow_succ ..
    simp only [gv]
    omega
theorem sb_get (s : ByteArray) (j : Nat) (h : j < s.size) : sb s j = ((s[j]'h).toNat : Int) := by
  unfold sb
  have h' : j < s.data.toList.length := by simpa using h
  rw [List.getD_eq_getElem?_getD, List.getElem?_eq_getElem h']
  rfl
theorem pow256_le (k : Nat) (hk : k ≤ 7) : (256 : Int) ^ k ≤ 72057594037927936 := by
  rcases (show k = 0 ∨ k = 1 ∨ k = 2 ∨ k = 3 ∨ k = 4 ∨ k = 5 ∨ k = 6 ∨ k = 7 by omega) with rfl | rfl | rfl | rfl | rfl | rfl | rfl | rfl <;> decide
theorem or_step (g b : Int) (k : Nat) (hk : k < 8) (hg0 : 0 ≤ g) (hg : g < 256 ^ k) (hb0 : 0 ≤ b) (hb : b < 256) :
    bits .or .u64 g (IntKind.u64.wrap (IntKind.u64.wrap b * 2 ^ (8 * k))) = g + b * 256 ^ k := by
  have hp : (0 : Int) < 256 ^ k := Int.pow_pos (by decide)
  have hq := pow256_le k (by omega)
  have h1 : 0 ≤ b * 256 ^ k := Int.mul_nonneg hb0 (Int.le_of_lt hp)
  have h2 : b * 256 ^ k ≤ 255 * 256 ^ k := Int.mul_le_mul_of_nonneg_right (by omega) (Int.le_of_lt hp)
  rw [IntKind.wrap_u64 b, Int.emod_eq_of_lt hb0 (by omega), two256, IntKind.wrap_u64, Int.emod_eq_of_lt h1 (by omega), u64_or _ _ hg0 (by omega) h1 (by omega)]
  obtain ⟨G, rfl⟩ := Int.eq_ofNat_of_zero_le hg0
  obtain ⟨B, rfl⟩ := Int.eq_ofNat_of_zero_le hb0
  have e : ((B : Int) * 256 ^ k) = ((B * 256 ^ k : Nat) : Int) := by simp
  rw [e, Int.toNat_natCast, Int.toNat_natCast, Nat.or_comm, nat_join (8 * k)]
  · rw [Int.natCast_add, Int.add_comm]
  · rw [Nat.pow_mul]; exact Nat.mul_mod_left _ _
  · have : (G : Int) < ((256 ^ k : Nat) : Int) := by simpa using hg
    have h' : G < 256 ^ k := by exact_mod_cast this
    rw [Nat.pow_mul]
    exact h'
theorem p256 (a : Nat) : ((256 ^ a : Nat) : Int) = (256 : Int) ^ a := by rw [Int.natCast_pow]; rfl
theorem putL_get (n : Int) (W : Nat) (o : Bool) (j : Nat) (hj : j < W) : (putL n W o W).getD (pl W o j) 0 = n / 256 ^ j % 256 := by
  have h1 : pl W o j < W := by unfold pl; split <;> omega
  have h2 : pl W o (pl W o j) = j := by unfold pl; split <;> omega
  simp [putL, List.getD_eq_getElem?_getD, h1, h2, hj]
theorem put_len (n : Int) (W : Nat) (o : Bool) : (strOfNums (putL n W o W)).size = W := by rw [strOfNums_size, putL_len]
theorem putL_mod (n : Int) (h0 : 0 ≤ n) (W : Nat) (o : Bool) : putL (n % 256 ^ W) W o W = putL n W o W := by
  unfold putL
  apply List.map_congr_left
  intro j hj
  have hj' : j < W := by simpa using hj
  have h1 : pl W o j < W := by unfold pl; split <;> omega
  rw [if_pos h1, if_pos h1]
  obtain ⟨N, rfl⟩ := Int.eq_ofNat_of_zero_le h0
  have : N % 256 ^ W / 256 ^ (pl W o j) % 256 = N / 256 ^ (pl W o j) % 256 := by
    generalize pl W o j = i at h1
    obtain ⟨d, rfl⟩ : ∃ d, W = i + 1 + d := ⟨W - i - 1, by omega⟩
    rw [Nat.pow_add, Nat.pow_add, Nat.pow_one, Nat.mul_assoc, Nat.mod_mul_right_div_self]
    exact Nat.mod_mul_right_mod ..
  rw [← p256, ← p256]
  have h' := congrArg (fun x : Nat => (x : Int)) this
  simp only [Int.natCast_emod, Int.natCast_ediv] at h'
  exact h'
theorem gv_digit (f : Nat → Int) (hf : ∀ i, 0 ≤ f i ∧ f i < 256) (k i : Nat) (hi : i < k) : gv f k / 256 ^ i % 256 = f i := by
  induction k with
  | zero => omega
  | succ k ih =>
    have hb := gv_bd f hf k
    have hp : (0 : Int) < 256 ^ k := Int.pow_pos (by decide)
    by_cases e : i = k
    · subst e
      have := hf i
      simp only [gv]
      rw [Int.add_mul_ediv_right _ _ (by omega), Int.ediv_eq_zero_of_lt hb.1 hb.2]
      omega
    · have hik : i < k := by omega
      simp only [gv]
      obtain ⟨d, rfl⟩ : ∃ d, k = i + 1 + d := ⟨k - i - 1, by omega⟩
      have hpi : (0 : Int) < 256 ^ i := Int.pow_pos (by decide)
      have e2 : f (i + 1 + d) * 256 ^ (i + 1 + d) = (f (i + 1 + d) * 256 ^ d * 256) * 256 ^ i := by
        rw [Int.pow_add, Int.pow_add, Int.pow_one]
        simp only [Int.mul_comm, Int.mul_left_comm, Int.mul_assoc]
      rw [e2, Int.add_mul_ediv_right _ _ (by omega), Int.add_mul_emod_self_right]
      exact ih hik
end Go.Proofs.YtococaecjecjgaaGreatDoor.num
/- Texts as templates have them: how they are read (pure). -/
namespace Go.Proofs.YtococaecjecjgaaGreatDoor.ly
set_option linter.unusedVariables false
open lx ex tm num

/-- A part of a text, but for its parts. -/
structure ND where
  nm : List UInt8
  kd : Nat
  at_ : Nat
  sz : Nat
  n : Int
  tx : List UInt8
deriving Inhabited
/-- Parts of texts, one behind the other. -/
inductive Nds where
  | nil
  | cons (d : ND) (kids tl : Nds)
deriving Inhabited
def Nds.len : Nds → Nat
  | .nil => 0
  | .cons _ _ t => t.len + 1
abbrev Env := List UInt8 → Option Int
def noE : Env := fun _ => none
def upd (e : Env) (x : List UInt8) (n : Int) : Env := fun y => if y = x then some n else e y
/-- What is wrong, and where: -1, if nowhere. -/
abbrev Er := Int × Int
/-- Where it is read, and how many have begun. -/
abbrev St := Nat × Nat
/-- A number with a sign, of so many bytes. -/
def sgn (u : Int) (W : Nat) : Int := if W = 1 then (u + 128) % 256 - 128 else if W = 2 then (u + 32768) % 65536 - 32768 else if W = 4 then (u + 2147483648) % 4294967296 - 2147483648 else (u + 9223372036854775808) % 18446744073709551616 - 9223372036854775808
/-- The number that bytes are. -/
def un (s : List UInt8) (a W : Nat) (o : Bool) : Int := gv (fun i => ((s.getD (a + pl W o i) 0).toNat : Int)) W
def num (d : D) (u : Int) : Int := if d.sg = true then sgn u d.wd else u
def fnd : List Ty → List UInt8 → Option Its
  | [], _ => none
  | t :: r, x => match fnd r x with
    | some i => some i
    | none => if t.nm = x then some t.l else none
def evO (e : Env) : Option Ex → Except Nat Int
  | none => .ok 0
  | some x => ev e x
def cnt (d : D) (e : Env) (a : Nat) : Except Er Nat :=
  match evO e d.ct with
  | .error p => .error (5, (p : Int))
  | .ok n => if n < 0 then .error (3, (a : Int)) else .ok n.toNat
section
variable (s : List UInt8) (l : List Ty) (rec : Its → Env → St → Except Er (Nds × St))
/-- A node that has begun. -/
def body (d : D) (sub : Its) (e : Env) (a k : Nat) : Except Er (ND × Nds × St) :=
  if d.kd = 1 then
    if a + d.wd ≤ s.length then .ok (⟨d.nm, 1, a, d.wd, num d (un s a d.wd (d.od == 1)), []⟩, .nil, (a + d.wd, k)) else .error (3, (a : Int))
  else if d.kd = 2 then
    match cnt d e a with
    | .error x => .error x
    | .ok n => if s.length - a < n then .error (3, (a : Int)) else .ok (⟨d.nm, 2, a, n, 0, (s.drop a).take n⟩, .nil, (a + n, k))
  else if d.kd = 3 then
    match fnd l d.ty with
    | none => .error (7, -1)
    | some i => match rec i noE (a, k) with
      | .error x => .error x
      | .ok (ks, st) => .ok (⟨d.nm, 3, a, st.1 - a, 0, []⟩, ks, st)
  else
    match evO e d.ct with
    | .error p => .error (5, (p : Int))
    | .ok n => if n = 0 then .ok (⟨d.nm, 4, a, 0, 0, []⟩, .nil, (a, k)) else
      match rec sub e (a, k) with
      | .error x => .error x
      | .ok (ks, st) => .ok (⟨d.nm, 4, a, st.1 - a, 1, []⟩, ks, st)
def one (d : D) (sub : Its) (e : Env) (st : St) : Except Er (ND × Nds × St) := if st.2 = 400 then .error (4, (st.1 : Int)) else body s l rec d sub e st.1 (st.2 + 1)
/-- So many nodes of an item. -/
def reps (d : D) (sub : Its) (e : Env) : Nat → St → Except Er (Nds × St)
  | 0, st => .ok (.nil, st)
  | n + 1, st => match one s l rec d sub e st with
    | .error x => .error x
    | .ok (nd, ks, st) => match reps d sub e n st with
      | .error x => .error x
      | .ok (r, st) => .ok (.cons nd ks r, st)
def part (d : D) (sub : Its) (e : Env) (st : St) : Except Er (ND × Nds × St) :=
  if d.mn = true then
    if st.2 = 400 then .error (4, (st.1 : Int)) else
    match cnt d e st.1 with
    | .error x => .error x
    | .ok n => match reps s l rec d sub e n (st.1, st.2 + 1) with
      | .error x => .error x
      | .ok (ks, st') => .ok (⟨d.nm, 9, st.1, st'.1 - st.1, 0, []⟩, ks, st')
  else one s l rec d sub e st
def nxt (d : D) (e : Env) (nd : ND) : Env := if d.kd = 1 ∧ d.mn = false then upd e d.nm nd.n else e
def blk : Its → Env → St → Except Er (Nds × St)
  | .nil, _, st => .ok (.nil, st)
  | .cons d sub t, e, st => match part s l rec d sub e st with
    | .error x => .error x
    | .ok (nd, ks, st) => match blk t (nxt d e nd) st with
      | .error x => .error x
      | .ok (r, st) => .ok (.cons nd ks r, st)
end
/-- So deep at the most. -/
def rdB (s : List UInt8) (l : List Ty) : Nat → Its → Env → St → Except Er (Nds × St)
  | 0 => fun _ _ st => .error (4, (st.1 : Int))
  | f + 1 => blk s l (rdB s l f)
def topD (x : List UInt8) : D := { D0 with kd := 3, nm := x, ty := x }
def rd (s : List UInt8) (l : List Ty) (root : List UInt8) : Except Er (ND × Nds) :=
  match one s l (rdB s l 400) (topD root) .nil noE (0, 0) with
  | .error x => .error x
  | .ok (nd, ks, st) => if st.1 < s.length then .error (3, (st.1 : Int)) else .ok (nd, ks)

/- What is written. -/
/-- Does a number fit so many bytes? -/
def fits (n : Int) (W : Nat) (sg : Bool) : Bool := if sg = true then sgn n W == n else decide (0 ≤ n) && (W == 8 || decide (n < 256 ^ W))
/-- A number as bytes. -/
def pb (n : Int) (W : Nat) (o : Bool) : List UInt8 := (putL (n % 18446744073709551616) W o W).map (fun z => UInt8.ofNat z.toNat)
section
variable (l : List Ty) (rec : Its → Nds → Except Int (List UInt8))
def wOne (d : D) (sub : Its) (nd : ND) (ks : Nds) : Except Int (List UInt8) :=
  if nd.nm = d.nm ∧ nd.kd = d.kd then
    if d.kd = 1 then if fits nd.n d.wd d.sg = true then .ok (pb nd.n d.wd (d.od == 1)) else .error 1
    else if d.kd = 2 then .ok nd.tx
    else if d.kd = 3 then match fnd l d.ty with
      | none => .error 7
      | some i => rec i ks
    else rec (if nd.n = 0 then .nil else sub) ks
  else .error 1
def wReps (d : D) (sub : Its) : Nds → Except Int (List UInt8)
  | .nil => .ok []
  | .cons nd ks t => match wOne l rec d sub nd ks with
    | .error x => .error x
    | .ok a => match wReps d sub t with
      | .error x => .error x
      | .ok b => .ok (a ++ b)
def wPart (d : D) (sub : Its) (nd : ND) (ks : Nds) : Except Int (List UInt8) :=
  if d.mn = true then if nd.nm = d.nm ∧ nd.kd = 9 then wReps l rec d sub ks else .error 1
  else wOne l rec d sub nd ks
def wAll : Its → Nds → Except Int (List UInt8)
  | .nil, .nil => .ok []
  | .cons d sub t, .cons nd ks r => match wPart l rec d sub nd ks with
    | .error x => .error x
    | .ok a => match wAll t r with
      | .error x => .error x
      | .ok b => .ok (a ++ b)
  | _, _ => .error 1
def wBlk (i : Its) (ks : Nds) : Except Int (List UInt8) := if ks.len = i.len then wAll l rec i ks else .error 1
end
def wrB (l : List Ty) : Nat → Its → Nds → Except Int (List UInt8)
  | 0 => fun _ _ => .error 0
  | f + 1 => wBlk l (wrB l f)
def wr (l : List Ty) (root : List UInt8) (nd : ND) (ks : Nds) (f : Nat) : Except Int (List UInt8) :=
  match fnd l root with
  | none => .error 7
  | some _ => wOne l (wrB l f) (topD root) .nil nd ks

/- What is read is written just so. -/
theorem num_cases {d : D} (h : WD d) (h1 : d.kd = 1) : (d.wd = 1 ∨ d.wd = 2 ∨ d.wd = 4 ∨ (d.wd = 8 ∧ d.sg = true)) ∧ (d.od = 0 ∨ d.od = 1) := by
  have key : ∀ t w o g, numOf t = some (w, o, g) → (w = 1 ∨ w = 2 ∨ w = 4 ∨ (w = 8 ∧ g = true)) ∧ (o = 0 ∨ o = 1) := by
    intro t w o g h
    unfold numOf at h
    obtain ⟨p, hp, he⟩ := Option.map_eq_some_iff.1 h
    have hm := List.mem_of_find?_eq_some hp
    unfold numW at hm
    simp only [List.mem_cons, List.not_mem_nil, or_false] at hm
    rcases hm with rfl | rfl | rfl | rfl | rfl | rfl | rfl | rfl | rfl | rfl | rfl | rfl <;> (cases he; simp)
  rcases h with h | h | h | h
  · omega
  · omega
  · omega
  · obtain ⟨t, ht⟩ := h.2.2.1
    exact key _ _ _ _ ht
theorem un_bd (s : List UInt8) (a W : Nat) (o : Bool) : 0 ≤ un s a W o ∧ un s a W o < 256 ^ W := gv_bd _ (fun i => by have := (s.getD (a + pl W o i) 0).toNat_lt; omega) W
theorem pl_lt {W : Nat} (o : Bool) {j : Nat} (h : j < W) : pl W o j < W := by unfold pl; split <;> omega
theorem pl_pl {W : Nat} (o : Bool) {j : Nat} (h : j < W) : pl W o (pl W o j) = j := by unfold pl; cases o <;> simp <;> omega
theorem num_fits {d : D} (h : WD d) (h1 : d.kd = 1) (s : List UInt8) (a : Nat) (o : Bool) : fits (num d (un s a d.wd o)) d.wd d.sg = true ∧ (num d (un s a d.wd o)) % 18446744073709551616 % 256 ^ d.wd = un s a d.wd o := by
  have hb := un_bd s a d.wd o
  obtain ⟨hw, _⟩ := num_cases h h1
  generalize un s a d.wd o = u at hb ⊢
  unfold num fits sgn
  rcases hw with e | e | e | ⟨e, e2⟩
  · rw [e] at hb ⊢; cases d.sg <;> simp at hb ⊢ <;> omega
  · rw [e] at hb ⊢; cases d.sg <;> simp at hb ⊢ <;> omega
  · rw [e] at hb ⊢; cases d.sg <;> simp at hb ⊢ <;> omega
  · rw [e] at hb ⊢; rw [e2]; simp at hb ⊢; omega
theorem num_r64 {d : D} (h : WD d) (h1 : d.kd = 1) (s : List UInt8) (a : Nat) (o : Bool) : R64 (num d (un s a d.wd o)) := by
  have hb := un_bd s a d.wd o
  obtain ⟨hw, _⟩ := num_cases h h1
  generalize un s a d.wd o = u at hb ⊢
  unfold num sgn R64
  rcases hw with e | e | e | ⟨e, e2⟩
  · rw [e] at hb ⊢; cases d.sg <;> simp at hb ⊢ <;> omega
  · rw [e] at hb ⊢; cases d.sg <;> simp at hb ⊢ <;> omega
  · rw [e] at hb ⊢; cases d.sg <;> simp at hb ⊢ <;> omega
  · rw [e] at hb ⊢; rw [e2]; simp at hb ⊢; omega
theorem pb_len (n : Int) (W : Nat) (o : Bool) : (pb n W o).length = W := by unfold pb; rw [List.length_map, putL_len]
theorem pb_back {d : D} (h : WD d) (h1 : d.kd = 1) {s : List UInt8} {a : Nat} (o : Bool) (ha : a + d.wd ≤ s.length) : pb (num d (un s a d.wd o)) d.wd o = (s.drop a).take d.wd := by
  obtain ⟨_, h3⟩ := num_fits h h1 s a o
  obtain ⟨v, hv⟩ : ∃ v, v = num d (un s a d.wd o) % 18446744073709551616 := ⟨_, rfl⟩
  rw [← hv] at h3
  have hv0 : 0 ≤ v := by omega
  unfold pb
  rw [← hv]
  refine List.ext_getElem (by rw [List.length_map, putL_len, List.length_take, List.length_drop]; omega) ?_
  intro j hj1 hj2
  have hj : j < d.wd := by rw [List.length_map, putL_len] at hj1; exact hj1
  rw [List.getElem_map, List.getElem_take, List.getElem_drop]
  have e1 : (putL v d.wd o d.wd)[j]'(by rw [putL_len]; exact hj) = (putL v d.wd o d.wd).getD j 0 := by
    rw [List.getD_eq_getElem?_getD, List.getElem?_eq_getElem (by rw [putL_len]; exact hj)]; rfl
  rw [e1, ← putL_mod v hv0, h3]
  have e2 := putL_get (un s a d.wd o) d.wd o (pl d.wd o j) (pl_lt o hj)
  rw [pl_pl o hj] at e2
  rw [e2]
  unfold un
  rw [gv_digit _ (fun i => by have := (s.getD (a + pl d.wd o i) 0).toNat_lt; omega) d.wd _ (pl_lt o hj), pl_pl o hj, Int.toNat_natCast, UInt8.ofNat_toNat, List.getD_eq_getElem?_getD, List.getElem?_eq_getElem (by omega)]
  rfl
end Go.Proofs.YtococaecjecjgaaGreatDoor.ly
