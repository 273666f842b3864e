/- Texts laid together: LaidR, TmR. -/
import Derived.Test.YtpanodaecjlgaaaGreatDoorZ11
import Derived.Test.YtpanodaecjlgaaaGreatDoorZ23
/- What the row's condition on the words of tmpl gives a walk. -/
namespace Go.Proofs.YtpanodaecjlgaaaGreatDoor.laidr
open Go.ChangeShapes Go.WideShapes Go.RowKit
open mem lx ex

theorem gnR : Tryz.prog.globalNamed "escritoire/tmpl.rules" = some 2 := by kernel_rfl
theorem gtR : (Tryz.prog.globals[2]?).map (·.type) = some 154 := by kernel_rfl
theorem gnN : Tryz.prog.globalNamed "escritoire/tmpl.nums" = some 0 := by kernel_rfl
theorem gtN : (Tryz.prog.globals[0]?).map (·.type) = some 105 := by kernel_rfl
theorem c9 : Tryz.prog.cellsOf 9 = 1 := by kernel_rfl
theorem cN : Tryz.prog.cellsOf 104 = 4 := by kernel_rfl
theorem c3 : Tryz.prog.cellsOf 3 = 1 := by kernel_rfl
theorem c4 : Tryz.prog.cellsOf 4 = 1 := by kernel_rfl
def words : List (List UInt8) := [[], tm.wSize, tm.wCount, tm.wCheck]
theorem rules_is : (Rows.laid_escritoire_tmpl_rules : DataW Unit) = .agg (words.map fun t => .lit (.string t)) := by kernel_rfl
theorem nums_is : (Rows.laid_escritoire_tmpl_nums : DataW Unit) = .agg (tm.numW.map fun p => .agg [.lit (.string p.1), .lit (.int .i64 (p.2.1 : Int)), .lit (.int .i64 (p.2.2.1 : Int)), .lit (.bool p.2.2.2)]) := by kernel_rfl
theorem rules_of {W : World} (h1 : Lib.VarReads Tryz.prog W "escritoire/tmpl.rules" Rows.laid_escritoire_tmpl_rules) : W.rangeAt 2 0 tm.ruL := by
  rw [rules_is] at h1
  obtain ⟨g, t, cs, fuel, p, hg, hty, hvar, hd⟩ := h1
  obtain rfl := Option.some.inj (gnR.symm.trans hg)
  obtain rfl := Option.some.inj (gtR.symm.trans hty)
  intro j v hv
  have hj : j < 4 := (List.getElem?_eq_some_iff.1 hv).1
  have hw : tm.ruL = words.map (fun t => Value.string (tx t)) := rfl
  rw [hw, List.getElem?_map] at hv
  obtain ⟨u, hu, rfl⟩ := Option.map_eq_some_iff.1 hv
  obtain ⟨fuel', d, q, h2, h3⟩ := Lib.array_elem Tryz.underlying154 hd j hj
  rw [List.getElem?_map, hu] at h2
  obtain rfl := Option.some.inj h2
  rw [c9, Nat.mul_one] at h3
  obtain ⟨s, e1, e2, _⟩ := DataW.trod_string Tryz.underlying9 h3
  have e3 : u = s.data.toList := by
    have := congrArg Prod.fst e2
    simpa using this
  have e4 : cs.toList[j]? = some (.string s) := by
    have := congrArg (·[0]?) e1
    simpa [List.getElem?_take, List.getElem?_drop] using this
  have := World.var?_cell hg hvar j
  rw [Nat.zero_add, this, ← Array.getElem?_toList, e4, e3]
  rfl
theorem four {enc : TypeId × Value → Unit} {w : World} {base : Nat} {spare : Nat → Bool} {held : Bool} {t : TypeId} {f0 f1 f2 f3 : Field} {fuel : Nat} {cs : List Value} {x : DataW Unit × List MemPlace} (ht : Tryz.prog.underlying t = some (.struct #[f0, f1, f2, f3])) (h : DataW.trod enc Tryz.prog w base spare held fuel t cs = some x) :
    ∃ y0 y1 y2 y3 n, x.1 = .agg [y0.1, y1.1, y2.1, y3.1] ∧ DataW.trod enc Tryz.prog w base spare held n f0.type ((cs.drop f0.offset).take (Tryz.prog.cellsOf f0.type)) = some y0 ∧
      DataW.trod enc Tryz.prog w base spare held n f1.type ((cs.drop f1.offset).take (Tryz.prog.cellsOf f1.type)) = some y1 ∧ DataW.trod enc Tryz.prog w base spare held n f2.type ((cs.drop f2.offset).take (Tryz.prog.cellsOf f2.type)) = some y2 ∧
      DataW.trod enc Tryz.prog w base spare held n f3.type ((cs.drop f3.offset).take (Tryz.prog.cellsOf f3.type)) = some y3 := by
  obtain ⟨xs, n, _, rfl, hl, hlen, hf⟩ := DataW.trod_struct ht h
  match xs, hlen with
  | [y0, y1, y2, y3], _ => exact ⟨y0, y1, y2, y3, n, by simp, by simpa using hf 0 f0 rfl, by simpa using hf 1 f1 rfl, by simpa using hf 2 f2 rfl, by simpa using hf 3 f3 rfl⟩
theorem nums_of {W : World} (h1 : Lib.VarReads Tryz.prog W "escritoire/tmpl.nums" Rows.laid_escritoire_tmpl_nums) : W.rangeAt 0 0 tm.nuL := by
  rw [nums_is] at h1
  obtain ⟨g, t, cs, fuel, p, hg, hty, hvar, hd⟩ := h1
  obtain rfl := Option.some.inj (gnN.symm.trans hg)
  obtain rfl := Option.some.inj (gtN.symm.trans hty)
  have key : ∀ i, i < 12 → ∀ (q : List UInt8 × Nat × Nat × Bool), tm.numW[i]? = some q → cs.toList[i * 4]? = some (.string (tx q.1)) ∧ cs.toList[i * 4 + 1]? = some (.int .i64 (q.2.1 : Int)) ∧ cs.toList[i * 4 + 2]? = some (.int .i64 (q.2.2.1 : Int)) ∧ cs.toList[i * 4 + 3]? = some (.bool q.2.2.2) := by
    intro i hi q hq
    obtain ⟨fuel', d, r, h2, h3⟩ := Lib.array_elem Tryz.underlying105 hd i hi
    rw [List.getElem?_map, hq] at h2
    obtain rfl := Option.some.inj h2
    rw [cN] at h3
    obtain ⟨y0, y1, y2, y3, n, e0, s0, s1, s2, s3⟩ := four Tryz.underlying104 h3
    have e0' : DataW.agg [DataW.lit (Lit.string q.1), DataW.lit (Lit.int .i64 (q.2.1 : Int)), DataW.lit (Lit.int .i64 (q.2.2.1 : Int)), DataW.lit (Lit.bool q.2.2.2)] = DataW.agg [y0.1, y1.1, y2.1, y3.1] := e0
    simp only [DataW.agg.injEq, List.cons.injEq, and_true] at e0'
    obtain ⟨z0, z1, z2, z3⟩ := e0'
    obtain ⟨a0, b0, d0, _⟩ := DataW.trod_string Tryz.underlying9 s0
    obtain ⟨a1, b1, d1, _⟩ := DataW.trod_int Tryz.underlying3 s1
    obtain ⟨a2, b2, d2, _⟩ := DataW.trod_int Tryz.underlying3 s2
    obtain ⟨a3, b3, d3⟩ := DataW.trod_bool Tryz.underlying4 s3
    rw [d0] at z0
    rw [d1] at z1
    rw [d2] at z2
    rw [d3] at z3
    simp only [DataW.lit.injEq, Lit.string.injEq, Lit.int.injEq, Lit.bool.injEq, true_and] at z0 z1 z2 z3
    have f0 := congrArg (·[0]?) b0
    have f1 := congrArg (·[0]?) b1
    have f2 := congrArg (·[0]?) b2
    have f3 := congrArg (·[0]?) b3
    simp [List.getElem?_drop, c9, c3, c4] at f0 f1 f2 f3
    refine ⟨?_, ?_, ?_, ?_⟩
    · rw [z0, show tx a0.data.toList = a0 from tx_L a0]; simpa using f0
    · rw [z1]; simpa using f1
    · rw [z2]; simpa using f2
    · rw [z3]; simpa using f3
  intro j v hv
  have hj : j < 48 := (List.getElem?_eq_some_iff.1 hv).1
  rw [Nat.zero_add, World.var?_cell hg hvar j, ← Array.getElem?_toList]
  obtain ⟨i, r, hr, rfl⟩ : ∃ i r, r < 4 ∧ j = i * 4 + r := ⟨j / 4, j % 4, Nat.mod_lt _ (by decide), by omega⟩
  obtain ⟨q, hq⟩ : ∃ q, tm.numW[i]? = some q := ⟨_, List.getElem?_eq_getElem (show i < tm.numW.length by show i < 12; omega)⟩
  obtain ⟨k0, k1, k2, k3⟩ := key i (by omega) q hq
  obtain ⟨n1, n2, n3⟩ := tm.nuL_get i q hq
  have n0 : tm.nuL[i * 4]? = some (.string (tx q.1)) := by
    have : ∀ i, i < 12 → ∀ q, tm.numW[i]? = some q → tm.nuL[i * 4]? = some (.string (tx q.1)) := by
      intro i hi q hq
      rcases i with _ | _ | _ | _ | _ | _ | _ | _ | _ | _ | _ | _ | i
      all_goals first | (obtain rfl := Option.some.inj hq; rfl) | omega
    exact this i (by omega) q hq
  rcases r with _ | _ | _ | _ | r
  · rw [Nat.add_zero] at hv ⊢; rw [k0, ← hv, n0]
  · rw [k1, ← hv, n1]
  · rw [k2, ← hv, n2]
  · rw [k3, ← hv, n3]
  · omega
/-- The list that the row lays. -/
def list : List (String × DataW Unit) := [("math/bits.deBruijn32tab", Rows.laid_math_bits_deBruijn32tab), ("math/bits.deBruijn64tab", Rows.laid_math_bits_deBruijn64tab), ("internal/strconv.uint64pow10", Rows.laid_internal_strconv_uint64pow10), ("errors.errorType", Rows.laid_errors_errorType), ("escritoire/lex.marks", Rows.laid_escritoire_lex_marks), ("escritoire/tmpl.nums", Rows.laid_escritoire_tmpl_nums), ("escritoire/tmpl.rules", Rows.laid_escritoire_tmpl_rules)]
def plain : List (String × DataW Unit) := [("math/bits.deBruijn32tab", Rows.laid_math_bits_deBruijn32tab), ("math/bits.deBruijn64tab", Rows.laid_math_bits_deBruijn64tab), ("internal/strconv.uint64pow10", Rows.laid_internal_strconv_uint64pow10), ("escritoire/lex.marks", Rows.laid_escritoire_lex_marks), ("escritoire/tmpl.nums", Rows.laid_escritoire_tmpl_nums), ("escritoire/tmpl.rules", Rows.laid_escritoire_tmpl_rules)]
set_option maxRecDepth 100000 in
theorem some_of : (list.filter fun x => x.2.handleName?.isSome) = laying.list := by kernel_rfl
set_option maxRecDepth 100000 in
theorem none_of : (list.filter fun x => x.2.handleName?.isNone) = plain := by kernel_rfl
theorem of_laid {W : World} (h : laidMetH Tryz.prog list W) : tm.Gt W := by
  unfold laidMetH at h
  rw [some_of] at h
  have h' : laidMet Tryz.prog (list.filter fun x => x.2.handleName?.isNone) W ∧ handlesMet Tryz.prog laying.list W := h
  have h1 := h'.1
  rw [none_of] at h1
  obtain ⟨hp, hl⟩ := laidx.pw_of (Lib.laidMet.reads h1 (.tail _ (.tail _ (.head _))))
  exact ⟨⟨laidm.marks_of_reads (Lib.laidMet.reads h1 (.tail _ (.tail _ (.tail _ (.head _))))), laying.handle_of_laid (show laidMetH Tryz.prog laying.list W from ⟨⟨[], rfl, List.nodup_nil, fun _ _ h => by cases h⟩, h'.2⟩), hp, hl⟩,
    rules_of (Lib.laidMet.reads h1 (.tail _ (.tail _ (.tail _ (.tail _ (.tail _ (.head _))))))), nums_of (Lib.laidMet.reads h1 (.tail _ (.tail _ (.tail _ (.tail _ (.head _))))))⟩
theorem names_of : (plain.filter fun x => ["math/bits.deBruijn32tab", "math/bits.deBruijn64tab", "internal/strconv.uint64pow10", "escritoire/lex.marks", "escritoire/tmpl.nums", "escritoire/tmpl.rules"].contains x.1) = plain := by kernel_rfl
theorem names_not : (plain.filter fun x => !["math/bits.deBruijn32tab", "math/bits.deBruijn64tab", "internal/strconv.uint64pow10", "escritoire/lex.marks", "escritoire/tmpl.nums", "escritoire/tmpl.rules"].contains x.1) = [] := by kernel_rfl
set_option maxRecDepth 100000 in
theorem world_met (os : Os) (args : Array Value) : laidMetH Tryz.prog list ((World.layVars Tryz.prog (laying.layCell (World.holding Tryz.prog os ⟨#[], #[], []⟩)) plain).forCall (fun _ _ => 0) ⟨#[], args, []⟩).memory := by
  refine laidMetH_of_parts ?_ ?_
  · rw [none_of]
    refine laidMet_layVars (w0 := laying.layCell (World.holding Tryz.prog os ⟨#[], #[], []⟩)) ["math/bits.deBruijn32tab", "math/bits.deBruijn64tab", "internal/strconv.uint64pow10", "escritoire/lex.marks", "escritoire/tmpl.nums", "escritoire/tmpl.rules"] [] ?_ ?_ ?_ ?_
    · rw [names_of]; simp [World.memory, World.forCall, Input.heap]
    · rw [names_of]; kernel_rfl
    · rw [names_of]; kernel_rfl
    · rw [names_not]; exact LaidIn.none
  · rw [some_of]; kernel_rfl
end Go.Proofs.YtpanodaecjlgaaaGreatDoor.laidr
/- The law on templates that are written and read again: the walk. -/
namespace Go.Proofs.YtpanodaecjlgaaaGreatDoor.tm
set_option linter.unusedVariables false
open Go.ChangeShapes Go.WideShapes Go.ChangeAt Go.RowKit Go.Shelf
open mem lx ex

/-- What Check tells, as a value. -/
theorem CkA.get {w w' : World} {q : Option (Int × Nat)} {e : Ending} (h : CkA w q e w') : Bl w w' ∧ ((q = none ∧ e = .returned .nilIface) ∨ (q ≠ none ∧ ∃ A, e = .returned (.iface 110 (.pointer (some ⟨A, 0, none⟩))))) := by
  obtain ⟨hb, h⟩ := h
  refine ⟨hb, ?_⟩
  cases q with
  | none => exact Or.inl ⟨rfl, h⟩
  | some cp =>
    obtain ⟨c, p⟩ := cp
    obtain ⟨A, h1, _⟩ := h
    exact Or.inr ⟨by simp, A, h1⟩
set_option maxRecDepth 10000 in
set_option maxHeartbeats 4000000 in
theorem again_at (a0 : ByteArray) (w : World) (hG : Gt w) :
    Calls Tryz.prog 4 #[.string a0] w fun e w' => e = .returned (.bool true) ∧ Below w.heap.size w w' := by
  have cF := boxed_at w hG
  have cL := long_at a0
  have HG : Hid (Gt w) := hG
  clear hG
  go_enter Tryz.func4, Tryz.ntmps4
  go_wp2_with fail
  refine cF.mono ?_
  rintro e w1 ⟨⟨v0, rfl⟩, hb1⟩
  by_cases hs : 900 < a0.size
  · rw [decide_eq_true hs] at cL
    go_wp2_with fail
    refine (cL _).mono ?_
    rintro e w2 ⟨rfl, rfl⟩
    go_wp2
    go_ret
    exact ⟨rfl, hb1⟩
  · rw [decide_eq_false hs] at cL
    have cP := Parse_at a0 w1 (by omega) (HG.out.bl hb1)
    go_wp2_with fail
    refine (cL _).mono ?_
    rintro e w2 ⟨rfl, rfl⟩
    go_wp2_with fail
    refine cP.mono ?_
    rintro e w3 ⟨hb3, hans⟩
    cases hp : prT (L a0) with
    | error cp =>
      obtain ⟨c, p⟩ := cp
      rw [hp] at hans
      obtain ⟨B, rfl, _, _⟩ := hans
      unfold atV
      go_wp2
      go_ret
      exact ⟨rfl, hb1.trans hb3⟩
    | ok l =>
      rw [hp] at hans
      obtain ⟨v, rfl, hv⟩ := hans
      obtain ⟨c1, c2, c3, c4⟩ := prT_told hp (by rw [L_len]; omega)
      obtain ⟨l', h1, h2, h3, h4⟩ := prT_print c2
      have hb03 := hb1.trans hb3
      have cX := Print_at l v w3 _ hv c2 (HG.out.bl hb03) (by omega)
      obtain ⟨S, hS⟩ : ∃ S, S = tx (ptxt l) := ⟨_, rfl⟩
      have hLS : L S = ptxt l := by rw [hS, L_tx]
      have hSs : S.size = (ptxt l).length := by rw [hS, tx_size]
      rw [← hS] at cX
      have HV : Hid ((∃ ok, IsTs w3 ok v l) ∧ Bl w w3 ∧ CI l ∧ prT (ptxt l) = .ok l' ∧ ptxt l' = ptxt l ∧ (chk l' = none ↔ chk l = none) ∧ L S = ptxt l ∧ S = tx (ptxt l)) := ⟨⟨_, hv⟩, hb03, c1, h1, h3, h4, hLS, hS⟩
      obtain ⟨tp, tn, tc, rfl⟩ : ∃ tp tn tc, v = .slice tp tn tc := by
        obtain ⟨p, c, cs, h1, _⟩ := hv
        exact ⟨_, _, _, h1⟩
      clear hv hb03 c1 c2 h1 h2 h3 h4 hLS hS cP cF cL hp hb1 hb3
      go_wp2_with fail
      refine cX.mono ?_
      rintro e w4 ⟨rfl, hb4⟩
      have HB4 : Hid (Bl w w4 ∧ (∃ ok, IsTs w4 ok (.slice tp tn tc) l)) := ⟨HV.out.2.1.trans hb4, by obtain ⟨ok, h⟩ := HV.out.1; exact ⟨ok, h.bl hb4⟩⟩
      by_cases h3k : 3000 < S.size
      · have cQ := Parse_long S w4 h3k
        have h3k' : (3000 : Int) < (S.size : Int) := by omega
        clear hb4 cX
        go_wp2_with fail
        refine cQ.mono ?_
        rintro e w5 ⟨rfl, hb5⟩
        go_wp2
        go_ret
        exact ⟨ret_bool (decide_eq_true (by omega)), HB4.out.1.trans hb5⟩
      · have cQ := Parse_at S w4 (by omega) (HG.out.bl HB4.out.1)
        clear hb4 cX
        go_wp2_with fail
        refine cQ.mono ?_
        rintro e w5 ⟨hb5, hans⟩
        rw [HV.out.2.2.2.2.2.2.1, HV.out.2.2.2.1] at hans
        obtain ⟨u, rfl, hu⟩ := hans
        obtain ⟨d1, d2, d3, d4⟩ := prT_told HV.out.2.2.2.1 (by rw [← hSs]; omega)
        obtain ⟨up, un, uc, rfl⟩ : ∃ up un uc, u = .slice up un uc := by
          obtain ⟨p, c, cs, h1, _⟩ := hu
          exact ⟨_, _, _, h1⟩
        have H5 : Hid (Bl w w5 ∧ (∃ ok, IsTs w5 ok (.slice tp tn tc) l) ∧ (∃ ok, IsTs w5 ok (.slice up un uc) l')) := ⟨HB4.out.1.trans hb5, by obtain ⟨ok, h⟩ := HB4.out.2; exact ⟨ok, h.bl hb5⟩, ⟨_, hu⟩⟩
        obtain ⟨okm, hm⟩ := H5.out.2.2
        obtain ⟨okl, hl⟩ := H5.out.2.1
        have kX := fun wx (hb : Bl w5 wx) => Print_at l' (.slice up un uc) wx okm (hm.bl hb) d2 (HG.out.bl (H5.out.1.trans hb)) (by omega)
        rw [HV.out.2.2.2.2.1, ← HV.out.2.2.2.2.2.2.2] at kX
        have kL := fun wx (hb : Bl w5 wx) => Check_at l (.slice tp tn tc) wx okl (hl.bl hb) HV.out.2.2.1
        have kM := fun wx (hb : Bl w5 wx) => Check_at l' (.slice up un uc) wx okm (hm.bl hb) d1
        clear hu d1 d2 d3 d4 hb5 cQ hm hl
        have hiff := HV.out.2.2.2.2.2.1
        have HBD : Hid (Bl w5 w5.drew) := (Bl.refl w5).drew
        by_cases hck : chk l = none
        · have hck' := hiff.2 hck
          clear hiff
          have kL' := fun wx (hb : Bl w5 wx) => (kL wx hb).mono (R' := fun e w' => e = .returned .nilIface ∧ Bl wx w') (fun e w' h => by obtain ⟨hb, h⟩ := h.get; rcases h with ⟨_, h⟩ | ⟨hn, _⟩; exact ⟨h, hb⟩; exact absurd hck hn)
          have kM' := fun wx (hb : Bl w5 wx) => (kM wx hb).mono (R' := fun e w' => e = .returned .nilIface ∧ Bl wx w') (fun e w' h => by obtain ⟨hb, h⟩ := h.get; rcases h with ⟨_, h⟩ | ⟨hn, _⟩; exact ⟨h, hb⟩; exact absurd hck' hn)
          clear kL kM hck hck'
          go_upto_region 13 with fail
          go_region_held3 (fun _ => True) (exact trivial)
            (first
              | (go_at_call 13; (with_reducible refine (kX _ HBD.out).mono ?_); rintro e w6 ⟨rfl, hb6⟩; have HB6 : Hid (Bl w5 w6) := HBD.out.trans hb6; clear hb6)
              | (go_at_call 17; (with_reducible refine (kL' _ HB6.out).mono ?_); rintro e w7 ⟨rfl, hb7⟩; have HB7 : Hid (Bl w5 w7) := HB6.out.trans hb7; clear hb7)
              | (go_at_call 17; (with_reducible refine (kM' _ HB7.out).mono ?_); rintro e w8 ⟨rfl, hb8⟩; have HB8 : Hid (Bl w5 w8) := HB7.out.trans hb8; clear hb8))
          all_goals
            go_wp2
            go_ret
            exact ⟨rfl, H5.out.1.trans HB8.out⟩
        · have hck' : chk l' ≠ none := fun h => hck (hiff.1 h)
          clear hiff
          have kL' := fun wx (hb : Bl w5 wx) => (kL wx hb).mono (R' := fun e w' => ∃ A : Nat, e = .returned (.iface 110 (.pointer (some ⟨A, 0, none⟩))) ∧ Bl wx w') (fun e w' h => by obtain ⟨hb, h⟩ := h.get; rcases h with ⟨hn, _⟩ | ⟨_, A, h⟩; exact absurd hn hck; exact ⟨A, h, hb⟩)
          have kM' := fun wx (hb : Bl w5 wx) => (kM wx hb).mono (R' := fun e w' => ∃ A : Nat, e = .returned (.iface 110 (.pointer (some ⟨A, 0, none⟩))) ∧ Bl wx w') (fun e w' h => by obtain ⟨hb, h⟩ := h.get; rcases h with ⟨hn, _⟩ | ⟨_, A, h⟩; exact absurd hn hck'; exact ⟨A, h, hb⟩)
          clear kL kM hck hck'
          go_upto_region 13 with fail
          go_region_held3 (fun _ => True) (exact trivial)
            (first
              | (go_at_call 13; (with_reducible refine (kX _ HBD.out).mono ?_); rintro e w6 ⟨rfl, hb6⟩; have HB6 : Hid (Bl w5 w6) := HBD.out.trans hb6; clear hb6)
              | (go_at_call 17; (with_reducible refine (kL' _ HB6.out).mono ?_); rintro e w7 ⟨A7, rfl, hb7⟩; have HB7 : Hid (Bl w5 w7) := HB6.out.trans hb7; clear hb7)
              | (go_at_call 17; (with_reducible refine (kM' _ HB7.out).mono ?_); rintro e w8 ⟨A8, rfl, hb8⟩; have HB8 : Hid (Bl w5 w8) := HB7.out.trans hb8; clear hb8))
          all_goals
            go_wp2
            go_ret
            exact ⟨rfl, H5.out.1.trans HB8.out⟩
end Go.Proofs.YtpanodaecjlgaaaGreatDoor.tm
