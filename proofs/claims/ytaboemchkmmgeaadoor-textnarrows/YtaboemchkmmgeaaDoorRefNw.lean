/- What TextNarrow, of the document's own, answers. -/
import Derived.Test.YtaboemchkmmgeaaDoorNarrow
import Derived.Test.YtaboemchkmmgeaaDoorRefT1
import Derived.Deep.RegionHeld3
namespace Go.Proofs.YtaboemchkmmgeaaDoor.narrow
set_option linter.unusedVariables false
open Go.ChangeShapes Go.WideShapes Go.ChangeAt Go.RowKit
open mem num words rows
open utf (within_at)

theorem at_bl {w w' : World} (h : Bl w w') {a : Addr} {v : Value} (hc : w.cell? a = some v) : w'.cell? a = some v := by
  have hlt : a.block < w.heap.size := by
    rcases Nat.lt_or_ge a.block w.heap.size with h1 | h1
    · exact h1
    · simp [World.cell?, Array.getElem?_eq_none h1] at hc
  unfold World.cell? at hc ⊢
  rw [Below.block h _ hlt]
  exact hc
theorem fz_bl {w w' : World} (h : Bl w w') {a : Addr} (hlt : a.block < w.heap.size) (hc : w.frozen? a = false) : w'.frozen? a = false := by
  unfold World.frozen? at hc ⊢
  rw [Below.block h _ hlt]
  exact hc
theorem good_at (w : World) : Calls Tryd.prog 29 #[] w fun e w' => e = .returned (.agg #[.int .i64 0, .int .i64 (-1)]) ∧ Bl w w' := by
  go_enter Tryd.func29, Tryd.ntmps29
  go_wp2
  refine bodyPost_ret (v := .agg #[.int .i64 0, .int .i64 (-1)]) (by simp [results, Tryd.f29, go_sem]) rfl ⟨rfl, ?_⟩
  first | exact (Bl.refl w).alloc _ | exact Bl.setCell (a := ⟨w.heap.size, 1, none⟩) (Bl.setCell (a := ⟨w.heap.size, 0, none⟩) ((Bl.refl w).alloc _) (Nat.le_refl _) _) (Nat.le_refl _) _
/-- An append whose run is known, as a step of a region that draws. -/
theorem step_append_run {P : Program} {ops : Array Oper} {o : Oper} {a : Act} {w : World} {K : Act → World → Prop} {Q : Exit → Act → World → Prop} {E : Prop}
    (hg : o.guard = none) (s x : Operand) (t tx : TypeId) (hop : o.op = Op.call { callee := Callee.builtin Builtin.append, args := #[s, x], argTypes := #[t, tx] })
    (vs vx : Value) (hs : a.eval s = vs) (hx : a.eval x = vx) (v' : Value) (w' : World) (hr : (Builtin.append_ #[t, tx] o.type #[vs, vx]).run P w = .ok v' w') (hK : K (a.put o.dst v') w') :
    if Region.wanted o (yielded ops a.tmps) = true then Oper.wp P o a w K Q else E := by
  have hw : Region.wanted o (yielded ops a.tmps) = true := by simp [Region.wanted, hg]
  rw [if_pos hw]
  exact Lib.wp_append_run w s x t tx hop vs vx hs hx v' w' hr hK
theorem _root_.Go.Proofs.YtaboemchkmmgeaaDoor.rows.Own.set_other {w : World} {base : Nat} {v : Value} {l : List Int} (h : Own w base v l) {a : Addr} (ha : a.block < base) (x : Value) : Own (w.setCell a x) base v l := by
  refine ⟨h.1, ?_⟩
  rcases h.2 with h | ⟨g, cap, cur, h1, h2, h3, h4⟩
  · exact Or.inl h
  · refine Or.inr ⟨g, cap, cur, h1, h2, ?_, h4⟩
    have hne : ¬ a.block = g := by omega
    simp [World.setCell, Array.getElem?_modify, hne, h3]
theorem _root_.Go.Proofs.YtaboemchkmmgeaaDoor.rows.Own.mono {w : World} {base base' : Nat} {v : Value} {l : List Int} (h : Own w base v l) (hb : base' ≤ base) : Own w base' v l := by
  refine ⟨h.1, ?_⟩
  rcases h.2 with h | ⟨g, cap, cur, h1, h2, h3⟩
  · exact Or.inl h
  · exact Or.inr ⟨g, cap, cur, h1, Nat.le_trans hb h2, h3⟩
theorem own_cells {w : World} {base g K cap : Nat} {l : List Int} (h : Own w base (.slice (some ⟨g, 0, none⟩) K cap) l) (hl : l.length = K) : ∀ k, k < K → w.cell? ⟨g, k, none⟩ = some (.int .i64 (l.getD k 0)) := by
  rcases h.shape with ⟨e, _⟩ | ⟨g', cap', e, _, _, _, _, hc⟩
  · exact absurd e (by simp)
  · have e1 : g = g' := by simpa using congrArg (fun v => match v with | Value.slice (some a) _ _ => a.block | _ => 0) e
    subst e1
    intro k hk
    exact hc k (by rw [hl]; exact hk)
/-- The k-th pair, as the document's own reader has it first. -/
def vR (s : ByteArray) (o : Bool) (k : Nat) : Int := if 2 * k + 2 ≤ s.size then pr s (2 * k) o else 55296
theorem vR_bd (s : ByteArray) (o : Bool) (k : Nat) : 0 ≤ vR s o k ∧ vR s o k < 65536 := by
  unfold vR
  split
  · exact pr_bd _ _ _
  · omega
def RU (s : ByteArray) (o : Bool) (k : Nat) : List Int := (List.range k).map (vR s o)
theorem RU_len (s : ByteArray) (o : Bool) (k : Nat) : (RU s o k).length = k := by simp [RU]
theorem RU_succ (s : ByteArray) (o : Bool) (k : Nat) : RU s o (k + 1) = RU s o k ++ [vR s o k] := by simp [RU, List.range_succ]
theorem RU_get (s : ByteArray) (o : Bool) (k j : Nat) (h : j < k) : (RU s o k).getD j 0 = vR s o j := by simp [RU, h]
theorem refPair_yes (s : ByteArray) (k : Nat) (o : Bool) (O x a : Int) (w : World) (hO : (if o then (1 : Int) else 0) = O) (hs : s.size ≤ 1000) (ha : a = 2 * (k : Int)) (h : 2 * k + 2 ≤ s.size) (hx : vR s o k = x) :
    Calls Tryd.prog 38 #[.string s, .int .i64 a, .int .i64 2, .int .i64 O] w fun e w' => e = .returned (.tuple #[.int .u64 x, .int .i64 0]) ∧ w' = w := by
  unfold vR at hx
  rw [if_pos h] at hx
  unfold pr at hx
  have c := refGet_any s (2 * k) 2 o O w hO (Or.inr (Or.inl rfl)) (by omega) h
  rw [hx] at c
  rw [ha]
  exact c
theorem refPair_no (s : ByteArray) (k : Nat) (o : Bool) (O a : Int) (w : World) (hO : (if o then (1 : Int) else 0) = O) (hs : s.size ≤ 1000) (ha : a = 2 * (k : Int)) (h : ¬ (2 * k + 2 ≤ s.size)) (hk : k ≤ 1000) :
    Calls Tryd.prog 38 #[.string s, .int .i64 a, .int .i64 2, .int .i64 O] w fun e w' => e = .returned (.tuple #[.int .u64 0, .int .i64 2]) ∧ w' = w :=
  refGet_out s a 2 O w (by omega) (Or.inr (Or.inl rfl)) (by cases o <;> simp at hO <;> unfold okO <;> omega) (Or.inr (by omega)) (by omega)
theorem refNarrow_no (s : ByteArray) (O : Int) (w : World) (h : ¬ (O = 0 ∨ O = 1)) :
    Calls Tryd.prog 16 #[.string s, .int .i64 O] w fun e w' => e = .returned (.tuple #[.slice none 0 0, .agg #[.int .i64 1, .int .i64 (-1)]]) ∧ Bl w w' := by
  have c := fun w => within_at O 0 1 w
  rw [decide_eq_false (fun h' => h (by omega))] at c
  clear h
  go_enter Tryd.func16, Tryd.ntmps16
  go_wp2_with (go_at_call 32; refine (c _).mono ?_; rintro e w1 ⟨rfl, rfl⟩)
  refine bodyPost_ret (v := .tuple #[.slice none 0 0, .agg #[.int .i64 1, .int .i64 (-1)]]) (by simp [results, Tryd.f16, go_sem]) rfl ⟨rfl, ?_⟩
  first | exact (Bl.refl w1).alloc _ | exact Bl.setCell (a := ⟨w1.heap.size, 1, none⟩) (Bl.setCell (a := ⟨w1.heap.size, 0, none⟩) ((Bl.refl w1).alloc _) (Nat.le_refl _) _) (Nat.le_refl _) _ | exact (Bl.refl w).alloc _ | exact Bl.setCell (a := ⟨w.heap.size, 1, none⟩) (Bl.setCell (a := ⟨w.heap.size, 0, none⟩) ((Bl.refl w).alloc _) (Nat.le_refl _) _) (Nat.le_refl _) _
set_option maxHeartbeats 8000000 in
set_option maxRecDepth 100000 in
theorem refNarrow_at (s : ByteArray) (o : Bool) (O : Int) (w : World) (hO : (if o then (1 : Int) else 0) = O) (hs : s.size ≤ 1000) :
    Calls Tryd.prog 16 #[.string s, .int .i64 O] w fun e w' => ∃ v, e = .returned (.tuple #[v, .agg #[.int .i64 0, .int .i64 (-1)]]) ∧ Own w' w.heap.size v (NL s o s.size 0) ∧ Bl w w' := by
  have cO := fun w => within_at O 0 1 w
  rw [decide_eq_true (show 0 ≤ O ∧ O ≤ 1 by cases o <;> simp at hO <;> omega)] at cO
  have HO : Hid ((if o then (1 : Int) else 0) = O) := hO
  clear hO
  go_enter Tryd.func16, Tryd.ntmps16
  go_wp2_with (go_at_call 32; refine (cO _).mono ?_; rintro e w1 ⟨rfl, rfl⟩)
  obtain ⟨base, hbase⟩ : ∃ b, b = (w.alloc (.cells #[.int .i64 0, .int .i64 0] 29)).heap.size := ⟨_, rfl⟩
  have HB : Hid (base = (w.alloc (.cells #[.int .i64 0, .int .i64 0] 29)).heap.size) := hbase
  clear hbase
  go_loopw [6, 7] (fun v av wr => ∃ (k : Nat) (a : Int), av = .int .i64 a ∧ Hid (a = 2 * (k : Int)) ∧ 0 ≤ a ∧ a ≤ 2000 ∧ 2 * k ≤ s.size + 1 ∧ Own wr base v (RU s o k) ∧ Bl (w.alloc (.cells #[.int .i64 0, .int .i64 0] 29)) wr) (fun _ av _ => s.size - (intOf av).toNat)
  case atStart => exact ⟨0, 0, rfl, rfl, by omega, by omega, by omega, Own.nil _ _, Bl.refl _⟩
  case round =>
    obtain ⟨k, a, rfl, HK, ha0, ha1, hk, hown, hbl⟩ := hrel
    have hak := HK.out
    rename World => wr
    have hbb : base ≤ wr.heap.size := by have := hbl.size; rw [HB.out]; exact this
    by_cases hend : s.size ≤ 2 * k
    · have hz : ¬ (a < (s.size : Int)) := by omega
      obtain ⟨K, rfl⟩ : ∃ K, K = k := ⟨_, rfl⟩
      clear hak
      have hK1 : K ≤ 1000 := by omega
      obtain ⟨od, hod⟩ : ∃ b, ((s.size : Int) % 2 == 1) = b := ⟨_, rfl⟩
      rcases hown.shape with ⟨rfl, e⟩ | ⟨g, cap, rfl, _, hgl, _, hcap, hcells⟩
      · have hK0 : K = 0 := by have := RU_len s o K; rw [e] at this; simpa using this.symm
        have h0 : s.size = 0 := by omega
        have HNL : Hid (NL s o s.size 0 = []) := NL_none _ _ _ _ (by omega)
        clear hown e
        go_wp2
        go_loopw [11, 12] (fun l i wx => l = .slice none 0 0 ∧ i = .int .i64 0 ∧ Bl (w.alloc (.cells #[.int .i64 0, .int .i64 0] 29)) wx) (fun _ _ _ => 0)
        case atStart => exact ⟨rfl, rfl, hbl⟩
        case round =>
          obtain ⟨rfl, rfl, hbl⟩ := hrel
          go_wp2_with (go_at_call 29; refine (good_at _).mono ?_; rintro e v1 ⟨rfl, g1⟩; have c0 := at_bl g1 (at_bl hbl (a := ⟨w.heap.size, 0, none⟩) (v := .int .i64 0) (by simp)); have c1 := at_bl g1 (at_bl hbl (a := ⟨w.heap.size, 1, none⟩) (v := .int .i64 0) (by simp)); have f0 := fz_bl g1 (a := ⟨w.heap.size, 0, none⟩) (by have := hbl.size; simp at this; exact this) (fz_bl hbl (a := ⟨w.heap.size, 0, none⟩) (by simp) (by simp)); have f1 := fz_bl g1 (a := ⟨w.heap.size, 1, none⟩) (by have := hbl.size; simp at this; exact this) (fz_bl hbl (a := ⟨w.heap.size, 1, none⟩) (by simp) (by simp)))
          refine bodyPost_ret (v := .tuple #[.slice none 0 0, .agg #[.int .i64 0, .int .i64 (-1)]]) (by simp [results, Tryd.f16, go_sem, c0, c1]) rfl ⟨_, rfl, ?_, ?_⟩
          · rw [HNL.out]
            exact ((((Own.nil _ base).step g1).set_other (a := ⟨w.heap.size, 0, none⟩) (by rw [HB.out]; simp) _).set_other (a := ⟨w.heap.size, 1, none⟩) (by rw [HB.out]; simp) _).mono (by rw [HB.out]; simp)
          · exact Bl.setCell (a := ⟨w.heap.size, 1, none⟩) (Bl.setCell (a := ⟨w.heap.size, 0, none⟩) (((Bl.refl w).alloc _).trans (hbl.trans g1)) (Nat.le_refl _) _) (Nat.le_refl _) _
      · have hown0 : Own2 _ base _ (RU s o K) (.slice none 0 0) [] := ⟨hown, Own.nil _ _, fun k _ e => absurd e (by simp [Value.ownBlock]), hbb⟩
        have hRl := RU_len s o K
        rw [hRl] at hown0 hcells ⊢
        clear hown
        go_wp2
        go_loopw [11, 12] (fun l iv wx => ∃ (i f : Nat) (L : List Int), iv = .int .i64 (i : Int) ∧ i ≤ 1001 ∧ s.size ≤ 2 * i + 2 * f ∧ L.length + f ≤ s.size ∧ Hid (L ++ NL s o f i = NL s o s.size 0) ∧ Own2 wx base (.slice (some ⟨g, 0, none⟩) K cap) (RU s o K) l L ∧ Bl (w.alloc (.cells #[.int .i64 0, .int .i64 0] 29)) wx) (fun _ iv _ => K + 1 - (intOf iv).toNat)
        case atStart => exact ⟨0, s.size, [], rfl, by omega, by omega, by simp, rfl, hown0, hbl⟩
        case round =>
          clear hown0 hbl hbb hcells
          obtain ⟨i, f, L, rfl, hi1, hf, hLf, HA, hown, hbl⟩ := hrel
          by_cases hiK : i < K
          · have hz2 : (i : Int) < (K : Int) := by omega
            obtain ⟨f', rfl⟩ : ∃ f', f = f' + 1 := ⟨f - 1, by omega⟩
            obtain ⟨x, hx⟩ : ∃ x, vR s o i = x := ⟨_, rfl⟩
            obtain ⟨y, hy⟩ : ∃ y, vR s o (i + 1) = y := ⟨_, rfl⟩
            have hxb := vR_bd s o i
            have hyb := vR_bd s o (i + 1)
            rw [hx] at hxb
            rw [hy] at hyb
            have HX : Hid (vR s o i = x) := hx
            have HY : Hid (vR s o (i + 1) = y) := hy
            have hsh := own_cells hown.a hRl
            have hcx := hsh i hiK
            rw [RU_get s o K i hiK, hx] at hcx
            have hcy : i + 1 < K → wr.cell? ⟨g, i + 1, none⟩ = some (.int .i64 y) := fun h => by
              have := hsh (i + 1) h
              rw [RU_get s o K (i + 1) h, hy] at this
              exact this
            clear hsh
            have hend2 : ¬ (s.size ≤ 2 * i) := by omega
            by_cases hin : 2 * i + 2 ≤ s.size
            · have hUx : U s o i = x := by
                unfold U
                rw [if_pos hin, ← hx]
                unfold vR
                rw [if_pos hin]
              have hUy : (2 * (i + 1) + 2 ≤ s.size ∧ U s o (i + 1) = y) ∨ (¬ (2 * (i + 1) + 2 ≤ s.size) ∧ U s o (i + 1) = 65533 ∧ y = 55296) := by
                unfold U
                unfold vR at hy
                by_cases h : 2 * (i + 1) + 2 ≤ s.size
                · rw [if_pos h] at hy ⊢
                  exact Or.inl ⟨h, hy⟩
                · rw [if_neg h] at hy ⊢
                  exact Or.inr ⟨h, rfl, hy.symm⟩
              have hlast : od = true → ((i : Int) == (K : Int) - 1) = false := fun e => by
                rw [e, beq_iff_eq] at hod
                rw [beq_eq_false_iff_ne]
                omega
              have HOD : Hid (((s.size : Int) % 2 == 1) = od) := hod
              clear hod hx hy
              cases od with
              | false =>
                clear hlast
                by_cases h1 : 55296 ≤ x ∧ x ≤ 56319
                · by_cases h2 : i + 1 < K
                  · have hi2 : (i : Int) + 1 < (K : Int) := by omega
                    have hcy := hcy h2
                    by_cases h3 : 56320 ≤ y ∧ y ≤ 57343
                    · have hUy2 : U s o (i + 1) = y := by omega
                      obtain ⟨z, hz⟩ : ∃ z, z = 65536 + (x - 55296) * 1024 + (y - 56320) := ⟨_, rfl⟩
                      have HE : Hid ((L ++ [z]) ++ NL s o f' (i + 2) = NL s o s.size 0) := by
                        have := HA.out
                        rw [NL_two s o f' i hend2 (by rw [hUx, hUy2]; omega), hUx, hUy2, ← hz] at this
                        simpa [Hid] using this
                      have cw1 := fun w => within_at x 55296 56319 w
                      rw [decide_eq_true (h1)] at cw1
                      have cw2 := fun w => within_at y 56320 57343 w
                      rw [decide_eq_true (h3)] at cw2
                      have cw3 : True := trivial
                      have t1 : IntKind.i64.wrap (x - 55296) = x - 55296 := by rw [IntKind.wrap_i64]; omega
                      have t2 : IntKind.i64.wrap ((x - 55296) * 1024) = (x - 55296) * 1024 := by rw [IntKind.wrap_i64]; omega
                      have t3 : IntKind.i64.wrap (65536 + (x - 55296) * 1024) = 65536 + (x - 55296) * 1024 := by rw [IntKind.wrap_i64]; omega
                      have t4 : IntKind.i64.wrap (65536 + (x - 55296) * 1024 + y) = 65536 + (x - 55296) * 1024 + y := by rw [IntKind.wrap_i64]; omega
                      have t5 : IntKind.i64.wrap (65536 + (x - 55296) * 1024 + y - 56320) = z := by rw [IntKind.wrap_i64]; omega
                      have hi0 : (0 : Int) ≤ (i : Int) + 1 := by omega
                      have hi00 : (0 : Int) ≤ (i : Int) := by omega
                      have t6 : IntKind.i64.wrap ((i : Int) + 1) = (i : Int) + 1 := by rw [IntKind.wrap_i64]; omega

                      obtain ⟨v', w', hr, ho', hg', hv'⟩ := app_one (wr.drew.alloc (.cells #[.int .i64 z] 3)) base _ L z wr.heap.size (hown.b.step (((Bl.refl wr).drew).alloc _)) (by go_simp) (by omega) (Nat.le_trans hown.le (by simp))
                      have HR : Hid _ := hr
                      have ho3 := (hown.step (((Bl.refl wr).drew).alloc _)).second ho' hg' hv'
                      have hb3 : Bl (w.alloc (.cells #[.int .i64 0, .int .i64 0] 29)) w' := bl_grown ((hbl.drew).alloc _) hg' (fun k e => by rw [← HB.out]; exact (hown.b.block k e).1)
                      have hsh' := own_cells ho3.a hRl
                      have hcx' := hsh' i hiK
                      rw [RU_get s o K i hiK, HX.out] at hcx'
                      have hcy' := hsh' (i + 1) h2
                      rw [RU_get s o K (i + 1) h2, HY.out] at hcy'
                      clear hr ho' hg' hv' HA hUx hUy hUy2 hz hsh'
                      go_wp2_with (first
                        | (go_at_call_of 32 (Value.int .i64 56319); refine (cw1 _).mono ?_; rintro e w2 ⟨rfl, rfl⟩)
                        | (go_at_call_of 32 (Value.int .i64 56320); refine (cw2 _).mono ?_; rintro e w2 ⟨rfl, rfl⟩)
                        | (go_at_call_of 32 (Value.int .i64 57343); refine (cw3 _).mono ?_; rintro e w2 ⟨rfl, rfl⟩))
                      go_region_held3 (fun w' => w'.cell? ⟨g, i, none⟩ = some (.int .i64 x) ∧ w'.cell? ⟨g, i + 1, none⟩ = some (.int .i64 y)) (constructor <;> first | assumption | exact at_bl (Bl.drew (Bl.refl _)) (by assumption) | exact at_bl ((Bl.refl _).alloc _) (by assumption) | exact at_bl (Bl.drew ((Bl.refl _).alloc _)) (by assumption) | exact at_bl ((Bl.drew (Bl.refl _)).alloc _) (by assumption)) (refine step_append_run rfl _ _ _ _ rfl _ _ rfl rfl _ _ HR.out ?_)
                      all_goals go_wp2
                      all_goals go_roundw
                      all_goals first | exact ⟨i + 2, f', L ++ [z], by go_num, by omega, by omega, by simp; omega, HE, ho3, hb3⟩ | (simp [intOf]; omega)
                    · skip
                      have HE : Hid ((L ++ [65533]) ++ NL s o f' (i + 1) = NL s o s.size 0) := by
                        have := HA.out
                        rw [NL_one s o f' i hend2 (by rw [hUx]; omega), hUx, if_pos (by omega)] at this
                        simpa [Hid] using this
                      have cw1 := fun w => within_at x 55296 56319 w
                      rw [decide_eq_true (h1)] at cw1
                      have cw2 := fun w => within_at y 56320 57343 w
                      rw [decide_eq_false (h3)] at cw2
                      have cw3 := fun w => within_at x 55296 57343 w
                      rw [decide_eq_true (by omega)] at cw3
                      clear HA hUx hUy hcy
                      go_wp2_with (first
                        | (go_at_call_of 32 (Value.int .i64 56319); refine (cw1 _).mono ?_; rintro e w2 ⟨rfl, rfl⟩)
                        | (go_at_call_of 32 (Value.int .i64 56320); refine (cw2 _).mono ?_; rintro e w2 ⟨rfl, rfl⟩)
                        | (go_at_call_of 32 (Value.int .i64 57343); refine (cw3 _).mono ?_; rintro e w2 ⟨rfl, rfl⟩)
                        | (at_builtin; refine wpL_app rfl (.tmp 116) (.tmp 117) rfl rfl _ _ 65533 _ rfl rfl _ (hown.alloc _).b (by go_simp) (by omega) (hown.alloc _).le ?_; intro v' w3 hw3 hg3 hv3; have ho3 := (hown.alloc _).second hw3 hg3 hv3; have hb3 : Bl (w.alloc (.cells #[.int .i64 0, .int .i64 0] 29)) w3 := bl_grown (hbl.alloc _) hg3 (fun k e => by rw [← HB.out]; exact (hown.b.block k e).1); clear hw3 hg3 hv3))
                      go_roundw
                      case rel => exact ⟨i + 1, f', L ++ [65533], by go_num, by omega, by omega, by simp; omega, HE, ho3, hb3⟩
                      case measure => simp [intOf]; omega
                  · have hi2 : ¬ ((i : Int) + 1 < (K : Int)) := by omega
                    have HE : Hid ((L ++ [65533]) ++ NL s o f' (i + 1) = NL s o s.size 0) := by
                      have := HA.out
                      rw [NL_one s o f' i hend2 (by rw [hUx]; omega), hUx, if_pos (by omega)] at this
                      simpa [Hid] using this
                    have cw1 := fun w => within_at x 55296 56319 w
                    rw [decide_eq_true (h1)] at cw1
                    have cw2 : True := trivial
                    have cw3 := fun w => within_at x 55296 57343 w
                    rw [decide_eq_true (by omega)] at cw3
                    clear HA hUx hUy hcy
                    go_wp2_with (first
                      | (go_at_call_of 32 (Value.int .i64 56319); refine (cw1 _).mono ?_; rintro e w2 ⟨rfl, rfl⟩)
                      | (go_at_call_of 32 (Value.int .i64 56320); refine (cw2 _).mono ?_; rintro e w2 ⟨rfl, rfl⟩)
                      | (go_at_call_of 32 (Value.int .i64 57343); refine (cw3 _).mono ?_; rintro e w2 ⟨rfl, rfl⟩)
                      | (at_builtin; refine wpL_app rfl (.tmp 116) (.tmp 117) rfl rfl _ _ 65533 _ rfl rfl _ (hown.alloc _).b (by go_simp) (by omega) (hown.alloc _).le ?_; intro v' w3 hw3 hg3 hv3; have ho3 := (hown.alloc _).second hw3 hg3 hv3; have hb3 : Bl (w.alloc (.cells #[.int .i64 0, .int .i64 0] 29)) w3 := bl_grown (hbl.alloc _) hg3 (fun k e => by rw [← HB.out]; exact (hown.b.block k e).1); clear hw3 hg3 hv3))
                    go_roundw
                    case rel => exact ⟨i + 1, f', L ++ [65533], by go_num, by omega, by omega, by simp; omega, HE, ho3, hb3⟩
                    case measure => simp [intOf]; omega
                · by_cases h4 : 55296 ≤ x ∧ x ≤ 57343
                  · skip
                    have HE : Hid ((L ++ [65533]) ++ NL s o f' (i + 1) = NL s o s.size 0) := by
                      have := HA.out
                      rw [NL_one s o f' i hend2 (by rw [hUx]; omega), hUx, if_pos (by omega)] at this
                      simpa [Hid] using this
                    have cw1 := fun w => within_at x 55296 56319 w
                    rw [decide_eq_false (h1)] at cw1
                    have cw2 : True := trivial
                    have cw3 := fun w => within_at x 55296 57343 w
                    rw [decide_eq_true (h4)] at cw3
                    clear HA hUx hUy hcy
                    go_wp2_with (first
                      | (go_at_call_of 32 (Value.int .i64 56319); refine (cw1 _).mono ?_; rintro e w2 ⟨rfl, rfl⟩)
                      | (go_at_call_of 32 (Value.int .i64 56320); refine (cw2 _).mono ?_; rintro e w2 ⟨rfl, rfl⟩)
                      | (go_at_call_of 32 (Value.int .i64 57343); refine (cw3 _).mono ?_; rintro e w2 ⟨rfl, rfl⟩)
                      | (at_builtin; refine wpL_app rfl (.tmp 116) (.tmp 117) rfl rfl _ _ 65533 _ rfl rfl _ (hown.alloc _).b (by go_simp) (by omega) (hown.alloc _).le ?_; intro v' w3 hw3 hg3 hv3; have ho3 := (hown.alloc _).second hw3 hg3 hv3; have hb3 : Bl (w.alloc (.cells #[.int .i64 0, .int .i64 0] 29)) w3 := bl_grown (hbl.alloc _) hg3 (fun k e => by rw [← HB.out]; exact (hown.b.block k e).1); clear hw3 hg3 hv3))
                    go_roundw
                    case rel => exact ⟨i + 1, f', L ++ [65533], by go_num, by omega, by omega, by simp; omega, HE, ho3, hb3⟩
                    case measure => simp [intOf]; omega
                  · skip
                    have HE : Hid ((L ++ [x]) ++ NL s o f' (i + 1) = NL s o s.size 0) := by
                      have := HA.out
                      rw [NL_one s o f' i hend2 (by rw [hUx]; omega), hUx, if_neg (by omega)] at this
                      simpa [Hid] using this
                    have cw1 := fun w => within_at x 55296 56319 w
                    rw [decide_eq_false (h1)] at cw1
                    have cw2 : True := trivial
                    have cw3 := fun w => within_at x 55296 57343 w
                    rw [decide_eq_false (h4)] at cw3
                    clear HA hUx hUy hcy
                    go_wp2_with (first
                      | (go_at_call_of 32 (Value.int .i64 56319); refine (cw1 _).mono ?_; rintro e w2 ⟨rfl, rfl⟩)
                      | (go_at_call_of 32 (Value.int .i64 56320); refine (cw2 _).mono ?_; rintro e w2 ⟨rfl, rfl⟩)
                      | (go_at_call_of 32 (Value.int .i64 57343); refine (cw3 _).mono ?_; rintro e w2 ⟨rfl, rfl⟩)
                      | (at_builtin; refine wpL_app rfl (.tmp 62) (.tmp 67) rfl rfl _ _ x _ rfl rfl _ (hown.alloc _).b (by go_simp) (by omega) (hown.alloc _).le ?_; intro v' w3 hw3 hg3 hv3; have ho3 := (hown.alloc _).second hw3 hg3 hv3; have hb3 : Bl (w.alloc (.cells #[.int .i64 0, .int .i64 0] 29)) w3 := bl_grown (hbl.alloc _) hg3 (fun k e => by rw [← HB.out]; exact (hown.b.block k e).1); clear hw3 hg3 hv3))
                    go_roundw
                    case rel => exact ⟨i + 1, f', L ++ [x], by go_num, by omega, by omega, by simp; omega, HE, ho3, hb3⟩
                    case measure => simp [intOf]; omega
              | true =>
                have hl := hlast rfl
                clear hlast
                by_cases h1 : 55296 ≤ x ∧ x ≤ 56319
                · by_cases h2 : i + 1 < K
                  · have hi2 : (i : Int) + 1 < (K : Int) := by omega
                    have hcy := hcy h2
                    by_cases h3 : 56320 ≤ y ∧ y ≤ 57343
                    · have hUy2 : U s o (i + 1) = y := by omega
                      obtain ⟨z, hz⟩ : ∃ z, z = 65536 + (x - 55296) * 1024 + (y - 56320) := ⟨_, rfl⟩
                      have HE : Hid ((L ++ [z]) ++ NL s o f' (i + 2) = NL s o s.size 0) := by
                        have := HA.out
                        rw [NL_two s o f' i hend2 (by rw [hUx, hUy2]; omega), hUx, hUy2, ← hz] at this
                        simpa [Hid] using this
                      have cw1 := fun w => within_at x 55296 56319 w
                      rw [decide_eq_true (h1)] at cw1
                      have cw2 := fun w => within_at y 56320 57343 w
                      rw [decide_eq_true (h3)] at cw2
                      have cw3 : True := trivial
                      have t1 : IntKind.i64.wrap (x - 55296) = x - 55296 := by rw [IntKind.wrap_i64]; omega
                      have t2 : IntKind.i64.wrap ((x - 55296) * 1024) = (x - 55296) * 1024 := by rw [IntKind.wrap_i64]; omega
                      have t3 : IntKind.i64.wrap (65536 + (x - 55296) * 1024) = 65536 + (x - 55296) * 1024 := by rw [IntKind.wrap_i64]; omega
                      have t4 : IntKind.i64.wrap (65536 + (x - 55296) * 1024 + y) = 65536 + (x - 55296) * 1024 + y := by rw [IntKind.wrap_i64]; omega
                      have t5 : IntKind.i64.wrap (65536 + (x - 55296) * 1024 + y - 56320) = z := by rw [IntKind.wrap_i64]; omega
                      have hi0 : (0 : Int) ≤ (i : Int) + 1 := by omega
                      have hi00 : (0 : Int) ≤ (i : Int) := by omega
                      have t6 : IntKind.i64.wrap ((i : Int) + 1) = (i : Int) + 1 := by rw [IntKind.wrap_i64]; omega

                      obtain ⟨v', w', hr, ho', hg', hv'⟩ := app_one (wr.drew.alloc (.cells #[.int .i64 z] 3)) base _ L z wr.heap.size (hown.b.step (((Bl.refl wr).drew).alloc _)) (by go_simp) (by omega) (Nat.le_trans hown.le (by simp))
                      have HR : Hid _ := hr
                      have ho3 := (hown.step (((Bl.refl wr).drew).alloc _)).second ho' hg' hv'
                      have hb3 : Bl (w.alloc (.cells #[.int .i64 0, .int .i64 0] 29)) w' := bl_grown ((hbl.drew).alloc _) hg' (fun k e => by rw [← HB.out]; exact (hown.b.block k e).1)
                      have hsh' := own_cells ho3.a hRl
                      have hcx' := hsh' i hiK
                      rw [RU_get s o K i hiK, HX.out] at hcx'
                      have hcy' := hsh' (i + 1) h2
                      rw [RU_get s o K (i + 1) h2, HY.out] at hcy'
                      clear hr ho' hg' hv' HA hUx hUy hUy2 hz hsh'
                      go_wp2_with (first
                        | (go_at_call_of 32 (Value.int .i64 56319); refine (cw1 _).mono ?_; rintro e w2 ⟨rfl, rfl⟩)
                        | (go_at_call_of 32 (Value.int .i64 56320); refine (cw2 _).mono ?_; rintro e w2 ⟨rfl, rfl⟩)
                        | (go_at_call_of 32 (Value.int .i64 57343); refine (cw3 _).mono ?_; rintro e w2 ⟨rfl, rfl⟩))
                      go_region_held3 (fun w' => w'.cell? ⟨g, i, none⟩ = some (.int .i64 x) ∧ w'.cell? ⟨g, i + 1, none⟩ = some (.int .i64 y)) (constructor <;> first | assumption | exact at_bl (Bl.drew (Bl.refl _)) (by assumption) | exact at_bl ((Bl.refl _).alloc _) (by assumption) | exact at_bl (Bl.drew ((Bl.refl _).alloc _)) (by assumption) | exact at_bl ((Bl.drew (Bl.refl _)).alloc _) (by assumption)) (refine step_append_run rfl _ _ _ _ rfl _ _ rfl rfl _ _ HR.out ?_)
                      all_goals go_wp2
                      all_goals go_roundw
                      all_goals first | exact ⟨i + 2, f', L ++ [z], by go_num, by omega, by omega, by simp; omega, HE, ho3, hb3⟩ | (simp [intOf]; omega)
                    · skip
                      have HE : Hid ((L ++ [65533]) ++ NL s o f' (i + 1) = NL s o s.size 0) := by
                        have := HA.out
                        rw [NL_one s o f' i hend2 (by rw [hUx]; omega), hUx, if_pos (by omega)] at this
                        simpa [Hid] using this
                      have cw1 := fun w => within_at x 55296 56319 w
                      rw [decide_eq_true (h1)] at cw1
                      have cw2 := fun w => within_at y 56320 57343 w
                      rw [decide_eq_false (h3)] at cw2
                      have cw3 := fun w => within_at x 55296 57343 w
                      rw [decide_eq_true (by omega)] at cw3
                      clear HA hUx hUy hcy
                      go_wp2_with (first
                        | (go_at_call_of 32 (Value.int .i64 56319); refine (cw1 _).mono ?_; rintro e w2 ⟨rfl, rfl⟩)
                        | (go_at_call_of 32 (Value.int .i64 56320); refine (cw2 _).mono ?_; rintro e w2 ⟨rfl, rfl⟩)
                        | (go_at_call_of 32 (Value.int .i64 57343); refine (cw3 _).mono ?_; rintro e w2 ⟨rfl, rfl⟩)
                        | (at_builtin; refine wpL_app rfl (.tmp 116) (.tmp 117) rfl rfl _ _ 65533 _ rfl rfl _ (hown.alloc _).b (by go_simp) (by omega) (hown.alloc _).le ?_; intro v' w3 hw3 hg3 hv3; have ho3 := (hown.alloc _).second hw3 hg3 hv3; have hb3 : Bl (w.alloc (.cells #[.int .i64 0, .int .i64 0] 29)) w3 := bl_grown (hbl.alloc _) hg3 (fun k e => by rw [← HB.out]; exact (hown.b.block k e).1); clear hw3 hg3 hv3))
                      go_roundw
                      case rel => exact ⟨i + 1, f', L ++ [65533], by go_num, by omega, by omega, by simp; omega, HE, ho3, hb3⟩
                      case measure => simp [intOf]; omega
                  · have hi2 : ¬ ((i : Int) + 1 < (K : Int)) := by omega
                    have HE : Hid ((L ++ [65533]) ++ NL s o f' (i + 1) = NL s o s.size 0) := by
                      have := HA.out
                      rw [NL_one s o f' i hend2 (by rw [hUx]; omega), hUx, if_pos (by omega)] at this
                      simpa [Hid] using this
                    have cw1 := fun w => within_at x 55296 56319 w
                    rw [decide_eq_true (h1)] at cw1
                    have cw2 : True := trivial
                    have cw3 := fun w => within_at x 55296 57343 w
                    rw [decide_eq_true (by omega)] at cw3
                    clear HA hUx hUy hcy
                    go_wp2_with (first
                      | (go_at_call_of 32 (Value.int .i64 56319); refine (cw1 _).mono ?_; rintro e w2 ⟨rfl, rfl⟩)
                      | (go_at_call_of 32 (Value.int .i64 56320); refine (cw2 _).mono ?_; rintro e w2 ⟨rfl, rfl⟩)
                      | (go_at_call_of 32 (Value.int .i64 57343); refine (cw3 _).mono ?_; rintro e w2 ⟨rfl, rfl⟩)
                      | (at_builtin; refine wpL_app rfl (.tmp 116) (.tmp 117) rfl rfl _ _ 65533 _ rfl rfl _ (hown.alloc _).b (by go_simp) (by omega) (hown.alloc _).le ?_; intro v' w3 hw3 hg3 hv3; have ho3 := (hown.alloc _).second hw3 hg3 hv3; have hb3 : Bl (w.alloc (.cells #[.int .i64 0, .int .i64 0] 29)) w3 := bl_grown (hbl.alloc _) hg3 (fun k e => by rw [← HB.out]; exact (hown.b.block k e).1); clear hw3 hg3 hv3))
                    go_roundw
                    case rel => exact ⟨i + 1, f', L ++ [65533], by go_num, by omega, by omega, by simp; omega, HE, ho3, hb3⟩
                    case measure => simp [intOf]; omega
                · by_cases h4 : 55296 ≤ x ∧ x ≤ 57343
                  · skip
                    have HE : Hid ((L ++ [65533]) ++ NL s o f' (i + 1) = NL s o s.size 0) := by
                      have := HA.out
                      rw [NL_one s o f' i hend2 (by rw [hUx]; omega), hUx, if_pos (by omega)] at this
                      simpa [Hid] using this
                    have cw1 := fun w => within_at x 55296 56319 w
                    rw [decide_eq_false (h1)] at cw1
                    have cw2 : True := trivial
                    have cw3 := fun w => within_at x 55296 57343 w
                    rw [decide_eq_true (h4)] at cw3
                    clear HA hUx hUy hcy
                    go_wp2_with (first
                      | (go_at_call_of 32 (Value.int .i64 56319); refine (cw1 _).mono ?_; rintro e w2 ⟨rfl, rfl⟩)
                      | (go_at_call_of 32 (Value.int .i64 56320); refine (cw2 _).mono ?_; rintro e w2 ⟨rfl, rfl⟩)
                      | (go_at_call_of 32 (Value.int .i64 57343); refine (cw3 _).mono ?_; rintro e w2 ⟨rfl, rfl⟩)
                      | (at_builtin; refine wpL_app rfl (.tmp 116) (.tmp 117) rfl rfl _ _ 65533 _ rfl rfl _ (hown.alloc _).b (by go_simp) (by omega) (hown.alloc _).le ?_; intro v' w3 hw3 hg3 hv3; have ho3 := (hown.alloc _).second hw3 hg3 hv3; have hb3 : Bl (w.alloc (.cells #[.int .i64 0, .int .i64 0] 29)) w3 := bl_grown (hbl.alloc _) hg3 (fun k e => by rw [← HB.out]; exact (hown.b.block k e).1); clear hw3 hg3 hv3))
                    go_roundw
                    case rel => exact ⟨i + 1, f', L ++ [65533], by go_num, by omega, by omega, by simp; omega, HE, ho3, hb3⟩
                    case measure => simp [intOf]; omega
                  · skip
                    have HE : Hid ((L ++ [x]) ++ NL s o f' (i + 1) = NL s o s.size 0) := by
                      have := HA.out
                      rw [NL_one s o f' i hend2 (by rw [hUx]; omega), hUx, if_neg (by omega)] at this
                      simpa [Hid] using this
                    have cw1 := fun w => within_at x 55296 56319 w
                    rw [decide_eq_false (h1)] at cw1
                    have cw2 : True := trivial
                    have cw3 := fun w => within_at x 55296 57343 w
                    rw [decide_eq_false (h4)] at cw3
                    clear HA hUx hUy hcy
                    go_wp2_with (first
                      | (go_at_call_of 32 (Value.int .i64 56319); refine (cw1 _).mono ?_; rintro e w2 ⟨rfl, rfl⟩)
                      | (go_at_call_of 32 (Value.int .i64 56320); refine (cw2 _).mono ?_; rintro e w2 ⟨rfl, rfl⟩)
                      | (go_at_call_of 32 (Value.int .i64 57343); refine (cw3 _).mono ?_; rintro e w2 ⟨rfl, rfl⟩)
                      | (at_builtin; refine wpL_app rfl (.tmp 62) (.tmp 67) rfl rfl _ _ x _ rfl rfl _ (hown.alloc _).b (by go_simp) (by omega) (hown.alloc _).le ?_; intro v' w3 hw3 hg3 hv3; have ho3 := (hown.alloc _).second hw3 hg3 hv3; have hb3 : Bl (w.alloc (.cells #[.int .i64 0, .int .i64 0] 29)) w3 := bl_grown (hbl.alloc _) hg3 (fun k e => by rw [← HB.out]; exact (hown.b.block k e).1); clear hw3 hg3 hv3))
                    go_roundw
                    case rel => exact ⟨i + 1, f', L ++ [x], by go_num, by omega, by omega, by simp; omega, HE, ho3, hb3⟩
                    case measure => simp [intOf]; omega
            · have hx55 : x = 55296 := by
                unfold vR at hx
                rw [if_neg hin] at hx
                exact hx.symm
              have hodt : od = true := by rw [← hod, beq_iff_eq]; omega
              subst hx55
              subst hodt
              have hlast : ((i : Int) == (K : Int) - 1) = true := by rw [beq_iff_eq]; omega
              have HE : Hid ((L ++ [65533]) ++ NL s o f' (i + 1) = NL s o s.size 0) := by
                have hU : U s o i = 65533 := by unfold U; rw [if_neg hin]
                have := HA.out
                rw [NL_one s o f' i hend2 (by rw [hU]; omega), hU, if_neg (by omega)] at this
                simpa [Hid] using this
              have cw1 := fun w => within_at 55296 55296 56319 w
              rw [decide_eq_true (by omega)] at cw1
              have cw2 : True := trivial
              have cw3 : True := trivial
              clear HA hod hx hy hcy
              go_wp2_with (first
                | (go_at_call_of 32 (Value.int .i64 56319); refine (cw1 _).mono ?_; rintro e w2 ⟨rfl, rfl⟩)
                | (go_at_call_of 32 (Value.int .i64 56320); refine (cw2 _).mono ?_; rintro e w2 ⟨rfl, rfl⟩)
                | (go_at_call_of 32 (Value.int .i64 57343); refine (cw3 _).mono ?_; rintro e w2 ⟨rfl, rfl⟩)
                | (at_builtin; refine wpL_app rfl (.tmp 71) (.tmp 72) rfl rfl _ _ 65533 _ rfl rfl _ (hown.alloc _).b (by go_simp) (by omega) (hown.alloc _).le ?_; intro v' w3 hw3 hg3 hv3; have ho3 := (hown.alloc _).second hw3 hg3 hv3; have hb3 : Bl (w.alloc (.cells #[.int .i64 0, .int .i64 0] 29)) w3 := bl_grown (hbl.alloc _) hg3 (fun k e => by rw [← HB.out]; exact (hown.b.block k e).1); clear hw3 hg3 hv3))
              go_roundw
              case rel => exact ⟨i + 1, f', L ++ [65533], by go_num, by omega, by omega, by simp; omega, HE, ho3, hb3⟩
              case measure => simp [intOf]; omega
          · have hz2 : ¬ ((i : Int) < (K : Int)) := by omega
            have HNL : Hid (NL s o s.size 0 = L) := by
              have := HA.out
              rw [NL_none s o f i (by omega), List.append_nil] at this
              exact this.symm
            clear HA
            go_wp2_with (go_at_call 29; refine (good_at _).mono ?_; rintro e v1 ⟨rfl, g1⟩; have c0 := at_bl g1 (at_bl hbl (a := ⟨w.heap.size, 0, none⟩) (v := .int .i64 0) (by simp)); have c1 := at_bl g1 (at_bl hbl (a := ⟨w.heap.size, 1, none⟩) (v := .int .i64 0) (by simp)); have f0 := fz_bl g1 (a := ⟨w.heap.size, 0, none⟩) (by have := hbl.size; simp at this; exact this) (fz_bl hbl (a := ⟨w.heap.size, 0, none⟩) (by simp) (by simp)); have f1 := fz_bl g1 (a := ⟨w.heap.size, 1, none⟩) (by have := hbl.size; simp at this; exact this) (fz_bl hbl (a := ⟨w.heap.size, 1, none⟩) (by simp) (by simp)))
            refine bodyPost_ret (v := .tuple #[u11, .agg #[.int .i64 0, .int .i64 (-1)]]) (by simp [results, Tryd.f16, go_sem, c0, c1]) rfl ⟨_, rfl, ?_, ?_⟩
            · rw [HNL.out]
              exact ((((hown.b).step g1).set_other (a := ⟨w.heap.size, 0, none⟩) (by rw [HB.out]; simp) _).set_other (a := ⟨w.heap.size, 1, none⟩) (by rw [HB.out]; simp) _).mono (by rw [HB.out]; simp)
            · exact Bl.setCell (a := ⟨w.heap.size, 1, none⟩) (Bl.setCell (a := ⟨w.heap.size, 0, none⟩) (((Bl.refl w).alloc _).trans (hbl.trans g1)) (Nat.le_refl _) _) (Nat.le_refl _) _
    · have hz : a < (s.size : Int) := by omega
      obtain ⟨x, hx⟩ : ∃ x, vR s o k = x := ⟨_, rfl⟩
      have hxb := vR_bd s o k
      rw [hx] at hxb
      have HX : Hid (vR s o k = x) := hx
      by_cases hin : 2 * k + 2 ≤ s.size
      · have c1 := fun w => refPair_yes s k o O x a w HO.out hs hak hin hx
        clear hak hx
        go_wp2_with (first
          | (go_at_call 38; refine (c1 _).mono ?_; rintro e w2 ⟨rfl, rfl⟩)
          | (at_builtin; refine wpL_app rfl (.tmp 34) (.tmp 37) rfl rfl _ _ x _ rfl rfl _ (hown.step ((Bl.refl _).alloc _)) (by go_simp) (by rw [RU_len]; omega) (Nat.le_trans hbb (by simp)) ?_; intro v' w3 hw3 hg3 hv3; have hb3 : Bl (w.alloc (.cells #[.int .i64 0, .int .i64 0] 29)) w3 := bl_grown (hbl.alloc _) hg3 (fun k e => by rw [← HB.out]; exact (hown.block k e).1)))
        go_roundw
        case rel => exact ⟨k + 1, _, rfl, by have := HK.out; simp [Hid]; omega, by omega, by omega, by omega, by rw [RU_succ, HX.out]; exact hw3, hb3⟩
        case measure => simp [intOf]; omega
      · have c1 := fun w => refPair_no s k o O a w HO.out hs hak hin (by omega)
        have e55 : x = 55296 := by
          unfold vR at hx
          rw [if_neg hin] at hx
          exact hx.symm
        subst e55
        clear hak hx
        go_wp2_with (first
          | (go_at_call 38; refine (c1 _).mono ?_; rintro e w2 ⟨rfl, rfl⟩)
          | (at_builtin; refine wpL_app rfl (.tmp 34) (.tmp 37) rfl rfl _ _ 55296 _ rfl rfl _ (hown.step ((Bl.refl _).alloc _)) (by go_simp) (by rw [RU_len]; omega) (Nat.le_trans hbb (by simp)) ?_; intro v' w3 hw3 hg3 hv3; have hb3 : Bl (w.alloc (.cells #[.int .i64 0, .int .i64 0] 29)) w3 := bl_grown (hbl.alloc _) hg3 (fun k e => by rw [← HB.out]; exact (hown.block k e).1)))
        go_roundw
        case rel => exact ⟨k + 1, _, rfl, by have := HK.out; simp [Hid]; omega, by omega, by omega, by omega, by rw [RU_succ, HX.out]; exact hw3, hb3⟩
        case measure => simp [intOf]; omega
end Go.Proofs.YtaboemchkmmgeaaDoor.narrow
