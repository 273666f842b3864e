/- What fit and fitting of package find answer: of each byte at which bytes of a pattern it may stand. -/
import Derived.Test.YtnhdaolieifhnaaFdV
import Derived.Test.YtnhdaolieifhnaaFdM
import Derived.Deep.MidRow
import Derived.Deep.WholeRow
import Derived.Deep.RegionHeld3
import Derived.Deep.Cut
import Derived.Laws.Bits64b
namespace Go.Proofs.Ytnhdaolieifhnaa.find
set_option linter.unusedVariables false
open Go.ChangeShapes Go.WideShapes Go.ChangeAt Go.RowKit
open mem rows fd

theorem whole_at (p : Option Addr) (n c : Nat) (w : World) (hn : n ≤ 1000000) : Calls Try.prog 34 #[.slice p n c] w fun e w' => e = .returned (.bool (decide (n % 2 = 0))) ∧ w' = w := by
  have h2 : (n : Int).tmod 2 = ((n % 2 : Nat) : Int) := by rw [Int.tmod_eq_emod_of_nonneg (by omega)]; omega
  go_enter Try.func34, Try.ntmps34
  go_wp2
  go_ret
  refine ⟨ret_bool ?_, rfl⟩
  rw [Bool.eq_iff_iff]
  simp
  omega
theorem beq_eq_decide' (a b : Int) : (a == b) = decide (a = b) := by rw [Bool.eq_iff_iff]; simp
theorem fit_at (h c : Int) (w : World) : Calls Try.prog 51 #[.int .i64 h, .int .i64 c] w fun e w' => e = .returned (.bool (hf h c)) ∧ w' = w := by
  unfold hf
  by_cases h0 : h < 0
  · go_enter Try.func51, Try.ntmps51
    go_wp2
    go_ret
    exact ⟨ret_bool (by simp [h0]), rfl⟩
  · go_enter Try.func51, Try.ntmps51
    go_wp2
    go_ret
    exact ⟨ret_bool (by rw [decide_eq_false (by omega), Bool.false_or]; exact beq_eq_decide' h c), rfl⟩
set_option maxRecDepth 20000 in
theorem and15 (n : Nat) (h : n < 256) : bits .and .i64 (n : Int) 15 = (n : Int) % 16 := by
  have : ∀ n : Fin 256, bits .and .i64 ((n.1 : Nat) : Int) 15 = ((n.1 : Nat) : Int) % 16 := by decide
  exact this ⟨n, h⟩
theorem two_k (k : Nat) (hk : k < 64) : IntKind.u64.wrap (2 ^ k) = ((2 ^ k : Nat) : Int) ∧ 2 ^ k < 18446744073709551616 := by
  have h : 2 ^ k < 2 ^ 64 := Nat.pow_lt_pow_right (by decide) hk
  have h64 : (2 : Nat) ^ 64 = 18446744073709551616 := by decide
  rw [h64] at h
  refine ⟨?_, h⟩
  have e : ((2 : Int) ^ k) = ((2 ^ k : Nat) : Int) := by rw [Int.natCast_pow]; rfl
  rw [e]
  generalize 2 ^ k = x at h ⊢
  rw [IntKind.wrap_u64]
  omega
theorem or_k (F k : Nat) (hF : F < 18446744073709551616) (hk : k < 64) : bits .or .u64 (F : Int) (IntKind.u64.wrap (2 ^ k)) = ((F ||| 2 ^ k : Nat) : Int) := by
  obtain ⟨h1, h2⟩ := two_k k hk
  rw [h1]
  exact bits_or_u64_nat _ _ hF h2
/-- 256 words. -/
def arf (f : Nat → Nat) : List Value := (List.range 256).map fun i => .int .u64 (f i : Int)
theorem arf_len (f : Nat → Nat) : (arf f).length = 256 := by simp [arf]
theorem arf_one (f : Nat → Nat) : (arf f).toArray.all (·.oneCell') = true := all_oneCell_toArray fun v hv => by
  simp only [arf, List.mem_map] at hv
  obtain ⟨i, _, rfl⟩ := hv
  rfl
theorem arf_congr {f g : Nat → Nat} (h : ∀ j, j < 256 → f j = g j) : arf f = arf g := by
  unfold arf
  apply List.map_congr_left
  intro i hi
  rw [h i (List.mem_range.1 hi)]
set_option maxRecDepth 100000 in
theorem run_zero256 (w : World) : (zeroValue 68).run Try.prog w = .ok (.agg (arf fun _ => 0).toArray) w := by kernel_rfl
/-- 256 words in a block of their own. -/
def Ar (w : World) (g : Nat) (f : Nat → Nat) : Prop := ∀ j, j < 256 → w.cell? ⟨g, j, none⟩ = some (.int .u64 (f j : Int)) ∧ w.frozen? ⟨g, j, none⟩ = false
theorem Ar.lt {w : World} {g : Nat} {f : Nat → Nat} (h : Ar w g f) : g < w.heap.size := by
  have hc := (h 0 (by decide)).1
  rcases Nat.lt_or_ge g w.heap.size with h1 | h1
  · exact h1
  · simp [World.cell?, Array.getElem?_eq_none h1] at hc
theorem Ar.bl {w w' : World} {g : Nat} {f : Nat → Nat} (h : Ar w g f) (k : Bl w w') : Ar w' g f := fun j hj => by
  refine ⟨at_bl k (h j hj).1, ?_⟩
  have := (h j hj).2
  unfold World.frozen? at this ⊢
  rw [Below.block k g h.lt]
  exact this
theorem Ar.range {w : World} {g : Nat} {f : Nat → Nat} (h : Ar w g f) : w.rangeAt g 0 (arf f) := fun j v hv => by
  simp only [arf, List.getElem?_map, Option.map_eq_some_iff] at hv
  obtain ⟨i, hi, rfl⟩ := hv
  obtain ⟨h1, h2⟩ := List.getElem?_eq_some_iff.1 hi
  simp at h1 h2
  subst h2
  rw [Nat.zero_add]
  exact (h j h1).1
theorem Ar.there {w : World} {g : Nat} {f : Nat → Nat} (h : Ar w g f) : w.there g 0 256 := fun j hj => by
  rw [Nat.zero_add]
  exact ⟨by rw [(h j hj).1]; rfl, (h j hj).2⟩
theorem Ar.new (w : World) (f : Nat → Nat) (t : TypeId) : Ar (w.alloc (.cells (arf f).toArray t)) w.heap.size f := fun j hj => by
  have hb : (w.alloc (.cells (arf f).toArray t)).heap[w.heap.size]? = some (.cells (arf f).toArray t) := by
    show (w.heap.push _)[w.heap.size]? = _
    rw [Array.getElem?_push, if_pos rfl]
  constructor
  · have : (arf f)[j]? = some (.int .u64 (f j : Int)) := by simp [arf, List.getElem?_range hj]
    simp only [World.cell?, hb]
    simpa using this
  · simp only [World.frozen?, hb]
    simp
theorem Ar.set {w : World} {g : Nat} {f f' : Nat → Nat} (h : Ar w g f) (k S : Nat) (hk : k < 256) (hf : f' k = S) (ho : ∀ j, j < 256 → j ≠ k → f' j = f j) : Ar (w.setCell ⟨g, k, none⟩ (.int .u64 (S : Int))) g f' := fun j hj => by
  refine ⟨?_, ?_⟩
  · by_cases e : j = k
    · subst e
      rw [World.cell?_setCell_same _ _ _ (h j hj).1, hf]
    · rw [World.cell?_setCell_other _ _ _ _ (by intro h; exact e (by simpa using h.symm)), (h j hj).1, ho j hj e]
  · simpa using (h j hj).2
theorem Ar.far {w : World} {g g' : Nat} {f : Nat → Nat} (h : Ar w g f) (hg : g ≠ g') (k : Nat) (v : Value) : Ar (w.setCell ⟨g', k, none⟩ v) g f := fun j hj => by
  refine ⟨?_, ?_⟩
  · rw [World.cell?_setCell_far _ _ _ _ hg.symm]; exact (h j hj).1
  · simpa using (h j hj).2
theorem Ar.congr {w : World} {g : Nat} {f f' : Nat → Nat} (h : Ar w g f) (e : ∀ j, j < 256 → f' j = f j) : Ar w g f' := fun j hj => by rw [e j hj]; exact h j hj
theorem info256 : (Try.prog.info? 68).map (·.size) = some 256 := by kernel_rfl
theorem results_cell {fn : Func} {p : Tmp} {ty : TypeId} (h : fn.results = #[.cell p ty]) (tmps : Array Value) (P : Program) (w : World) :
    (results fn tmps).run P w = ((asAddr (tmps.getD p undef)).run P w).andThen fun a w₁ => (loadVar ty a).run P w₁ := by
  simp only [results, h]
  simp [Sem.run_bind, Result.andThen]
theorem bl_setCells {w : World} {b : Nat} (h : w.heap.size ≤ b) : ∀ (vs : List Value) (o : Nat) (w' : World), Bl w w' → Bl w (w'.setCells b o vs)
  | [], _, _, g => g
  | _ :: vs, o, _, g => bl_setCells h vs (o + 1) _ (g.setCell h _)
/-- A pattern's halves. -/
def mfn (m : List Int) : Nat → Int := fun k => m.getD k 0
/-- Where a pattern's i-th byte has been held against the first b bytes. -/
def fz (m : Nat → Int) (i b : Nat) (j : Nat) : Nat := if j < b then FV m j (i + 1) else FV m j i
set_option maxHeartbeats 1000000 in
theorem fitting_at (v : Value) (m : List Int) (n : Nat) (w : World) (hv : View w v m) (hn : n = m.length / 2) (hn' : n ≤ 64) :
    Calls Try.prog 36 #[v] w fun e w' => e = .returned (.agg (arf fun b => FV (mfn m) b n).toArray) ∧ Bl w w' := by
  obtain ⟨q, cp, rfl, hq⟩ := hv
  have HQ : Hid (In w q m) := hq
  obtain ⟨L, hL⟩ : ∃ L, L = m.length := ⟨_, rfl⟩
  have HL : Hid (L = m.length) := hL
  have hdv : (L : Int).tdiv 2 = (n : Int) := by rw [Int.tdiv_eq_ediv_of_nonneg (by omega)]; omega
  have hnl : 2 * n ≤ L := by omega
  have hal := run_zero256
  rw [← hL]
  clear hq hL hn
  go_enter Try.func36, Try.ntmps36
  go_wp2
  go_loopw [11] (fun i wr => ∃ k : Nat, k ≤ n ∧ i = .int .i64 (k : Int) ∧ Ar wr (w.heap.size + 1) (fun b => FV (mfn m) b k) ∧ Ar wr w.heap.size (fun _ => 0) ∧ Bl w wr) (fun i _ => n - (intOf i).toNat)
  case atStart => 
    refine ⟨0, Nat.zero_le _, rfl, ?_, ?_, ((Bl.refl w).alloc _).alloc _⟩
    · have := Ar.new (w.alloc (.cells (arf fun _ => 0).toArray 68)) (fun _ => 0) 68
      rw [World.size_alloc] at this
      exact this
    · exact (Ar.new w (fun _ => 0) 68).bl ((Bl.refl _).alloc _)
  case round =>
    obtain ⟨k, hk, rfl, ha, hz, hbl⟩ := hrel
    by_cases hlt : k < n
    · have hlz : (k : Int) < (n : Int) := by omega
      obtain ⟨x, rfl, hc1⟩ := (HQ.out.step hbl).at (2 * k) (by rw [← HL.out]; omega)
      obtain ⟨x', hx', hc2⟩ := (HQ.out.step hbl).at (2 * k + 1) (by rw [← HL.out]; omega)
      obtain rfl : x = x' := by simpa using hx'
      obtain ⟨hi, hhi⟩ : ∃ z, m.getD (2 * k) 0 = z := ⟨_, rfl⟩
      obtain ⟨lo, hlo⟩ : ∃ z, m.getD (2 * k + 1) 0 = z := ⟨_, rfl⟩
      have HHI : Hid _ := hhi
      have HLO : Hid _ := hlo
      rw [hhi] at hc1
      rw [hlo] at hc2
      have e1 : 0 ≤ 2 * (k : Int) ∧ 2 * (k : Int) < (L : Int) := by omega
      have e2 : 0 ≤ 2 * (k : Int) + 1 ∧ 2 * (k : Int) + 1 < (L : Int) := by omega
      clear hhi hlo hx'
      have q1 : IntKind.i64.wrap (2 * (k : Int)) = 2 * (k : Int) := by rw [IntKind.wrap_i64]; omega
      have q2 : IntKind.i64.wrap (2 * (k : Int) + 1) = 2 * (k : Int) + 1 := by rw [IntKind.wrap_i64]; omega
      have q3 : (2 * (k : Int)).toNat = 2 * k := by omega
      obtain ⟨k2, hk2⟩ : ∃ k2, k2 = 2 * k + 1 := ⟨_, rfl⟩
      have q4 : (2 * (k : Int) + 1).toNat = k2 := by omega
      rw [← hk2] at hc2
      have HK2 : Hid _ := hk2
      clear hk2
      go_wp2
      go_quiet (fail)
      clear q1 q2 q3 q4 e1 e2 hc1 hc2
      go_wp2
      have hbl2 : Bl w (wr.drewN nq) := hbl.drewN nq
      have ha2 : Ar (wr.drewN nq) (w.heap.size + 1) (fz (mfn m) k 0) := Ar.congr (f := fun b => FV (mfn m) b k) ha (fun j _ => if_neg (Nat.not_lt_zero _))
      have hz2 : Ar (wr.drewN nq) w.heap.size (fun _ => 0) := hz
      generalize wr.drewN nq = wq at hbl2 ha2 hz2 ⊢
      clear hbl ha hz wr
      go_loopw [25] (fun j ws => ∃ b : Nat, b ≤ 256 ∧ j = .int .i64 (b : Int) ∧ Ar ws (w.heap.size + 1) (fz (mfn m) k b) ∧ Ar ws w.heap.size (fun _ => 0) ∧ Bl w ws) (fun j _ => 256 - (intOf j).toNat)
      case atStart => exact ⟨0, Nat.zero_le _, rfl, ha2, hz2, hbl2⟩
      case round =>
        clear ha2 hz2 hbl2
        obtain ⟨b, hb, rfl, ha, hz, hbl⟩ := hrel
        by_cases hb' : b < 256
        · have hbz : (b : Int) < 256 := by omega
          have hq := and15 b hb'
          have c1 := fun w => fit_at hi ((b : Int) / 16) w
          have c2 := fun w => fit_at lo ((b : Int) % 16) w
          have hFi : Fi (mfn m) k b = (hf hi ((b : Int) / 16) && hf lo ((b : Int) % 16)) := by
            unfold Fi
            rw [show mfn m (2 * k) = hi from HHI.out, show mfn m (2 * k + 1) = lo from HLO.out]
          have HF : Hid _ := hFi
          clear hFi
          have hothers : ∀ j, j < 256 → j ≠ b → fz (mfn m) k (b + 1) j = fz (mfn m) k b j := fun j hj hne => by
            unfold fz
            by_cases h : j < b
            · rw [if_pos h, if_pos (by omega)]
            · rw [if_neg h, if_neg (by omega)]
          have hthis : fz (mfn m) k (b + 1) b = if Fi (mfn m) k b then FV (mfn m) b k ||| 2 ^ k else FV (mfn m) b k := by
            unfold fz
            rw [if_pos (Nat.lt_succ_self b)]
            rfl
          have hwas : fz (mfn m) k b b = FV (mfn m) b k := if_neg (Nat.lt_irrefl _)
          have hcell := (ha b hb').1
          have hfro := (ha b hb').2
          rw [hwas] at hcell
          have hlF := FV_lt (mfn m) b k (by omega)
          generalize FV (mfn m) (b : Int) k = F at hcell hthis hlF hwas
          rw [HF.out] at hthis
          have HW : Hid (fz (mfn m) k b b = F) := hwas
          clear hwas
          generalize hf hi ((b : Int) / 16) = A at c1 hthis
          generalize hf lo ((b : Int) % 16) = B at c2 hthis
          have hsame : (A && B) = false → ∀ j, j < 256 → fz (mfn m) k (b + 1) j = fz (mfn m) k b j := fun e j hj => by
            by_cases h : j = b
            · subst h; rw [hthis, e, HW.out]; rfl
            · exact hothers j hj h
          cases A with
          | false =>
            go_wp2_with (first | (go_at_call 51; refine (c1 _).mono ?_; rintro e w2 ⟨rfl, rfl⟩))
            go_roundw
            case rel => exact ⟨b + 1, by omega, by go_num, ha.congr (hsame rfl), hz, hbl⟩
            case measure => simp [intOf]; omega
          | true =>
            cases B with
            | false =>
              go_wp2_with (first | (go_at_call_of 51 hi; refine (c1 _).mono ?_; rintro e w2 ⟨rfl, rfl⟩) | (go_at_call_of 51 lo; refine (c2 _).mono ?_; rintro e w2 ⟨rfl, rfl⟩))
              go_roundw
              case rel => exact ⟨b + 1, by omega, by go_num, ha.congr (hsame rfl), hz, hbl⟩
              case measure => simp [intOf]; omega
            | true =>
              go_wp2_with (first | (go_at_call_of 51 hi; refine (c1 _).mono ?_; rintro e w2 ⟨rfl, rfl⟩) | (go_at_call_of 51 lo; refine (c2 _).mono ?_; rintro e w2 ⟨rfl, rfl⟩))
              have hor := or_k F k hlF (by omega)
              have hth : fz (mfn m) k (b + 1) b = F ||| 2 ^ k := by rw [hthis]; rfl
              generalize F ||| 2 ^ k = S at hor hth
              clear hthis hsame
              go_region
              go_wp2
              go_roundw
              case rel => exact ⟨b + 1, by omega, by go_num, Ar.set (w := w2) ha b S hb' hth hothers, hz.far (by omega) _ _, (hbl.setCell (Nat.le_succ _) _).drew⟩
              case measure => simp [intOf]; omega
        · obtain rfl : b = 256 := by omega
          go_wp2
          go_roundw
          case rel => exact ⟨k + 1, by omega, by go_num, ha.congr (fun j hj => (if_pos hj).symm), hz, hbl⟩
          case measure => simp [intOf]; omega
    · obtain ⟨l, hl⟩ : ∃ l, l = k := ⟨_, rfl⟩
      have hnl : ¬ ((k : Int) < (n : Int)) := by omega
      have HN : Hid (k = n) := by unfold Hid; omega
      have r1 := ha.range
      have t3 := hz.there
      have k3 := hbl
      clear ha hl
      obtain ⟨fF, hfF⟩ : ∃ fF, fF = (fun b : Nat => FV (mfn m) b k) := ⟨_, rfl⟩
      rw [← hfF] at r1
      rw [HN.out] at hfF
      have HFF : Hid _ := hfF
      clear hfF
      go_upto_region 13 with fail
      refine wp_region_lit ?_
      refine wpList_load_mid rfl 68 _ rfl (w.heap.size + 1) 0 rfl (arf fF) _ r1 Try.underlying68 rfl (by rw [arf_len]; exact info256) ?_
      refine wpList_store_mid rfl 68 _ _ rfl w.heap.size 0 (arf fF).toArray rfl rfl (by simpa [arf_len] using t3) (by simpa [arf_len] using info256) (arf_one _) ?_
      have rz := World.rangeAt_setCells_same wr w.heap.size 0 (arf fF) (by simpa [arf_len] using t3)
      have gz : Bl w (wr.setCells w.heap.size 0 (arf fF)) := bl_setCells (Nat.le_refl _) _ _ _ k3
      change wpList _ _ _ [] _ (wr.setCells w.heap.size 0 (arf fF))
      generalize wr.setCells w.heap.size 0 (arf fF) = wz at *
      have hld : (loadVar 68 ⟨w.heap.size, 0, none⟩).run Try.prog wz = .ok (.agg (arf fF).toArray) wz := run_loadVar_mid wz w.heap.size 0 68 (arf fF) _ rz Try.underlying68 rfl (by rw [arf_len]; exact info256)
      clear rz r1 t3 hz hbl k3
      go_wp2
      refine bodyPost_ret (v := .agg (arf fF).toArray) ?_ rfl ⟨by rw [HFF.out], gz⟩
      rw [results_cell rfl]
      show ((asAddr (.pointer (some ⟨w.heap.size, 0, none⟩))).run Try.prog wz).andThen _ = _
      simp [asAddr, Result.andThen, hld]
end Go.Proofs.Ytnhdaolieifhnaa.find
