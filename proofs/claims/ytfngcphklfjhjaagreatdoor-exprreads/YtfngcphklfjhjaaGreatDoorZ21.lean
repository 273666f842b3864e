/- Texts laid together: Er9, ErW, ExM. -/
import Derived.Test.YtfngcphklfjhjaaGreatDoorZ20
import Derived.Deep.RegionHeld3
import Derived.Test.YtfngcphklfjhjaaGreatDoorZ19
import Derived.Test.YtfngcphklfjhjaaGreatDoorZ9
import Derived.Test.YtfngcphklfjhjaaGreatDoorZ14
import Derived.WideKeyArgs2
import Derived.MapViews
import Derived.Laws.IdiomMaps
/- What an expression of two comes to by the document. -/
namespace Go.Proofs.YtfngcphklfjhjaaGreatDoor.ex
set_option linter.unusedVariables false
open Go.ChangeShapes Go.WideShapes Go.ChangeAt Go.RowKit
open mem lx

/-- All nine. -/
def jf (a b : Int) : List UInt8 → Option Int := fun y => if y = [62] then some (if b < a then 1 else 0) else if y = [60] then some (if a < b then 1 else 0) else if y = [33, 61] then some (if a = b then 0 else 1) else if y = [61, 61] then some (if a = b then 1 else 0) else if y = [124] then some (bits .or .i64 a b) else if y = [38] then some (bits .and .i64 a b) else if y = [42] then some (wrap64 (a * b)) else if y = [45] then some (wrap64 (a - b)) else if y = [43] then some (wrap64 (a + b)) else none
theorem jf_jn {o : List UInt8} (h : 0 < bd o) (a b : Int) : (jf a b o).getD 0 = jn o a b := by
  rcases bd_cases h with rfl | rfl | rfl | rfl | rfl | rfl | rfl | rfl | rfl <;> simp [jf, jn]
theorem r01 (b : Bool) : R64 (if b then 1 else 0) := by cases b <;> simp [R64]
theorem r01' (p : Prop) [Decidable p] (x y : Int) (hx : R64 x) (hy : R64 y) : R64 (if p then x else y) := by split <;> assumption
def kv (w w' : World) (t : ByteArray) (n : Int) (b : Nat) : Prop := (Instr.mapUpdate 22 (.map (some b)) (.string t) (.int .i64 n)).run Tryz.prog w = .ok () w'
/-- The map that is made. -/
theorem nine (w : World) (a b : Int) : ∃ w1 w2 w3 w4 w5 w6 w7 w8 w9 : World, kv (w.alloc (.map #[] 0)) w1 ⟨#[43]⟩ (wrap64 (a + b)) w.heap.size ∧ kv w1 w2 ⟨#[45]⟩ (wrap64 (a - b)) w.heap.size ∧ kv w2 w3 ⟨#[42]⟩ (wrap64 (a * b)) w.heap.size ∧ kv w3 w4 ⟨#[38]⟩ (bits .and .i64 a b) w.heap.size ∧ kv w4 w5 ⟨#[124]⟩ (bits .or .i64 a b) w.heap.size ∧ kv w5 w6 ⟨#[61, 61]⟩ (if a = b then 1 else 0) w.heap.size ∧ kv w6 w7 ⟨#[33, 61]⟩ (if a = b then 0 else 1) w.heap.size ∧ kv w7 w8 ⟨#[60]⟩ (if a < b then 1 else 0) w.heap.size ∧ kv w8 w9 ⟨#[62]⟩ (if b < a then 1 else 0) w.heap.size ∧
    Bl w w9 ∧ Om w9 w.heap.size (jf a b) 9 := by
  have h1 : R64 1 := by unfold R64; omega
  have h0 : R64 0 := by unfold R64; omega
  obtain ⟨w1, r1, o1, g1⟩ := (Om.made w).put ⟨#[43]⟩ (wrap64 (a + b)) (by decide) (wrap_r _) (by omega)
  obtain ⟨w2, r2, o2, g2⟩ := o1.put ⟨#[45]⟩ (wrap64 (a - b)) (by decide) (wrap_r _) (by omega)
  obtain ⟨w3, r3, o3, g3⟩ := o2.put ⟨#[42]⟩ (wrap64 (a * b)) (by decide) (wrap_r _) (by omega)
  obtain ⟨w4, r4, o4, g4⟩ := o3.put ⟨#[38]⟩ (bits .and .i64 a b) (by decide) (bits_r _ _ _) (by omega)
  obtain ⟨w5, r5, o5, g5⟩ := o4.put ⟨#[124]⟩ (bits .or .i64 a b) (by decide) (bits_r _ _ _) (by omega)
  obtain ⟨w6, r6, o6, g6⟩ := o5.put ⟨#[61, 61]⟩ (if a = b then 1 else 0) (by decide) (r01' _ _ _ h1 h0) (by omega)
  obtain ⟨w7, r7, o7, g7⟩ := o6.put ⟨#[33, 61]⟩ (if a = b then 0 else 1) (by decide) (r01' _ _ _ h0 h1) (by omega)
  obtain ⟨w8, r8, o8, g8⟩ := o7.put ⟨#[60]⟩ (if a < b then 1 else 0) (by decide) (r01' _ _ _ h1 h0) (by omega)
  obtain ⟨w9, r9, o9, g9⟩ := o8.put ⟨#[62]⟩ (if b < a then 1 else 0) (by decide) (r01' _ _ _ h1 h0) (by omega)
  refine ⟨w1, w2, w3, w4, w5, w6, w7, w8, w9, r1, r2, r3, r4, r5, r6, r7, r8, r9, ?_, o9⟩
  have b0 : Bl w (w.alloc (.map #[] 0)) := (Bl.refl w).alloc _
  have ne : ∀ k, some w.heap.size = some k → w.heap.size ≤ k := fun k hk => by injection hk with hk; omega
  exact bl_grown (bl_grown (bl_grown (bl_grown (bl_grown (bl_grown (bl_grown (bl_grown (bl_grown b0 g1 ne) g2 ne) g3 ne) g4 ne) g5 ne) g6 ne) g7 ne) g8 ne) g9 ne
theorem one_is' (b : Bool) (J : Int) (w : World) (h : (if b = true then (1 : Int) else 0) = J) : Calls Tryz.prog 26 #[.bool b] w fun e w' => e = .returned (.int .i64 J) ∧ w' = w := by
  rw [← h]; exact one_at' b w
set_option maxRecDepth 10000 in
set_option maxHeartbeats 2000000 in
theorem reval_bin (env : List UInt8 → Option Int) (m : Value) (a : Nat) (o : List UInt8) (l r : Ex) (v : Value) (w : World) (hx : IsX w v (.bin a o l r)) (ho : 0 < bd o) (hm : IsM w m env)
    (il : ∀ (v : Value) (w : World), IsX w v l → IsM w m env → Calls Tryz.prog 10 #[v, m] w fun e w' => ReAns (ev env l) w e w')
    (ir : ∀ (v : Value) (w : World), IsX w v r → IsM w m env → Calls Tryz.prog 10 #[v, m] w fun e w' => ReAns (ev env r) w e w') : Calls Tryz.prog 10 #[v, m] w fun e w' => ReAns (ev env (.bin a o l r)) w e w' := by
  obtain ⟨xb, vl, vr, rfl, hc, hxl, hxr⟩ := hx
  have cG := GoodX
  have cO := one_at'
  have HB : Bl w (w.alloc (.cells #[.int .i64 0, .int .i64 0] 27)) := (Bl.refl _).alloc _
  obtain ⟨W, hW⟩ : ∃ W, W = w.alloc (.cells #[.int .i64 0, .int .i64 0] 27) := ⟨_, rfl⟩
  obtain ⟨M, hM⟩ : ∃ M, M = w.heap.size := ⟨_, rfl⟩
  rw [← hW] at HB
  have k0 : W.cell? ⟨xb, 0, none⟩ = some (.int .i64 3) := at_bl HB (by rw [cell_of hc]; rfl)
  have k5 : W.cell? ⟨xb, 5, none⟩ = some vl := at_bl HB (by rw [cell_of hc]; rfl)
  have node : ∀ wx, Bl w wx → wx.cell? ⟨xb, 4, none⟩ = some (.string (tx o)) ∧ wx.cell? ⟨xb, 6, none⟩ = some vr := fun wx hb => ⟨at_bl hb (by rw [cell_of hc]; rfl), at_bl hb (by rw [cell_of hc]; rfl)⟩
  have cl := il vl W (hxl.keep (Kx.bl HB)) (hm.step HB)
  have cr := fun wx (hb : Bl w wx) => ir vr wx (hxr.keep (Kx.bl hb)) (hm.step hb)
  have hev : ev env (.bin a o l r) = match ev env l with
    | .error p => .error p
    | .ok a => match ev env r with
      | .error p => .error p
      | .ok b => .ok (jn o a b) := by
    rw [ev]
    cases ev env l with
    | error p => rfl
    | ok x => cases ev env r <;> rfl
  obtain ⟨vbl, rfl, _⟩ := hxl.ptr
  obtain ⟨vbr, rfl, _⟩ := hxr.ptr
  have hfm : ∀ {w2 : World} {c p : Int}, Bl W w2 → Fl w (w2.alloc (.cells #[.int .i64 c, .int .i64 p] 27)) M w2.heap.size c p := fun hb => by rw [hM]; exact Fl.made (by rw [← hW]; exact hb)
  have HW : Hid (Bl w W) := HB
  clear hm hc il ir hxl hxr HB
  go_enter Tryz.func10, Tryz.ntmps10
  go_upto_region 1 with fail
  rw [← hW, ← hM]
  clear hW hM
  go_wp2_with fail
  refine cl.mono ?_
  rintro e w1 ⟨hb1, h1⟩
  cases hl : ev env l with
  | error p =>
    rw [hl] at h1 hev
    dsimp only at h1 hev
    subst h1
    have HE : Hid (ev env (.bin a o l r) = .error p) := hev
    have hF : Fl w _ M _ 5 (p : Int) := hfm hb1
    obtain ⟨V, hV⟩ : ∃ V, V = w1.alloc (.cells #[.int .i64 5, .int .i64 (p : Int)] 27) := ⟨_, rfl⟩
    obtain ⟨N, hN⟩ : ∃ N, N = w1.heap.size := ⟨_, rfl⟩
    rw [← hV, ← hN] at hF
    have HF : Hid (Fl w V M N 5 (p : Int)) := hF
    obtain ⟨g0, g1, m0, m1, z0, z1, hMs, hNs⟩ := hF.cells
    unfold flt
    clear hev hF hb1 hfm cr node cl
    go_wp2_with fail
    rw [← hV, ← hN]
    clear hV hN
    refine (Is_at 5 (p : Int) V).mono ?_
    rintro e w3 ⟨rfl, hb3⟩
    have HF3 : Hid (Fl w w3 M N 5 (p : Int)) := HF.out.step hb3
    obtain ⟨f0, f1, l0, l1, x0, x1, hMs3, hNs3⟩ := HF3.out.cells
    clear hb3
    have h00 : ((5 : Int) == 0) = false := rfl
    rw [h00]
    go_upto_region 11 with fail
    go_region
    all_goals
      go_wp2
      obtain ⟨j1, j2⟩ := HF3.out.told 5 (p : Int)
      rw [HE.out]
      exact bodyPost_ret (v := .tuple #[.int .i64 0, flt 5 (p : Int)]) (results_tmp_cell (p := 5) (u := 4) (ty := 27) rfl _ _ _ M (flt 5 (p : Int)) rfl (ldF _ _ _ _ j2)) rfl ⟨j1.trans ((Bl.refl _).drew), rfl⟩
  | ok n1 =>
    rw [hl] at h1 hev
    dsimp only at h1 hev
    subst h1
    have hF : Fl w _ M _ 0 (-1) := hfm hb1
    obtain ⟨V, hV⟩ : ∃ V, V = w1.alloc (.cells #[.int .i64 0, .int .i64 (-1)] 27) := ⟨_, rfl⟩
    obtain ⟨N, hN⟩ : ∃ N, N = w1.heap.size := ⟨_, rfl⟩
    rw [← hV, ← hN] at hF
    have HF : Hid (Fl w V M N 0 (-1)) := hF
    obtain ⟨g0, g1, m0, m1, z0, z1, hMs, hNs⟩ := hF.cells
    unfold flt
    clear hF hb1 hfm cl
    go_wp2_with fail
    rw [← hV, ← hN]
    clear hV hN
    refine (Is_at 0 (-1) V).mono ?_
    rintro e w3 ⟨rfl, hb3⟩
    have HF3 : Hid (Fl w w3 M N 0 (-1)) := HF.out.step hb3
    obtain ⟨q4, q6⟩ := node w3 HF3.out.bl
    clear hb3
    have h00 : ((0 : Int) == 0) = true := rfl
    rw [h00]
    clear g0 g1 m0 m1 z0 z1 hMs hNs
    go_wp2_with fail
    refine (cr w3 HF3.out.bl).mono ?_
    rintro e w4 ⟨hb4, h4⟩
    have hF4 : Fl w w4 M N 0 (-1) := HF3.out.step hb4
    obtain ⟨g0, g1, m0, m1, z0, z1, hMs, hNs⟩ := hF4.cells
    have y0 : w4.frozen? ⟨N, 0, none⟩ = false := by simp [World.frozen?, hF4.n]
    have y1 : w4.frozen? ⟨N, 1, none⟩ = false := by simp [World.frozen?, hF4.n]
    have HF4 : Hid (Fl w w4 M N 0 (-1)) := hF4
    clear hF4 hb4 cr
    cases hr : ev env r with
    | error p =>
      rw [hr] at h4 hev
      dsimp only at h4 hev
      subst h4
      have HE : Hid (ev env (.bin a o l r) = .error p) := hev
      unfold flt
      have hF5 := HF4.out.again 5 (p : Int)
      obtain ⟨V, hV⟩ : ∃ V, V = (w4.setCell ⟨N, 0, none⟩ (.int .i64 5)).setCell ⟨N, 1, none⟩ (.int .i64 (p : Int)) := ⟨_, rfl⟩
      rw [← hV] at hF5
      have HF5 : Hid (Fl w V M N 5 (p : Int)) := hF5
      clear hev hF5
      go_wp2_with fail
      rw [← hV]
      clear hV g0 g1 m0 m1 z0 z1 hMs hNs y0 y1 q4 q6
      refine (Is_at 5 (p : Int) V).mono ?_
      rintro e w5 ⟨rfl, hb5⟩
      have HF6 : Hid (Fl w w5 M N 5 (p : Int)) := HF5.out.step hb5
      obtain ⟨f0, f1, l0, l1, x0, x1, hMs3, hNs3⟩ := HF6.out.cells
      clear hb5
      have h05 : ((5 : Int) == 0) = false := rfl
      rw [h05]
      go_upto_region 14 with fail
      go_region
      all_goals
        go_wp2
        obtain ⟨j1, j2⟩ := HF6.out.told 5 (p : Int)
        rw [HE.out]
        exact bodyPost_ret (v := .tuple #[.int .i64 0, flt 5 (p : Int)]) (results_tmp_cell (p := 5) (u := 4) (ty := 27) rfl _ _ _ M (flt 5 (p : Int)) rfl (ldF _ _ _ _ j2)) rfl ⟨j1.trans ((Bl.refl _).drew), rfl⟩
    | ok n2 =>
      rw [hr] at h4 hev
      dsimp only at h4 hev
      subst h4
      have HE : Hid (ev env (.bin a o l r) = .ok (jn o n1 n2)) := hev
      unfold flt
      have hF5 := HF4.out.again 0 (-1)
      obtain ⟨V, hV⟩ : ∃ V, V = (w4.setCell ⟨N, 0, none⟩ (.int .i64 0)).setCell ⟨N, 1, none⟩ (.int .i64 (-1)) := ⟨_, rfl⟩
      rw [← hV] at hF5
      have HF5 : Hid (Fl w V M N 0 (-1)) := hF5
      clear hev hF5
      go_wp2_with fail
      rw [← hV]
      clear hV g0 g1 m0 m1 z0 z1 hMs hNs y0 y1 q4 q6
      refine (Is_at 0 (-1) V).mono ?_
      rintro e w5 ⟨rfl, hb5⟩
      have HF6 : Hid (Fl w w5 M N 0 (-1)) := HF5.out.step hb5
      clear hb5
      have h05 : ((0 : Int) == 0) = true := rfl
      rw [h05]
      have hmm : ∀ w, (Instr.makeMap 22 none).run Tryz.prog w = .ok (.map (some w.heap.size)) (w.alloc (.map #[] 0)) := fun w => by kernel_rfl
      obtain ⟨v1, v2, v3, v4, v5, v6, v7, v8, v9, r1, r2, r3, r4, r5, r6, r7, r8, r9, hb9, o9⟩ := nine w5 n1 n2
      have HO : Hid (Bl w5 v9 ∧ Om v9 w5.heap.size (jf n1 n2) 9) := ⟨hb9, o9⟩
      unfold kv at r1 r2 r3 r4 r5 r6 r7 r8 r9
      clear hb9 o9
      obtain ⟨J6, hJ6⟩ : ∃ J, J = (if n1 = n2 then (1 : Int) else 0) := ⟨_, rfl⟩
      obtain ⟨J7, hJ7⟩ : ∃ J, J = (if n1 = n2 then (0 : Int) else 1) := ⟨_, rfl⟩
      obtain ⟨J8, hJ8⟩ : ∃ J, J = (if n1 < n2 then (1 : Int) else 0) := ⟨_, rfl⟩
      obtain ⟨J9, hJ9⟩ : ∃ J, J = (if n2 < n1 then (1 : Int) else 0) := ⟨_, rfl⟩
      rw [← hJ6] at r6
      rw [← hJ7] at r7
      rw [← hJ8] at r8
      rw [← hJ9] at r9
      have HJ6 : Hid (J6 = (if n1 = n2 then (1 : Int) else 0)) := hJ6
      have HJ7 : Hid (J7 = (if n1 = n2 then (0 : Int) else 1)) := hJ7
      have HJ8 : Hid (J8 = (if n1 < n2 then (1 : Int) else 0)) := hJ8
      have HJ9 : Hid (J9 = (if n2 < n1 then (1 : Int) else 0)) := hJ9
      clear hJ6 hJ7 hJ8 hJ9 cO
      have hlk : ∀ wx, Bl v9 wx → (Instr.lookup 22 (.map (some w5.heap.size)) (.string (tx o)) false).run Tryz.prog wx = .ok (.int .i64 (jn o n1 n2)) wx := fun wx hb => by
        have hg : v9.grownBy wx none := ⟨hb.os, hb.tape, hb.output, hb.size, fun k hk _ => Below.block hb k hk⟩
        have h := (HO.out.2.step hg (by simp)).get (tx o) (by rw [tx_size]; have := bd_len ho; omega)
        rw [show (tx o).data.toList = o from L_tx o, jf_jn ho] at h
        exact h
      have hF9 : Fl w v9 M N 0 (-1) := HF6.out.step HO.out.1
      have HF9 : Hid (Fl w v9 M N 0 (-1)) := hF9
      obtain ⟨J, hJ⟩ : ∃ J, J = jn o n1 n2 := ⟨_, rfl⟩
      rw [← hJ] at hlk HE
      clear hJ hF9
      have s4 := (node v9 HF9.out.bl).1
      have hl9 := hlk v9 (Bl.refl _)
      have hl9d := hlk v9.drew ((Bl.refl _).drew)
      obtain ⟨g0, g1, m0, m1, z0, z1, hMs, hNs⟩ := HF9.out.cells
      clear node
      go_wp2_with fail
      refine (one_is' _ J6 _ (by rw [HJ6.out]; by_cases h : n1 = n2 <;> simp [h])).mono ?_
      rintro e x6 ⟨rfl, rfl⟩
      go_wp2_with fail
      refine (one_is' _ J7 _ (by rw [HJ7.out]; by_cases h : n1 = n2 <;> simp [h])).mono ?_
      rintro e x6 ⟨rfl, rfl⟩
      go_wp2_with fail
      refine (one_is' _ J8 _ (by rw [HJ8.out]; by_cases h : n1 < n2 <;> simp [h])).mono ?_
      rintro e x6 ⟨rfl, rfl⟩
      go_wp2_with fail
      refine (one_is' _ J9 _ (by rw [HJ9.out]; by_cases h : n2 < n1 <;> simp [h])).mono ?_
      rintro e x6 ⟨rfl, rfl⟩
      clear r1 r2 r3 r4 r5 r6 r7 r8
      go_upto_region 16 with fail
      clear r9
      go_region_with (first | (go_at_call 19; refine (cG _).mono ?_; rintro e w6 ⟨rfl, hb6⟩; have HB6 : Hid (Bl v9 w6) := ((Bl.refl v9).drew).trans hb6; obtain ⟨q0, q1, q2, q3, y0, y1, hM6, hN6⟩ := (HF9.out.step HB6.out).cells; have s4' := at_bl HB6.out s4; have hl6 := hlk w6 HB6.out; clear hb6))
      all_goals
        go_wp2
        obtain ⟨j1, j2⟩ := (HF9.out.step HB6.out).told 0 (-1)
        rw [HE.out]
        exact bodyPost_ret (v := .tuple #[.int .i64 J, flt 0 (-1)]) (results_tmp_cell (p := 5) (u := 4) (ty := 27) rfl _ _ _ M (flt 0 (-1)) rfl (ldF _ _ _ _ j2)) rfl ⟨j1, rfl⟩
theorem reval_at (env : List UInt8 → Option Int) (m : Value) (x : Ex) : ∀ (v : Value) (w : World), IsX w v x → Okb x → IsM w m env → Calls Tryz.prog 10 #[v, m] w fun e w' => ReAns (ev env x) w e w' := by
  induction x with
  | num a n => intro v w hx ho hm; exact reval_num env m a n v w hx
  | nam a t => intro v w hx ho hm; exact reval_nam env m a t v w hx ho hm
  | bin a o l r il ir => intro v w hx ho hm; exact reval_bin env m a o l r v w hx ho.1 hm (fun v w h1 h2 => il v w h1 ho.2.1 h2) (fun v w h1 h2 => ir v w h1 ho.2.2 h2)
end Go.Proofs.YtfngcphklfjhjaaGreatDoor.ex
/- The law that holds an expression, its text and what it comes to against the document's: the walk. -/
namespace Go.Proofs.YtfngcphklfjhjaaGreatDoor.ex
set_option linter.unusedVariables false
open Go.ChangeShapes Go.WideShapes Go.ChangeAt Go.RowKit
open mem lx

theorem far_at (s : ByteArray) (w : World) : Calls Tryz.prog 4 #[.string s] w fun e w' => e = .returned (.bool (decide ((900 < s.size ∧ s.size ≤ 3000) ∨ 3009 < s.size))) ∧ w' = w := by
  go_enter Tryz.func4, Tryz.ntmps4
  go_wp2
  all_goals
    go_ret
    refine ⟨ret_bool ?_, rfl⟩
    rw [Bool.eq_iff_iff]
    simp
    try omega
/-- A fault that lies in a variable of its own. -/
theorem fault_cells {w w' : World} {c p : Int} (hb : Bl (w.alloc (.cells #[.int .i64 c, .int .i64 p] 27)) w') : w'.cell? ⟨w.heap.size, 0, none⟩ = some (.int .i64 c) ∧ w'.cell? ⟨w.heap.size, 1, none⟩ = some (.int .i64 p) :=
  ⟨at_bl hb (by rw [cell_of (new_at w _)]; rfl), at_bl hb (by rw [cell_of (new_at w _)]; rfl)⟩
theorem fault_bl {w w' : World} {c p : Int} (hb : Bl (w.alloc (.cells #[.int .i64 c, .int .i64 p] 27)) w') : Bl w w' := ((Bl.refl w).alloc _).trans hb
theorem drewN_bl (w : World) (q : Nat) : Bl w (w.drewN q) := (Bl.refl w).drewN q
set_option maxRecDepth 10000 in
set_option maxHeartbeats 4000000 in
theorem reads_at (a0 : ByteArray) (m : Value) (env : List UInt8 → Option Int) (n : Nat) (w : World) (hg : Gd w) (hn : Nm w m env n) :
    Calls Tryz.prog 3 #[.string a0, m] w fun e w' => e = .returned (.bool true) ∧ Below w.heap.size w w' := by
  have cF := far_at a0
  have HG : Hid (Gd w) := hg
  have HN : Hid (Nm w m env n) := hn
  have hln := hn.ln w (Bl.refl _)
  clear hg hn
  go_enter Tryz.func3, Tryz.ntmps3
  by_cases hf : (900 < a0.size ∧ a0.size ≤ 3000) ∨ 3009 < a0.size
  · rw [decide_eq_true hf] at cF
    go_wp2_with fail
    refine (cF _).mono ?_
    rintro e w2 ⟨rfl, hw⟩
    obtain rfl := hw.symm
    go_wp2
    go_ret
    exact ⟨rfl, Below.refl _ _⟩
  · rw [decide_eq_false hf] at cF
    by_cases h20 : 20 < n
    · have h20' : (20 : Int) < (n : Int) := by omega
      go_wp2_with fail
      refine (cF _).mono ?_
      rintro e w2 ⟨rfl, hw⟩
      obtain rfl := hw.symm
      go_wp2
      go_ret
      exact ⟨rfl, Below.refl _ _⟩
    · have h20' : ¬ (20 : Int) < (n : Int) := by omega
      go_wp2_with fail
      refine (cF _).mono ?_
      rintro e w2 ⟨rfl, hw⟩
      obtain rfl := hw.symm
      clear cF
      by_cases hl : 3000 < a0.size
      · clear hf
        go_wp2_with fail
        refine (RParse_long a0 _ hl).mono ?_
        rintro e w3 ⟨rfl, hb3⟩
        unfold flt
        go_wp2_with fail
        refine (Parse_long a0 _ hl).mono ?_
        rintro e w4 ⟨rfl, hb4⟩
        obtain ⟨c0, c1⟩ := fault_cells hb4
        have HB4 : Hid (Bl w w4) := hb3.trans (fault_bl hb4)
        have cP := errs.placed_errno 4 w4 (HG.out.step HB4.out).er
        clear hb3 hb4
        go_wp2_with fail
        refine cP.mono ?_
        rintro e w5 ⟨rfl, hg5⟩
        go_wp2_with fail
        refine (same_nil _).mono ?_
        rintro e w6 ⟨rfl, hw⟩
        obtain rfl := hw.symm
        have HB5 : Hid (Bl w4 w5) := hg5.bl
        have d0 := at_bl HB5.out c0
        have d1 := at_bl HB5.out c1
        clear hg5 cP c0 c1
        go_wp2_with fail
        refine (Is_at 4 (-1) _).mono ?_
        rintro e w6 ⟨rfl, hb6⟩
        have h00 : ((4 : Int) == 0) = false := rfl
        rw [h00]
        go_wp2
        go_ret
        exact ⟨rfl, (HB4.out.trans HB5.out).trans hb6⟩
      · have hl' : a0.size ≤ 900 := by omega
        clear hf hl
        have cR := RParse_at a0 w (by omega)
        go_wp2_with fail
        refine cR.mono ?_
        rintro e w3 ⟨hb3, hans⟩
        have cX := fun wx (hb : Bl w wx) => Parse_at a0 wx (by omega) (HG.out.step hb).ms (HG.out.step hb).er
        cases hp : prs (L a0) with
        | error cp =>
          obtain ⟨c, p⟩ := cp
          rw [hp] at hans
          obtain ⟨rfl, hc⟩ := hans
          have h00 : (c == 0) = false := by simpa using hc
          unfold flt
          go_wp2_with fail
          refine (cX _ (hb3.trans ((Bl.refl _).alloc _))).mono ?_
          rintro e w4 ⟨hb4, hans4⟩
          rw [hp] at hans4
          obtain ⟨B, rfl, hB1, hB2⟩ := hans4
          obtain ⟨c0, c1⟩ := fault_cells hb4
          have HB4 : Hid (Bl w w4) := hb3.trans (fault_bl hb4)
          have cP := errs.placed_at c (p : Int) B w4 (HG.out.step HB4.out).er (by rw [cell_of hB2]; rfl) (by rw [cell_of hB2]; rfl)
          clear hb3 hb4 hB1 hB2 hp hc cR cX
          go_wp2_with fail
          refine cP.mono ?_
          rintro e w5 ⟨rfl, hg5⟩
          go_wp2_with fail
          refine (same_nil _).mono ?_
          rintro e w6 ⟨rfl, hw⟩
          obtain rfl := hw.symm
          have HB5 : Hid (Bl w4 w5) := hg5.bl
          have d0 := at_bl HB5.out c0
          have d1 := at_bl HB5.out c1
          clear hg5 cP c0 c1
          go_wp2_with fail
          refine (Is_at c (p : Int) _).mono ?_
          rintro e w6 ⟨rfl, hb6⟩
          rw [h00]
          go_wp2
          go_ret
          exact ⟨rfl, (HB4.out.trans HB5.out).trans hb6⟩
        | ok x =>
          rw [hp] at hans
          obtain ⟨v, rfl, hv⟩ := hans
          have hk := prs_kn hp
          obtain ⟨vb, rfl, _⟩ := hv.ptr
          unfold flt
          go_wp2_with fail
          refine (cX _ (hb3.trans ((Bl.refl _).alloc _))).mono ?_
          rintro e w4 ⟨hb4, hans4⟩
          rw [hp] at hans4
          obtain ⟨u, rfl, hu⟩ := hans4
          obtain ⟨ub, rfl, _⟩ := hu.ptr
          obtain ⟨c0, c1⟩ := fault_cells hb4
          have HB4 : Hid (Bl w w4) := hb3.trans (fault_bl hb4)
          have HX : Hid (IsX w4 (.pointer (some ⟨vb, 0, none⟩)) x ∧ IsX w4 (.pointer (some ⟨ub, 0, none⟩)) x) := ⟨hv.keep (Kx.bl (fault_bl hb4)), hu⟩
          have hlen : (txt x).length ≤ 100000 := by
            have h1 := txt_len hk.nw hk.wf.okb
            have h2 := hk.sz
            rw [L_len] at h2
            omega
          have HK : Hid (Kn (L a0) x ∧ (txt x).length ≤ 100000) := ⟨hk, hlen⟩
          have cP := errs.placed_nil w4
          clear hb3 hb4 hv hu hp cR cX hk hlen
          go_wp2_with fail
          refine cP.mono ?_
          rintro e w5 ⟨rfl, hg5⟩
          have HB5 : Hid (Bl w4 w5) := hg5.bl
          have cS := same_at x _ _ w5 (HX.out.2.keep (Kx.bl HB5.out)) (HX.out.1.keep (Kx.bl HB5.out))
          clear hg5 cP
          go_wp2_with fail
          refine cS.mono ?_
          rintro e w6 ⟨rfl, q6, rfl⟩
          have HB6 : Hid (Bl w4 (w5.drewN q6)) := HB5.out.trans (drewN_bl _ _)
          have d0 := at_bl HB6.out c0
          have d1 := at_bl HB6.out c1
          generalize w5.drewN q6 = w6 at *
          clear c0 c1 cS
          go_wp2_with fail
          refine (Is_at 0 (-1) _).mono ?_
          rintro e w7 ⟨rfl, hb7⟩
          have h00 : ((0 : Int) == 0) = true := rfl
          rw [h00]
          have HB7 : Hid (Bl w4 w7) := HB6.out.trans hb7
          have cE := reval_at env m x _ w7 (HX.out.1.keep (Kx.bl HB7.out)) HK.out.1.wf.okb (HN.out.is.step (HB4.out.trans HB7.out))
          clear hb7 d0 d1
          go_wp2_with fail
          refine cE.mono ?_
          rintro e w8 ⟨hb8, hans8⟩
          clear cE
          have cV := fun wx (hb : Bl w4 wx) => Eval_at env m x _ wx (HX.out.1.keep (Kx.bl hb)) HK.out.1.wf.okb (HN.out.is.step (HB4.out.trans hb))
          have cT := fun wx (hb : Bl w4 wx) => Text_at x _ wx (HX.out.1.keep (Kx.bl hb)) (HG.out.step (HB4.out.trans hb)).pw (HG.out.step (HB4.out.trans hb)).lt HK.out.1.nw.fit (by have := HK.out.2; omega)
          have cRT := fun wx (hb : Bl w4 wx) => rtext_of x _ wx (HX.out.1.keep (Kx.bl hb)) HK.out.1.nw HK.out.1.wf.okb (by have := HK.out.2; omega)
          obtain ⟨S, hS⟩ : ∃ S, S = tx (txt x) := ⟨_, rfl⟩
          rw [← hS] at cT cRT
          clear hS
          have HB8 : Hid (Bl w4 w8) := HB7.out.trans hb8
          clear hb8
          cases hev : ev env x with
          | error p =>
            rw [hev] at hans8
            dsimp only at hans8
            subst hans8
            unfold flt
            go_wp2_with fail
            refine (cV _ (HB8.out.trans ((Bl.refl _).alloc _))).mono ?_
            rintro e w9 ⟨hb9, hans9⟩
            rw [hev] at hans9
            obtain ⟨B, rfl, hB1, hB2⟩ := hans9
            obtain ⟨c0, c1⟩ := fault_cells hb9
            have HB9 : Hid (Bl w4 w9) := HB8.out.trans (fault_bl hb9)
            have cP := errs.placed_at 5 (p : Int) B w9 (HG.out.step (HB4.out.trans HB9.out)).er (by rw [cell_of hB2]; rfl) (by rw [cell_of hB2]; rfl)
            clear hb9 hB1 hB2 hev cV
            go_wp2_with fail
            refine cP.mono ?_
            rintro e w10 ⟨rfl, hg10⟩
            have HB10 : Hid (Bl w4 w10) := HB9.out.trans hg10.bl
            clear hg10 cP c0 c1
            go_wp2_with fail
            refine (cT _ HB10.out).mono ?_
            rintro e w11 ⟨rfl, hb11⟩
            have HB11 : Hid (Bl w4 w11) := HB10.out.trans hb11
            clear hb11 cT
            go_wp2_with fail
            refine (cRT _ HB11.out).mono ?_
            rintro e w12 ⟨rfl, q12, rfl⟩
            have HB12 : Hid (Bl w4 (w11.drewN q12)) := HB11.out.trans (drewN_bl _ _)
            go_wp2
            go_ret
            exact ⟨rfl, HB4.out.trans HB12.out⟩
          | ok k =>
            rw [hev] at hans8
            dsimp only at hans8
            subst hans8
            unfold flt
            go_wp2_with fail
            refine (cV _ (HB8.out.trans ((Bl.refl _).alloc _))).mono ?_
            rintro e w9 ⟨hb9, hans9⟩
            rw [hev] at hans9
            dsimp only at hans9
            subst hans9
            obtain ⟨c0, c1⟩ := fault_cells hb9
            have HB9 : Hid (Bl w4 w9) := HB8.out.trans (fault_bl hb9)
            have cP := errs.placed_nil w9
            clear hb9 hev cV
            go_wp2_with fail
            refine cP.mono ?_
            rintro e w10 ⟨rfl, hg10⟩
            have HB10 : Hid (Bl w4 w10) := HB9.out.trans hg10.bl
            clear hg10 cP c0 c1
            have hkk : (k == k) = true := by simp
            go_wp2_with fail
            refine (cT _ HB10.out).mono ?_
            rintro e w11 ⟨rfl, hb11⟩
            have HB11 : Hid (Bl w4 w11) := HB10.out.trans hb11
            clear hb11 cT
            go_wp2_with fail
            refine (cRT _ HB11.out).mono ?_
            rintro e w12 ⟨rfl, q12, rfl⟩
            have HB12 : Hid (Bl w4 (w11.drewN q12)) := HB11.out.trans (drewN_bl _ _)
            go_wp2
            go_ret
            exact ⟨rfl, HB4.out.trans HB12.out⟩
end Go.Proofs.YtfngcphklfjhjaaGreatDoor.ex
/- Names that come in: a map from texts to numbers, opened. -/
namespace Go.Proofs.YtfngcphklfjhjaaGreatDoor.ex
set_option linter.unusedVariables false
open Go.ChangeShapes Go.WideShapes Go.ChangeAt Go.RowKit
open mem lx
open Go.Maps
open Go.WideElems (Fit rd rg pl rd_val elemAt elemAt_int)

theorem un_map : Tryz.prog.underlying 22 = some (.map (Tryz.prog.mapKeyOf 22) (Tryz.prog.mapElemOf 22)) := by kernel_rfl
/-- The number that a map tells of a text. -/
def tells (D : DataW Unit) (x : List UInt8) : Option Int :=
  match Maps.has D (skey x), D.atKey (skey x) (.lit (.int .i64 0)) with
  | true, .lit (.int .i64 a) => some a
  | _, _ => none
theorem not_has {D : DataW Unit} {k : Lit} {z : DataW Unit} (h : Maps.has D k = false) : D.atKey k z = z := by
  cases D <;> first | rfl | skip
  unfold Maps.has at h
  simp only [DataW.atKey]
  split
  · rename_i p hp
    have := List.find?_some hp
    have h2 := List.mem_of_find?_eq_some hp
    rw [List.any_eq_false] at h
    exact absurd this (h p h2)
  · rfl
theorem Om.of {w : World} {b c : Nat} {D : DataW Unit} (h : w.ownsMap Tryz.prog 9 (plainElem Tryz.prog 3) b c D) : Om w b (tells D) c ∧ ∀ x, x.length ≤ 5000 → ∀ k, tells D x = some k → R64 k := by
  have key : ∀ x : List UInt8, x.length ≤ 5000 → ∃ a, D.atKey (skey x) (.lit (.int .i64 0)) = .lit (.int .i64 a) ∧ (Lit.int .i64 a).wf = true := fun x hx => by
    obtain ⟨a, _, h2, h3⟩ := h.lookup_int (w := w) lawS Tryz.underlying22 Tryz.underlying3 (zero_int w) (WideMaps.keyOf_string_mk Tryz.underlying9 (s := ⟨x.toArray⟩) (by show x.toArray.size ≤ maxLen; unfold maxLen; simp; omega))
    exact ⟨a, by simpa [skey] using h2, h3⟩
  refine ⟨⟨D, h, fun x hx => ?_⟩, fun x hx k hk => ?_⟩
  · obtain ⟨a, h1, h2⟩ := key x hx
    unfold tells
    rw [h1]
    cases hh : Maps.has D (skey x) with
    | true => exact ⟨rfl, rfl⟩
    | false =>
      rw [not_has hh] at h1
      exact ⟨rfl, by rw [← h1]; rfl⟩
  · obtain ⟨a, h1, h2⟩ := key x hx
    unfold tells at hk
    rw [h1] at hk
    cases hh : Maps.has D (skey x) with
    | true =>
      rw [hh] at hk
      obtain rfl := Option.some.inj hk
      unfold R64
      simp [Lit.wf, show IntKind.i64.min = -9223372036854775808 from rfl, show IntKind.i64.max = 9223372036854775807 from rfl] at h2
      omega
    | false => rw [hh] at hk; cases hk
theorem map_open {H : Type} {enc : TypeId × Value → H} {W : World} {a1 : Option Nat} {d : DataW H} {p : List MemPlace} (h : DataW.Trod enc Tryz.prog W 0 (fun _ => true) true 22 (.map a1) d p) :
    a1 = none ∨ ∃ b es clock, a1 = some b ∧ W.heap[b]? = some (.map es clock) ∧ W.ownsMap Tryz.prog 9 (plainElem (H := Unit) Tryz.prog 3) b es.size (.map ((es.toList.map (rg Tryz.prog 9 (plainElem Tryz.prog 3))).foldr DataW.insert [])) := by
  obtain ⟨fuel, hf⟩ := h
  rcases WideElems.open_map Tryz.underlying22 hf with ⟨hcs, hx⟩ | ⟨bm, es, clock, m, rfl, hcs, hb, _, F, hx⟩
  · left
    simpa [Value.cells] using hcs
  · right
    simp [Value.cells] at hcs
    refine ⟨bm, es, clock, hcs, hb, es, clock, hb, ⟨F.size, F.stamped, fun x hx => ?_⟩, Nat.le_refl _, rfl⟩
    obtain ⟨y, hy⟩ := F.reads x hx
    have hkey := WideElems.rd_key hy
    obtain ⟨z, hz, hd⟩ := rd_val hy
    obtain ⟨a, ha, rfl, hw⟩ := elemAt_int Tryz.underlying3 hz
    refine ⟨(y.1, .lit (.int .i64 a)), ?_⟩
    unfold rd
    rw [hkey, ha, plainElem_int Tryz.underlying3 hw]
    rfl
theorem nm_open {H : Type} {enc : TypeId × Value → H} {W : World} {a1 : Option Nat} {d : DataW H} {p : List MemPlace} (h : DataW.Trod enc Tryz.prog W 0 (fun _ => true) true 22 (.map a1) d p) :
    ∃ env n, Nm W (.map a1) env n := by
  rcases map_open h with rfl | ⟨b, es, clock, rfl, hb, ho⟩
  · exact ⟨fun _ => none, 0, ⟨fun w' _ t _ => by kernel_rfl⟩, fun w' _ => run_len_nilMap (w := w') _ _ un_map, fun t k h => by cases h⟩
  · obtain ⟨h1, h2⟩ := Om.of ho
    generalize (DataW.map ((es.toList.map (rg Tryz.prog 9 (plainElem Tryz.prog 3))).foldr DataW.insert []) : DataW Unit) = D at h1 h2
    refine ⟨fun x => if x.length ≤ 5000 then tells D x else none, es.size, ⟨fun w' hbl t ht => ?_⟩, fun w' hbl => ?_, fun t k hk => ?_⟩
    · rw [h1.isM.lk w' hbl t ht]
      simp only [show t.length ≤ 5000 by omega, if_true]
    · exact run_len_map (w := w') _ _ b es clock un_map (by rw [Below.block hbl b ((Array.getElem?_eq_some_iff.1 hb).1), hb])
    · split at hk
      · rename_i hl; exact h2 t hl k hk
      · cases hk
end Go.Proofs.YtfngcphklfjhjaaGreatDoor.ex
