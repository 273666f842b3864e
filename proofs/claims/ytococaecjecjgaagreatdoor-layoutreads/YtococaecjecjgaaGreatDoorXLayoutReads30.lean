/- Texts laid together: Er6, Er8, Er9, LrA, LrB. -/
import Derived.Test.YtococaecjecjgaaGreatDoorXLayoutReads29
import Derived.Test.YtococaecjecjgaaGreatDoorXLayoutReads8
import Derived.Test.YtococaecjecjgaaGreatDoorXLayoutReads9
import Derived.Deep.RegionWith
import Derived.Deep.RegionHeld3
import Derived.Test.YtococaecjecjgaaGreatDoorXLayoutReads27
import Derived.Test.YtococaecjecjgaaGreatDoorXLayoutReads14
namespace Go.Proofs.YtococaecjecjgaaGreatDoor.ex
set_option linter.unusedVariables false
open Go.ChangeShapes Go.WideShapes Go.ChangeAt Go.RowKit
open mem lx

theorem Ey.cell0 {w : World} {P : Nat} {ts : List Tk} {en : Nat} {c p : Int} (h : Ey w P ts en c p) : ∃ q k, w.cell? ⟨P, 0, none⟩ = some (.slice q ts.length k) := by
  obtain ⟨q, k, h1, _⟩ := h.ex
  exact ⟨q, k, by rw [cell_of h1]; rfl⟩
theorem Fl.told {w W : World} {M N : Nat} {c p : Int} (h : Fl w W M N c p) (a b : Int) : Bl w ((W.setCell ⟨M, 0, none⟩ (.int .i64 a)).setCell ⟨M, 1, none⟩ (.int .i64 b)) ∧ ((W.setCell ⟨M, 0, none⟩ (.int .i64 a)).setCell ⟨M, 1, none⟩ (.int .i64 b)).heap[M]? = some (.cells #[.int .i64 a, .int .i64 b] 30 (0, 0)) :=
  ⟨Gp.below h.bl ((Gp.set _).trans (Gp.set _)) h.ge.1, upd2 W M _ _ _ _ _ h.m⟩
theorem Fl.gp {w W W' : World} {M N P : Nat} {c p : Int} (h : Fl w W M N c p) (hg : Gp P W W') (hM : M ≠ P) (hN : N ≠ P) (hP : w.heap.size ≤ P) : Fl w W' M N c p :=
  ⟨Gp.below h.bl hg hP, by rw [hg.block M (lt_of_heap h.m) hM]; exact h.m, by rw [hg.block N (lt_of_heap h.n) hN]; exact h.n, h.ge⟩
theorem Fl.kx {w W : World} {M N : Nat} {c p : Int} (h : Fl w W M N c p) (a b : Int) : Kx W ((W.setCell ⟨M, 0, none⟩ (.int .i64 a)).setCell ⟨M, 1, none⟩ (.int .i64 b)) := fun k cs hk => by
  have hg : Gp M W ((W.setCell ⟨M, 0, none⟩ (.int .i64 a)).setCell ⟨M, 1, none⟩ (.int .i64 b)) := (Gp.set _).trans (Gp.set _)
  rw [hg.block k (lt_of_heap hk) (fun e => by rw [e, h.m] at hk; simp at hk)]
  exact hk
theorem Is_at (c p : Int) (w : World) : Calls Tryz.prog 18 #[.agg #[.int .i64 c, .int .i64 p]] w fun e w' => e = .returned (.bool (c == 0)) ∧ Bl w w' := by
  go_enter Tryz.func18, Tryz.ntmps18
  go_wp2
  go_ret
  exact ⟨rfl, (Bl.refl _).alloc _⟩
end Go.Proofs.YtococaecjecjgaaGreatDoor.ex
namespace Go.Proofs.YtococaecjecjgaaGreatDoor.ex
set_option linter.unusedVariables false
open Go.ChangeShapes Go.WideShapes Go.ChangeAt Go.RowKit
open mem lx

structure Fo (w W : World) (M : Nat) : Prop where
  bl : Bl w W
  m : W.heap[M]? = some (.cells #[.int .i64 0, .int .i64 0] 30 (0, 0))
  ge : w.heap.size ≤ M
theorem Fo.new (w : World) : Fo w (w.alloc (.cells #[.int .i64 0, .int .i64 0] 30)) w.heap.size := ⟨(Bl.refl _).alloc _, new_at w _, Nat.le_refl _⟩
theorem Fo.step {w W W' : World} {M : Nat} (h : Fo w W M) (hb : Bl W W') : Fo w W' M :=
  ⟨h.bl.trans hb, by rw [Below.block hb M (lt_of_heap h.m)]; exact h.m, h.ge⟩
theorem Fo.cells {w W : World} {M : Nat} (h : Fo w W M) : W.cell? ⟨M, 0, none⟩ = some (.int .i64 0) ∧ W.cell? ⟨M, 1, none⟩ = some (.int .i64 0) ∧ W.frozen? ⟨M, 0, none⟩ = false ∧ W.frozen? ⟨M, 1, none⟩ = false ∧ M < W.heap.size :=
  ⟨by rw [cell_of h.m]; rfl, by rw [cell_of h.m]; rfl, by simp [World.frozen?, h.m], by simp [World.frozen?, h.m], lt_of_heap h.m⟩
theorem Fo.told {w W : World} {M : Nat} (h : Fo w W M) (a b : Int) : Bl w ((W.setCell ⟨M, 0, none⟩ (.int .i64 a)).setCell ⟨M, 1, none⟩ (.int .i64 b)) ∧ ((W.setCell ⟨M, 0, none⟩ (.int .i64 a)).setCell ⟨M, 1, none⟩ (.int .i64 b)).heap[M]? = some (.cells #[.int .i64 a, .int .i64 b] 30 (0, 0)) :=
  ⟨Gp.below h.bl ((Gp.set _).trans (Gp.set _)) h.ge, upd2 W M _ _ _ _ _ h.m⟩
theorem Fl.again {w W : World} {M N : Nat} {c p : Int} (h : Fl w W M N c p) (a b : Int) : Fl w ((W.setCell ⟨N, 0, none⟩ (.int .i64 a)).setCell ⟨N, 1, none⟩ (.int .i64 b)) M N a b :=
  ⟨Gp.below h.bl ((Gp.set _).trans (Gp.set _)) h.ge.2.1, by
    have hg : Gp N W ((W.setCell ⟨N, 0, none⟩ (.int .i64 a)).setCell ⟨N, 1, none⟩ (.int .i64 b)) := (Gp.set _).trans (Gp.set _)
    rw [hg.block M (lt_of_heap h.m) h.ge.2.2]; exact h.m, upd2 W N _ _ _ _ _ h.n, h.ge⟩
def ReAns (q : Except Nat Int) (w : World) (e : Ending) (w' : World) : Prop :=
  Bl w w' ∧ match q with
  | .ok n => e = .returned (.tuple #[.int .i64 n, flt 0 (-1)])
  | .error p => e = .returned (.tuple #[.int .i64 0, flt 5 (p : Int)])
theorem GoodX (w : World) : Calls Tryz.prog 21 #[] w fun e w' => e = .returned (.agg #[.int .i64 0, .int .i64 (-1)]) ∧ Bl w w' := Good_at w
theorem one_at' (b : Bool) (w : World) : Calls Tryz.prog 113 #[.bool b] w fun e w' => e = .returned (.int .i64 (if b then 1 else 0)) ∧ w' = w := by
  cases b
  · go_enter Tryz.func113, Tryz.ntmps113
    go_wp2
    go_ret
    exact ⟨rfl, rfl⟩
  · go_enter Tryz.func113, Tryz.ntmps113
    go_wp2
    go_ret
    exact ⟨rfl, rfl⟩
set_option maxRecDepth 10000 in
set_option maxHeartbeats 1000000 in
theorem reval_num (env : List UInt8 → Option Int) (m : Value) (a : Nat) (n : Int) (v : Value) (w : World) (hx : IsX w v (.num a n)) : Calls Tryz.prog 83 #[v, m] w fun e w' => ReAns (ev env (.num a n)) w e w' := by
  obtain ⟨xb, rfl, hc⟩ := hx
  have hF := Fo.new w
  have cG := GoodX
  have HB := hF.bl
  obtain ⟨W, hW⟩ : ∃ W, W = w.alloc (.cells #[.int .i64 0, .int .i64 0] 30) := ⟨_, rfl⟩
  obtain ⟨M, hM⟩ : ∃ M, M = w.heap.size := ⟨_, rfl⟩
  rw [← hW] at HB
  rw [← hW, ← hM] at hF
  have k0 : W.cell? ⟨xb, 0, none⟩ = some (.int .i64 1) := at_bl HB (by rw [cell_of hc]; rfl)
  have k2 : W.cell? ⟨xb, 2, none⟩ = some (.int .i64 n) := at_bl HB (by rw [cell_of hc]; rfl)
  have HF : Hid (Fo w W M) := hF
  obtain ⟨m0, m1, z0, z1, hMs⟩ := hF.cells
  clear hF HB hc
  go_enter Tryz.func83, Tryz.ntmps83
  go_upto_region 1 with fail
  rw [← hW, ← hM]
  clear hW hM
  go_upto_region 3 with fail
  go_region_with (go_at_call 21; refine (cG _).mono ?_; rintro e w6 ⟨rfl, hb6⟩; have HB6 : Hid (Bl W w6) := ((Bl.refl W).drew).trans hb6; obtain ⟨q2, q3, y0, y1, hM6⟩ := (HF.out.step HB6.out).cells; have k2' := at_bl HB6.out k2; clear hb6)
  all_goals
    go_wp2
    obtain ⟨j1, j2⟩ := (HF.out.step HB6.out).told 0 (-1)
    exact bodyPost_ret (v := .tuple #[.int .i64 n, flt 0 (-1)]) (results_tmp_cell (p := 5) (u := 4) (ty := 30) rfl _ _ _ M (flt 0 (-1)) rfl (ldF _ _ _ _ j2)) rfl ⟨j1, rfl⟩
set_option maxRecDepth 10000 in
set_option maxHeartbeats 1000000 in
theorem reval_nam (env : List UInt8 → Option Int) (m : Value) (a : Nat) (t : List UInt8) (v : Value) (w : World) (hx : IsX w v (.nam a t)) (ho : t.length ≤ 3000) (hm : IsM w m env) : Calls Tryz.prog 83 #[v, m] w fun e w' => ReAns (ev env (.nam a t)) w e w' := by
  obtain ⟨xb, rfl, hc⟩ := hx
  have hF := Fo.new w
  have cG := GoodX
  have HB := hF.bl
  obtain ⟨W, hW⟩ : ∃ W, W = w.alloc (.cells #[.int .i64 0, .int .i64 0] 30) := ⟨_, rfl⟩
  obtain ⟨M, hM⟩ : ∃ M, M = w.heap.size := ⟨_, rfl⟩
  rw [← hW] at HB
  rw [← hW, ← hM] at hF
  have k0 : W.cell? ⟨xb, 0, none⟩ = some (.int .i64 2) := at_bl HB (by rw [cell_of hc]; rfl)
  have k1 : W.cell? ⟨xb, 1, none⟩ = some (.int .i64 (a : Int)) := at_bl HB (by rw [cell_of hc]; rfl)
  have k3 : W.cell? ⟨xb, 3, none⟩ = some (.string (tx t)) := at_bl HB (by rw [cell_of hc]; rfl)
  have hlk := hm.lk W HB t ho
  have HF : Hid (Fo w W M) := hF
  obtain ⟨m0, m1, z0, z1, hMs⟩ := hF.cells
  clear hF HB hc hm
  cases he : env t with
  | some n =>
    rw [he] at hlk
    dsimp only at hlk
    have HE : Hid (ev env (.nam a t) = .ok n) := by unfold Hid; rw [ev, he]
    go_enter Tryz.func83, Tryz.ntmps83
    go_upto_region 1 with fail
    rw [← hW, ← hM]
    clear hW hM
    go_wp2_with fail
    refine (cG _).mono ?_
    rintro e w6 ⟨rfl, hb6⟩
    have HB6 : Hid (Bl W w6) := hb6
    obtain ⟨q2, q3, y0, y1, hM6⟩ := (HF.out.step HB6.out).cells
    clear hb6
    go_wp2
    obtain ⟨j1, j2⟩ := (HF.out.step HB6.out).told 0 (-1)
    rw [HE.out]
    exact bodyPost_ret (v := .tuple #[.int .i64 n, flt 0 (-1)]) (results_tmp_cell (p := 5) (u := 4) (ty := 30) rfl _ _ _ M (flt 0 (-1)) rfl (ldF _ _ _ _ j2)) rfl ⟨j1, rfl⟩
  | none =>
    rw [he] at hlk
    dsimp only at hlk
    have HE : Hid (ev env (.nam a t) = .error a) := by unfold Hid; rw [ev, he]
    go_enter Tryz.func83, Tryz.ntmps83
    go_upto_region 1 with fail
    rw [← hW, ← hM]
    clear hW hM
    go_upto_region 7 with fail
    go_region
    all_goals
      go_wp2
      obtain ⟨j1, j2⟩ := HF.out.told 5 (a : Int)
      rw [HE.out]
      exact bodyPost_ret (v := .tuple #[.int .i64 0, flt 5 (a : Int)]) (results_tmp_cell (p := 5) (u := 4) (ty := 30) rfl _ _ _ M (flt 5 (a : Int)) rfl (ldF _ _ _ _ j2)) rfl ⟨j1.trans ((Bl.refl _).drew), rfl⟩
end Go.Proofs.YtococaecjecjgaaGreatDoor.ex
namespace Go.Proofs.YtococaecjecjgaaGreatDoor.ex
set_option linter.unusedVariables false
open Go.ChangeShapes Go.WideShapes Go.ChangeAt Go.RowKit
open mem lx

def jf (a b : Int) : List UInt8 → Option Int := fun y => if y = [62] then some (if b < a then 1 else 0) else if y = [60] then some (if a < b then 1 else 0) else if y = [33, 61] then some (if a = b then 0 else 1) else if y = [61, 61] then some (if a = b then 1 else 0) else if y = [124] then some (bits .or .i64 a b) else if y = [38] then some (bits .and .i64 a b) else if y = [42] then some (wrap64 (a * b)) else if y = [45] then some (wrap64 (a - b)) else if y = [43] then some (wrap64 (a + b)) else none
theorem jf_jn {o : List UInt8} (h : 0 < bd o) (a b : Int) : (jf a b o).getD 0 = jn o a b := by
  rcases bd_cases h with rfl | rfl | rfl | rfl | rfl | rfl | rfl | rfl | rfl <;> simp [jf, jn]
theorem r01' (p : Prop) [Decidable p] (x y : Int) (hx : R64 x) (hy : R64 y) : R64 (if p then x else y) := by split <;> assumption
def kv (w w' : World) (t : ByteArray) (n : Int) (b : Nat) : Prop := (Instr.mapUpdate 100 (.map (some b)) (.string t) (.int .i64 n)).run Tryz.prog w = .ok () w'
theorem nine (w : World) (a b : Int) : ∃ w1 w2 w3 w4 w5 w6 w7 w8 w9 : World, kv (w.alloc (.map #[] 0)) w1 ⟨#[43]⟩ (wrap64 (a + b)) w.heap.size ∧ kv w1 w2 ⟨#[45]⟩ (wrap64 (a - b)) w.heap.size ∧ kv w2 w3 ⟨#[42]⟩ (wrap64 (a * b)) w.heap.size ∧ kv w3 w4 ⟨#[38]⟩ (bits .and .i64 a b) w.heap.size ∧ kv w4 w5 ⟨#[124]⟩ (bits .or .i64 a b) w.heap.size ∧ kv w5 w6 ⟨#[61, 61]⟩ (if a = b then 1 else 0) w.heap.size ∧ kv w6 w7 ⟨#[33, 61]⟩ (if a = b then 0 else 1) w.heap.size ∧ kv w7 w8 ⟨#[60]⟩ (if a < b then 1 else 0) w.heap.size ∧ kv w8 w9 ⟨#[62]⟩ (if b < a then 1 else 0) w.heap.size ∧
    Bl w w9 ∧ Om w9 w.heap.size (jf a b) 9 := by
  have h1 : R64 1 := by unfold R64; omega
  have h0 : R64 0 := by unfold R64; omega
  obtain ⟨w1, r1, o1, g1⟩ := (Om.made w).put ⟨#[43]⟩ (wrap64 (a + b)) (by decide) (wrap_r _) (by omega)
  obtain ⟨w2, r2, o2, g2⟩ := o1.put ⟨#[45]⟩ (wrap64 (a - b)) (by decide) (wrap_r _) (by omega)
  obtain ⟨w3, r3, o3, g3⟩ := o2.put ⟨#[42]⟩ (wrap64 (a * b)) (by decide) (wrap_r _) (by omega)
  obtain ⟨w4, r4, o4, g4⟩ := o3.put ⟨#[38]⟩ (bits .and .i64 a b) (by decide) (bits_r _ _ _) (by omega)
  obtain ⟨w5, r5, o5, g5⟩ := o4.put ⟨#[124]⟩ (bits .or .i64 a b) (by decide) (bits_r _ _ _) (by omega)
  obtain ⟨w6, r6, o6, g6⟩ := o5.put ⟨#[61, 61]⟩ (if a = b then 1 else 0) (by decide) (r01' _ _ _ h1 h0) (by omega)
  obtain ⟨w7, r7, o7, g7⟩ := o6.put ⟨#[33, 61]⟩ (if a = b then 0 else 1) (by decide) (r01' _ _ _ h0 h1) (by omega)
  obtain ⟨w8, r8, o8, g8⟩ := o7.put ⟨#[60]⟩ (if a < b then 1 else 0) (by decide) (r01' _ _ _ h1 h0) (by omega)
  obtain ⟨w9, r9, o9, g9⟩ := o8.put ⟨#[62]⟩ (if b < a then 1 else 0) (by decide) (r01' _ _ _ h1 h0) (by omega)
  refine ⟨w1, w2, w3, w4, w5, w6, w7, w8, w9, r1, r2, r3, r4, r5, r6, r7, r8, r9, ?_, o9⟩
  have b0 : Bl w (w.alloc (.map #[] 0)) := (Bl.refl w).alloc _
  have ne : ∀ k, some w.heap.size = some k → w.heap.size ≤ k := fun k hk => by injection hk with hk; omega
  exact bl_grown (bl_grown (bl_grown (bl_grown (bl_grown (bl_grown (bl_grown (bl_grown (bl_grown b0 g1 ne) g2 ne) g3 ne) g4 ne) g5 ne) g6 ne) g7 ne) g8 ne) g9 ne
theorem one_is' (b : Bool) (J : Int) (w : World) (h : (if b = true then (1 : Int) else 0) = J) : Calls Tryz.prog 113 #[.bool b] w fun e w' => e = .returned (.int .i64 J) ∧ w' = w := by
  rw [← h]; exact one_at' b w
set_option maxRecDepth 10000 in
set_option maxHeartbeats 2000000 in
theorem reval_bin (env : List UInt8 → Option Int) (m : Value) (a : Nat) (o : List UInt8) (l r : Ex) (v : Value) (w : World) (hx : IsX w v (.bin a o l r)) (ho : 0 < bd o) (hm : IsM w m env)
    (il : ∀ (v : Value) (w : World), IsX w v l → IsM w m env → Calls Tryz.prog 83 #[v, m] w fun e w' => ReAns (ev env l) w e w')
    (ir : ∀ (v : Value) (w : World), IsX w v r → IsM w m env → Calls Tryz.prog 83 #[v, m] w fun e w' => ReAns (ev env r) w e w') : Calls Tryz.prog 83 #[v, m] w fun e w' => ReAns (ev env (.bin a o l r)) w e w' := by
  obtain ⟨xb, vl, vr, rfl, hc, hxl, hxr⟩ := hx
  have cG := GoodX
  have cO := one_at'
  have HB : Bl w (w.alloc (.cells #[.int .i64 0, .int .i64 0] 30)) := (Bl.refl _).alloc _
  obtain ⟨W, hW⟩ : ∃ W, W = w.alloc (.cells #[.int .i64 0, .int .i64 0] 30) := ⟨_, rfl⟩
  obtain ⟨M, hM⟩ : ∃ M, M = w.heap.size := ⟨_, rfl⟩
  rw [← hW] at HB
  have k0 : W.cell? ⟨xb, 0, none⟩ = some (.int .i64 3) := at_bl HB (by rw [cell_of hc]; rfl)
  have k5 : W.cell? ⟨xb, 5, none⟩ = some vl := at_bl HB (by rw [cell_of hc]; rfl)
  have node : ∀ wx, Bl w wx → wx.cell? ⟨xb, 4, none⟩ = some (.string (tx o)) ∧ wx.cell? ⟨xb, 6, none⟩ = some vr := fun wx hb => ⟨at_bl hb (by rw [cell_of hc]; rfl), at_bl hb (by rw [cell_of hc]; rfl)⟩
  have cl := il vl W (hxl.keep (Kx.bl HB)) (hm.step HB)
  have cr := fun wx (hb : Bl w wx) => ir vr wx (hxr.keep (Kx.bl hb)) (hm.step hb)
  have hev : ev env (.bin a o l r) = match ev env l with
    | .error p => .error p
    | .ok a => match ev env r with
      | .error p => .error p
      | .ok b => .ok (jn o a b) := by
    rw [ev]
    cases ev env l with
    | error p => rfl
    | ok x => cases ev env r <;> rfl
  obtain ⟨vbl, rfl, _⟩ := hxl.ptr
  obtain ⟨vbr, rfl, _⟩ := hxr.ptr
  have hfm : ∀ {w2 : World} {c p : Int}, Bl W w2 → Fl w (w2.alloc (.cells #[.int .i64 c, .int .i64 p] 30)) M w2.heap.size c p := fun hb => by rw [hM]; exact Fl.made (by rw [← hW]; exact hb)
  have HW : Hid (Bl w W) := HB
  clear hm hc il ir hxl hxr HB
  go_enter Tryz.func83, Tryz.ntmps83
  go_upto_region 1 with fail
  rw [← hW, ← hM]
  clear hW hM
  go_wp2_with fail
  refine cl.mono ?_
  rintro e w1 ⟨hb1, h1⟩
  cases hl : ev env l with
  | error p =>
    rw [hl] at h1 hev
    dsimp only at h1 hev
    subst h1
    have HE : Hid (ev env (.bin a o l r) = .error p) := hev
    have hF : Fl w _ M _ 5 (p : Int) := hfm hb1
    obtain ⟨V, hV⟩ : ∃ V, V = w1.alloc (.cells #[.int .i64 5, .int .i64 (p : Int)] 30) := ⟨_, rfl⟩
    obtain ⟨N, hN⟩ : ∃ N, N = w1.heap.size := ⟨_, rfl⟩
    rw [← hV, ← hN] at hF
    have HF : Hid (Fl w V M N 5 (p : Int)) := hF
    obtain ⟨g0, g1, m0, m1, z0, z1, hMs, hNs⟩ := hF.cells
    unfold flt
    clear hev hF hb1 hfm cr node cl
    go_wp2_with fail
    rw [← hV, ← hN]
    clear hV hN
    refine (Is_at 5 (p : Int) V).mono ?_
    rintro e w3 ⟨rfl, hb3⟩
    have HF3 : Hid (Fl w w3 M N 5 (p : Int)) := HF.out.step hb3
    obtain ⟨f0, f1, l0, l1, x0, x1, hMs3, hNs3⟩ := HF3.out.cells
    clear hb3
    have h00 : ((5 : Int) == 0) = false := rfl
    rw [h00]
    go_upto_region 11 with fail
    go_region
    all_goals
      go_wp2
      obtain ⟨j1, j2⟩ := HF3.out.told 5 (p : Int)
      rw [HE.out]
      exact bodyPost_ret (v := .tuple #[.int .i64 0, flt 5 (p : Int)]) (results_tmp_cell (p := 5) (u := 4) (ty := 30) rfl _ _ _ M (flt 5 (p : Int)) rfl (ldF _ _ _ _ j2)) rfl ⟨j1.trans ((Bl.refl _).drew), rfl⟩
  | ok n1 =>
    rw [hl] at h1 hev
    dsimp only at h1 hev
    subst h1
    have hF : Fl w _ M _ 0 (-1) := hfm hb1
    obtain ⟨V, hV⟩ : ∃ V, V = w1.alloc (.cells #[.int .i64 0, .int .i64 (-1)] 30) := ⟨_, rfl⟩
    obtain ⟨N, hN⟩ : ∃ N, N = w1.heap.size := ⟨_, rfl⟩
    rw [← hV, ← hN] at hF
    have HF : Hid (Fl w V M N 0 (-1)) := hF
    obtain ⟨g0, g1, m0, m1, z0, z1, hMs, hNs⟩ := hF.cells
    unfold flt
    clear hF hb1 hfm cl
    go_wp2_with fail
    rw [← hV, ← hN]
    clear hV hN
    refine (Is_at 0 (-1) V).mono ?_
    rintro e w3 ⟨rfl, hb3⟩
    have HF3 : Hid (Fl w w3 M N 0 (-1)) := HF.out.step hb3
    obtain ⟨q4, q6⟩ := node w3 HF3.out.bl
    clear hb3
    have h00 : ((0 : Int) == 0) = true := rfl
    rw [h00]
    clear g0 g1 m0 m1 z0 z1 hMs hNs
    go_wp2_with fail
    refine (cr w3 HF3.out.bl).mono ?_
    rintro e w4 ⟨hb4, h4⟩
    have hF4 : Fl w w4 M N 0 (-1) := HF3.out.step hb4
    obtain ⟨g0, g1, m0, m1, z0, z1, hMs, hNs⟩ := hF4.cells
    have y0 : w4.frozen? ⟨N, 0, none⟩ = false := by simp [World.frozen?, hF4.n]
    have y1 : w4.frozen? ⟨N, 1, none⟩ = false := by simp [World.frozen?, hF4.n]
    have HF4 : Hid (Fl w w4 M N 0 (-1)) := hF4
    clear hF4 hb4 cr
    cases hr : ev env r with
    | error p =>
      rw [hr] at h4 hev
      dsimp only at h4 hev
      subst h4
      have HE : Hid (ev env (.bin a o l r) = .error p) := hev
      unfold flt
      have hF5 := HF4.out.again 5 (p : Int)
      obtain ⟨V, hV⟩ : ∃ V, V = (w4.setCell ⟨N, 0, none⟩ (.int .i64 5)).setCell ⟨N, 1, none⟩ (.int .i64 (p : Int)) := ⟨_, rfl⟩
      rw [← hV] at hF5
      have HF5 : Hid (Fl w V M N 5 (p : Int)) := hF5
      clear hev hF5
      go_wp2_with fail
      rw [← hV]
      clear hV g0 g1 m0 m1 z0 z1 hMs hNs y0 y1 q4 q6
      refine (Is_at 5 (p : Int) V).mono ?_
      rintro e w5 ⟨rfl, hb5⟩
      have HF6 : Hid (Fl w w5 M N 5 (p : Int)) := HF5.out.step hb5
      obtain ⟨f0, f1, l0, l1, x0, x1, hMs3, hNs3⟩ := HF6.out.cells
      clear hb5
      have h05 : ((5 : Int) == 0) = false := rfl
      rw [h05]
      go_upto_region 14 with fail
      go_region
      all_goals
        go_wp2
        obtain ⟨j1, j2⟩ := HF6.out.told 5 (p : Int)
        rw [HE.out]
        exact bodyPost_ret (v := .tuple #[.int .i64 0, flt 5 (p : Int)]) (results_tmp_cell (p := 5) (u := 4) (ty := 30) rfl _ _ _ M (flt 5 (p : Int)) rfl (ldF _ _ _ _ j2)) rfl ⟨j1.trans ((Bl.refl _).drew), rfl⟩
    | ok n2 =>
      rw [hr] at h4 hev
      dsimp only at h4 hev
      subst h4
      have HE : Hid (ev env (.bin a o l r) = .ok (jn o n1 n2)) := hev
      unfold flt
      have hF5 := HF4.out.again 0 (-1)
      obtain ⟨V, hV⟩ : ∃ V, V = (w4.setCell ⟨N, 0, none⟩ (.int .i64 0)).setCell ⟨N, 1, none⟩ (.int .i64 (-1)) := ⟨_, rfl⟩
      rw [← hV] at hF5
      have HF5 : Hid (Fl w V M N 0 (-1)) := hF5
      clear hev hF5
      go_wp2_with fail
      rw [← hV]
      clear hV g0 g1 m0 m1 z0 z1 hMs hNs y0 y1 q4 q6
      refine (Is_at 0 (-1) V).mono ?_
      rintro e w5 ⟨rfl, hb5⟩
      have HF6 : Hid (Fl w w5 M N 0 (-1)) := HF5.out.step hb5
      clear hb5
      have h05 : ((0 : Int) == 0) = true := rfl
      rw [h05]
      have hmm : ∀ w, (Instr.makeMap 100 none).run Tryz.prog w = .ok (.map (some w.heap.size)) (w.alloc (.map #[] 0)) := fun w => by kernel_rfl
      obtain ⟨v1, v2, v3, v4, v5, v6, v7, v8, v9, r1, r2, r3, r4, r5, r6, r7, r8, r9, hb9, o9⟩ := nine w5 n1 n2
      have HO : Hid (Bl w5 v9 ∧ Om v9 w5.heap.size (jf n1 n2) 9) := ⟨hb9, o9⟩
      unfold kv at r1 r2 r3 r4 r5 r6 r7 r8 r9
      clear hb9 o9
      obtain ⟨J6, hJ6⟩ : ∃ J, J = (if n1 = n2 then (1 : Int) else 0) := ⟨_, rfl⟩
      obtain ⟨J7, hJ7⟩ : ∃ J, J = (if n1 = n2 then (0 : Int) else 1) := ⟨_, rfl⟩
      obtain ⟨J8, hJ8⟩ : ∃ J, J = (if n1 < n2 then (1 : Int) else 0) := ⟨_, rfl⟩
      obtain ⟨J9, hJ9⟩ : ∃ J, J = (if n2 < n1 then (1 : Int) else 0) := ⟨_, rfl⟩
      rw [← hJ6] at r6
      rw [← hJ7] at r7
      rw [← hJ8] at r8
      rw [← hJ9] at r9
      have HJ6 : Hid (J6 = (if n1 = n2 then (1 : Int) else 0)) := hJ6
      have HJ7 : Hid (J7 = (if n1 = n2 then (0 : Int) else 1)) := hJ7
      have HJ8 : Hid (J8 = (if n1 < n2 then (1 : Int) else 0)) := hJ8
      have HJ9 : Hid (J9 = (if n2 < n1 then (1 : Int) else 0)) := hJ9
      clear hJ6 hJ7 hJ8 hJ9 cO
      have hlk : ∀ wx, Bl v9 wx → (Instr.lookup 100 (.map (some w5.heap.size)) (.string (tx o)) false).run Tryz.prog wx = .ok (.int .i64 (jn o n1 n2)) wx := fun wx hb => by
        have hg : v9.grownBy wx none := ⟨hb.os, hb.tape, hb.output, hb.size, fun k hk _ => Below.block hb k hk⟩
        have h := (HO.out.2.step hg (by simp)).get (tx o) (by rw [tx_size]; have := bd_len ho; omega)
        rw [show (tx o).data.toList = o from L_tx o, jf_jn ho] at h
        exact h
      have hF9 : Fl w v9 M N 0 (-1) := HF6.out.step HO.out.1
      have HF9 : Hid (Fl w v9 M N 0 (-1)) := hF9
      obtain ⟨J, hJ⟩ : ∃ J, J = jn o n1 n2 := ⟨_, rfl⟩
      rw [← hJ] at hlk HE
      clear hJ hF9
      have s4 := (node v9 HF9.out.bl).1
      have hl9 := hlk v9 (Bl.refl _)
      have hl9d := hlk v9.drew ((Bl.refl _).drew)
      obtain ⟨g0, g1, m0, m1, z0, z1, hMs, hNs⟩ := HF9.out.cells
      clear node
      go_wp2_with fail
      refine (one_is' _ J6 _ (by rw [HJ6.out]; by_cases h : n1 = n2 <;> simp [h])).mono ?_
      rintro e x6 ⟨rfl, rfl⟩
      go_wp2_with fail
      refine (one_is' _ J7 _ (by rw [HJ7.out]; by_cases h : n1 = n2 <;> simp [h])).mono ?_
      rintro e x6 ⟨rfl, rfl⟩
      go_wp2_with fail
      refine (one_is' _ J8 _ (by rw [HJ8.out]; by_cases h : n1 < n2 <;> simp [h])).mono ?_
      rintro e x6 ⟨rfl, rfl⟩
      go_wp2_with fail
      refine (one_is' _ J9 _ (by rw [HJ9.out]; by_cases h : n2 < n1 <;> simp [h])).mono ?_
      rintro e x6 ⟨rfl, rfl⟩
      clear r1 r2 r3 r4 r5 r6 r7 r8
      go_upto_region 16 with fail
      clear r9
      go_region_with (first | (go_at_call 21; refine (cG _).mono ?_; rintro e w6 ⟨rfl, hb6⟩; have HB6 : Hid (Bl v9 w6) := ((Bl.refl v9).drew).trans hb6; obtain ⟨q0, q1, q2, q3, y0, y1, hM6, hN6⟩ := (HF9.out.step HB6.out).cells; have s4' := at_bl HB6.out s4; have hl6 := hlk w6 HB6.out; clear hb6))
      all_goals
        go_wp2
        obtain ⟨j1, j2⟩ := (HF9.out.step HB6.out).told 0 (-1)
        rw [HE.out]
        exact bodyPost_ret (v := .tuple #[.int .i64 J, flt 0 (-1)]) (results_tmp_cell (p := 5) (u := 4) (ty := 30) rfl _ _ _ M (flt 0 (-1)) rfl (ldF _ _ _ _ j2)) rfl ⟨j1, rfl⟩
theorem reval_at (env : List UInt8 → Option Int) (m : Value) (x : Ex) : ∀ (v : Value) (w : World), IsX w v x → Okb x → IsM w m env → Calls Tryz.prog 83 #[v, m] w fun e w' => ReAns (ev env x) w e w' := by
  induction x with
  | num a n => intro v w hx ho hm; exact reval_num env m a n v w hx
  | nam a t => intro v w hx ho hm; exact reval_nam env m a t v w hx ho hm
  | bin a o l r il ir => intro v w hx ho hm; exact reval_bin env m a o l r v w hx ho.1 hm (fun v w h1 h2 => il v w h1 ho.2.1 h2) (fun v w h1 h2 => ir v w h1 ho.2.2 h2)
end Go.Proofs.YtococaecjecjgaaGreatDoor.ex
namespace Go.Proofs.YtococaecjecjgaaGreatDoor.ly
set_option linter.unusedVariables false
open Go.ChangeShapes Go.WideShapes Go.ChangeAt Go.RowKit
open mem lx ex tm num

structure Vw (w : World) (P : Nat) (s : ByteArray) (l : List Ty) (st : St) (b : Er) : Prop where
  at_ : ∃ p n c, w.heap[P]? = some (.cells #[.slice p n c, .string s, .int .i64 (st.1 : Int), .int .i64 (st.2 : Int), .int .i64 b.1, .int .i64 b.2] 56 (0, 0)) ∧ IsTs w (fun g => g < P) (.slice p n c) l
  a : st.1 ≤ s.size
  k : st.2 ≤ 100000
  sz : s.size ≤ 5000
theorem Vw.lt' {w : World} {P : Nat} {s : ByteArray} {l : List Ty} {st : St} {b : Er} (h : Vw w P s l st b) : P < w.heap.size := by obtain ⟨p, n, c, h1, _⟩ := h.at_; exact lt_of_heap h1
theorem Vw.bl {w w' : World} {P : Nat} {s : ByteArray} {l : List Ty} {st : St} {b : Er} (h : Vw w P s l st b) (hb : Bl w w') : Vw w' P s l st b := by
  have hP := h.lt'
  obtain ⟨p, n, c, h1, h2⟩ := h.at_
  exact ⟨⟨p, n, c, by rw [Below.block hb P hP]; exact h1, h2.bl hb⟩, h.a, h.k, h.sz⟩
theorem Vw.kx {w w' : World} {P : Nat} {s : ByteArray} {l : List Ty} {st : St} {b : Er} (h : Vw w P s l st b) (hg : Gp P w w') : Kx w w' := fun k cs hk => by
  obtain ⟨p, n, c, h1, _⟩ := h.at_
  rw [hg.block k (lt_of_heap hk) (fun e => by subst e; rw [hk] at h1; simp at h1)]
  exact hk
theorem Vw.go {w w' : World} {P : Nat} {s : ByteArray} {l : List Ty} {st st' : St} {b b' : Er} (h : Vw w P s l st b) (hg : Gp P w w')
    (hc : ∀ p n c, w.heap[P]? = some (.cells #[.slice p n c, .string s, .int .i64 (st.1 : Int), .int .i64 (st.2 : Int), .int .i64 b.1, .int .i64 b.2] 56 (0, 0)) → w'.heap[P]? = some (.cells #[.slice p n c, .string s, .int .i64 (st'.1 : Int), .int .i64 (st'.2 : Int), .int .i64 b'.1, .int .i64 b'.2] 56 (0, 0)))
    (ha : st'.1 ≤ s.size) (hk : st'.2 ≤ 100000) : Vw w' P s l st' b' := by
  have hP := h.lt'
  have hx := h.kx hg
  obtain ⟨p, n, c, h1, h2⟩ := h.at_
  exact ⟨⟨p, n, c, hc p n c h1, h2.keep (fun g hg' _ => hg.block g (by omega) (by omega)) hg.size hx⟩, ha, hk, h.sz⟩
theorem Vw.cells {w : World} {P : Nat} {s : ByteArray} {l : List Ty} {st : St} {b : Er} (h : Vw w P s l st b) : w.cell? ⟨P, 1, none⟩ = some (.string s) ∧ w.cell? ⟨P, 2, none⟩ = some (.int .i64 (st.1 : Int)) ∧ w.cell? ⟨P, 3, none⟩ = some (.int .i64 (st.2 : Int)) ∧ w.cell? ⟨P, 4, none⟩ = some (.int .i64 b.1) ∧ w.cell? ⟨P, 5, none⟩ = some (.int .i64 b.2) ∧ ∀ j, w.frozen? ⟨P, j, none⟩ = false := by
  obtain ⟨p, n, c, h1, _⟩ := h.at_
  exact ⟨by rw [cell_of h1]; rfl, by rw [cell_of h1]; rfl, by rw [cell_of h1]; rfl, by rw [cell_of h1]; rfl, by rw [cell_of h1]; rfl, fun j => by simp [World.frozen?, h1]⟩
def wrg (b : Er) (c : Int) (a : Nat) : Er := if b.1 = 0 then (c, (a : Int)) else b
theorem Vw.bad {w : World} {P : Nat} {s : ByteArray} {l : List Ty} {st : St} {b : Er} (h : Vw w P s l st b) (x y : Int) : Vw ((w.setCell ⟨P, 4, none⟩ (.int .i64 x)).setCell ⟨P, 5, none⟩ (.int .i64 y)) P s l st (x, y) :=
  h.go ((Gp.set _).trans (Gp.set _)) (fun p n c hc => heap_set (heap_set hc)) h.a h.k
theorem Vw.at2 {w : World} {P : Nat} {s : ByteArray} {l : List Ty} {a k : Nat} {b : Er} (h : Vw w P s l (a, k) b) (x : Nat) (hx : x ≤ s.size) : Vw (w.setCell ⟨P, 2, none⟩ (.int .i64 (x : Int))) P s l (x, k) b :=
  h.go (Gp.set _) (fun p n c hc => heap_set hc) hx h.k
theorem Vw.nd {w : World} {P : Nat} {s : ByteArray} {l : List Ty} {a k : Nat} {b : Er} (h : Vw w P s l (a, k) b) (x : Nat) (hx : x ≤ 100000) : Vw (w.setCell ⟨P, 3, none⟩ (.int .i64 (x : Int))) P s l (a, x) b :=
  h.go (Gp.set _) (fun p n c hc => heap_set hc) h.a hx
set_option maxRecDepth 10000 in
set_option maxHeartbeats 1000000 in
theorem wrong_at (w : World) (P : Nat) (s : ByteArray) (l : List Ty) (st : St) (b : Er) (c : Int) (h : Vw w P s l st b) :
    Calls Tryz.prog 23 #[.pointer (some ⟨P, 0, none⟩), .int .i64 c] w fun e w' => e = .returned (.tuple #[]) ∧ Vw w' P s l st (wrg b c st.1) ∧ Gp P w w' := by
  obtain ⟨c1, c2, c3, c4, c5, cz⟩ := h.cells
  have hP := h.lt'
  obtain ⟨a, k⟩ := st
  obtain ⟨x, y⟩ := b
  dsimp only at c2 c4 c5
  have cI := Is_at x y w
  have HV : Hid (Vw w P s l (a, k) (x, y)) := h
  clear h c1 c3 cz
  go_enter Tryz.func23, Tryz.ntmps23
  go_wp2_with fail
  refine cI.mono ?_
  rintro e w1 ⟨rfl, hb1⟩
  have HV1 : Hid (Vw w1 P s l (a, k) (x, y) ∧ Bl w w1) := ⟨HV.out.bl hb1, hb1⟩
  obtain ⟨d1, d2, d3, d4, d5, dz⟩ := HV1.out.1.cells
  have z4 := dz 4
  have z5 := dz 5
  have hP1 := HV1.out.1.lt'
  dsimp only at d2
  by_cases hx : x = 0
  · subst hx
    have HF : Hid (Vw ((w1.setCell ⟨P, 4, none⟩ (.int .i64 c)).setCell ⟨P, 5, none⟩ (.int .i64 (a : Int))) P s l (a, k) (wrg (0, y) c a)) := HV1.out.1.bad c (a : Int)
    clear cI hb1 c2 c4 c5 d1 d3 dz
    go_wp2
    exact bodyPost_end (results_none rfl _ _ _) rfl ⟨rfl, HF.out, (Gp.bl HV1.out.2).trans ((Gp.set _).trans (Gp.set _))⟩
  · have hx0 : (x == 0) = false := by simpa using hx
    have hw : wrg (x, y) c a = (x, y) := by unfold wrg; rw [if_neg hx]
    clear cI hb1 c2 c4 c5 d1 d2 d3 d4 d5 dz
    go_wp2
    refine bodyPost_end (results_none rfl _ _ _) rfl ⟨rfl, ?_, Gp.bl HV1.out.2⟩
    show Vw w1 P s l (a, k) (wrg (x, y) c a)
    rw [hw]
    exact HV1.out.1
set_option maxRecDepth 10000 in
set_option maxHeartbeats 1000000 in
theorem begin_at (w : World) (P : Nat) (s : ByteArray) (l : List Ty) (a k : Nat) (b : Er) (h : Vw w P s l (a, k) b) (hk : k < 100000) :
    Calls Tryz.prog 45 #[.pointer (some ⟨P, 0, none⟩)] w fun e w' => e = .returned (.tuple #[]) ∧ Vw w' P s l (a, k + 1) (if 400 < k + 1 then wrg b 4 a else b) ∧ Gp P w w' := by
  obtain ⟨c1, c2, c3, c4, c5, cz⟩ := h.cells
  have z3 := cz 3
  have hP := h.lt'
  dsimp only at c3
  have hwr : IntKind.i64.wrap ((k : Int) + 1) = ((k + 1 : Nat) : Int) := by rw [IntKind.wrap_i64]; omega
  have h1 := h.nd (k + 1) (by omega)
  obtain ⟨w1, hw1⟩ : ∃ w1, w1 = w.setCell ⟨P, 3, none⟩ (.int .i64 ((k + 1 : Nat) : Int)) := ⟨_, rfl⟩
  rw [← hw1] at h1
  have hg1 : Gp P w w1 := by rw [hw1]; exact Gp.set _
  have cW := wrong_at w1 P s l (a, k + 1) b 4 h1
  have H1 : Hid (Vw w1 P s l (a, k + 1) b ∧ Gp P w w1) := ⟨h1, hg1⟩
  obtain ⟨d1, d2, d3, d4, d5, dz⟩ := h1.cells
  dsimp only at d3
  have hP1 := h1.lt'
  clear h h1 hg1 c1 c2 c4 c5 cz d1 d2 d4 d5 dz
  obtain ⟨K, hK⟩ : ∃ K, K = k + 1 := ⟨_, rfl⟩
  rw [← hK] at hwr hw1 cW H1 d3 ⊢
  clear hk
  by_cases h4 : 400 < K
  · have h4' : (400 : Int) < (K : Int) := by omega
    rw [if_pos h4]
    clear h4 hK
    go_enter Tryz.func45, Tryz.ntmps45
    go_wp2_with (first | (go_at_call 23; rw [← hw1]; refine cW.mono ?_; rintro e w2 ⟨rfl, hv2, hg2⟩))
    exact bodyPost_end (results_none rfl _ _ _) rfl ⟨rfl, hv2, H1.out.2.trans hg2⟩
  · have h4' : ¬ (400 : Int) < (K : Int) := by omega
    rw [if_neg h4]
    clear h4 hK
    go_enter Tryz.func45, Tryz.ntmps45
    go_wp2
    rw [← hw1]
    exact bodyPost_end (results_none rfl _ _ _) rfl ⟨rfl, H1.out.1, H1.out.2⟩
end Go.Proofs.YtococaecjecjgaaGreatDoor.ly
namespace Go.Proofs.YtococaecjecjgaaGreatDoor.ly
set_option linter.unusedVariables false
open Go.ChangeShapes Go.WideShapes Go.ChangeAt Go.RowKit
open mem lx ex tm num

def VbA (w : World) (P : Nat) (s : ByteArray) (l : List Ty) (a k : Nat) (b : Er) (n : Int) (e : Ending) (w' : World) : Prop :=
  Gp P w w' ∧ (((n < 0 ∨ (s.size : Int) - a < n) ∧ e = .returned (.string ⟨#[]⟩) ∧ Vw w' P s l (a, k) (wrg b 3 a)) ∨ (¬ (n < 0 ∨ (s.size : Int) - a < n) ∧ b.1 ≠ 0 ∧ e = .returned (.string ⟨#[]⟩) ∧ Vw w' P s l (a, k) b)
    ∨ (¬ (n < 0 ∨ (s.size : Int) - a < n) ∧ b.1 = 0 ∧ e = .returned (.string (tx (((L s).drop a).take n.toNat))) ∧ Vw w' P s l (a + n.toNat, k) b))
theorem wrg_ne (b : Er) (a : Nat) : (wrg b 3 a).1 ≠ 0 := by
  unfold wrg
  split
  · show (3 : Int) ≠ 0; decide
  · assumption
set_option maxRecDepth 10000 in
set_option maxHeartbeats 1000000 in
theorem vbytes_at (w : World) (P : Nat) (s : ByteArray) (l : List Ty) (a k : Nat) (b : Er) (n : Int) (h : Vw w P s l (a, k) b) :
    Calls Tryz.prog 46 #[.pointer (some ⟨P, 0, none⟩), .int .i64 n] w (VbA w P s l a k b n) := by
  obtain ⟨c1, c2, c3, c4, c5, cz⟩ := h.cells
  have hP := h.lt'
  have ha := h.a
  have hz := h.sz
  dsimp only at c2 ha
  obtain ⟨x, y⟩ := b
  dsimp only at c4 c5
  have HV : Hid (Vw w P s l (a, k) (x, y) ∧ True) := ⟨h, trivial⟩
  have hw0 : IntKind.i64.wrap ((s.size : Int) - (a : Int)) = (s.size : Int) - (a : Int) := by rw [IntKind.wrap_i64]; omega
  unfold VbA
  dsimp only
  clear h c3 cz
  by_cases hC : n < 0 ∨ (s.size : Int) - a < n
  · have cW := fun wx (hb : Bl w wx) => wrong_at wx P s l (a, k) (x, y) 3 (HV.out.1.bl hb)
    have cI := fun wx => Is_at (wrg (x, y) 3 a).1 (wrg (x, y) 3 a).2 wx
    have hne := wrg_ne (x, y) a
    have hne' : ((wrg (x, y) 3 a).1 == 0) = false := by simpa using hne
    rw [hne'] at cI
    generalize hB : wrg (x, y) 3 a = B at *
    obtain ⟨bx, by'⟩ := B
    have HC : Hid (n < 0 ∨ (s.size : Int) - a < n) := hC
    have mixed : Tryz.prog.follows Departure.mixedOrders = true := by kernel_rfl
    by_cases hn0 : n < 0
    · have hd0 : decide (n < 0) = true := decide_eq_true hn0
      clear hC hne hne'
      go_enter Tryz.func46, Tryz.ntmps46
      go_upto_region 1 with fail
      go_quiet (fail)
      go_wp2_with fail
      refine (cW _ ((Bl.refl _).drewN _)).mono ?_
      rintro e w3 ⟨rfl, hv3, hg3⟩
      obtain ⟨d1, d2, d3, d4, d5, dz⟩ := hv3.cells
      have hP3 := hv3.lt'
      have HF : Hid (Vw w3 P s l (a, k) (bx, by') ∧ Gp P w w3) := ⟨hv3, (Gp.bl ((Bl.refl _).drewN _)).trans hg3⟩
      clear cW hg3 hv3 c1 c2 c4 c5
      dsimp only at d4 d5
      go_wp2_with fail
      refine (cI _).mono ?_
      rintro e w4 ⟨rfl, hb4⟩
      go_wp2
      go_ret
      exact ⟨HF.out.2.trans (Gp.bl hb4), Or.inl ⟨HC.out, rfl, HF.out.1.bl hb4⟩⟩
    · have hd0 : decide (n < 0) = false := decide_eq_false hn0
      have hd1 : decide ((s.size : Int) - (a : Int) < n) = true := decide_eq_true (by omega)
      clear hC hne hne' hn0
      go_enter Tryz.func46, Tryz.ntmps46
      go_upto_region 1 with fail
      go_quiet (fail)
      go_wp2_with fail
      refine (cW _ ((Bl.refl _).drewN _)).mono ?_
      rintro e w3 ⟨rfl, hv3, hg3⟩
      obtain ⟨d1, d2, d3, d4, d5, dz⟩ := hv3.cells
      have hP3 := hv3.lt'
      have HF : Hid (Vw w3 P s l (a, k) (bx, by') ∧ Gp P w w3) := ⟨hv3, (Gp.bl ((Bl.refl _).drewN _)).trans hg3⟩
      clear cW hg3 hv3 c1 c2 c4 c5
      dsimp only at d4 d5
      go_wp2_with fail
      refine (cI _).mono ?_
      rintro e w4 ⟨rfl, hb4⟩
      go_wp2
      go_ret
      exact ⟨HF.out.2.trans (Gp.bl hb4), Or.inl ⟨HC.out, rfl, HF.out.1.bl hb4⟩⟩
  · have hn0 : 0 ≤ n := by omega
    have hd0 : decide (n < 0) = false := decide_eq_false (by omega)
    have hd1 : decide ((s.size : Int) - (a : Int) < n) = false := decide_eq_false (by omega)
    have HC : Hid (¬ (n < 0 ∨ (s.size : Int) - a < n)) := hC
    obtain ⟨N, rfl⟩ : ∃ N : Nat, n = (N : Int) := ⟨n.toNat, by omega⟩
    have hle : a + N ≤ s.size := by omega
    have cI := fun wx => Is_at x y wx
    by_cases hx : x = 0
    · have hx0 : (x == 0) = true := by simpa using hx
      have HX : Hid (x = 0) := hx
      rw [hx0] at cI
      have hwr : IntKind.i64.wrap ((a : Int) + (N : Int)) = (a : Int) + (N : Int) := by rw [IntKind.wrap_i64]; omega
      clear hx hx0 hC hn0
      go_enter Tryz.func46, Tryz.ntmps46
      go_upto_region 1 with fail
      go_quiet (fail)
      go_wp2_with fail
      refine (cI _).mono ?_
      rintro e w1 ⟨rfl, hb1⟩
      have HV1 : Hid (Vw w1 P s l (a, k) (x, y) ∧ Bl w w1) := ⟨HV.out.1.bl (((Bl.refl _).drewN _).trans hb1), ((Bl.refl _).drewN _).trans hb1⟩
      obtain ⟨d1, d2, d3, d4, d5, dz⟩ := HV1.out.1.cells
      have hP1 := HV1.out.1.lt'
      dsimp only at d2
      clear hb1 cI c1 c2 c4 c5 d3 d4 d5 dz
      go_wp2_with fail
      go_quiet (fail)
      have hHV : Hid (Vw (w1.drewN nq) P s l (a, k) (x, y) ∧ Bl w (w1.drewN nq)) := ⟨HV1.out.1.bl ((Bl.refl _).drewN _), HV1.out.2.trans ((Bl.refl _).drewN _)⟩
      clear d1 d2 hP1
      generalize w1.drewN nq = W at hHV ⊢
      obtain ⟨d1, d2, d3, d4, d5, dz⟩ := hHV.out.1.cells
      have z2 := dz 2
      have hP1 := hHV.out.1.lt'
      dsimp only at d2
      have hex : s.extract a (a + N) = tx (((L s).drop a).take N) := by rw [← tx_L (s.extract a (a + N)), L_ext, List.drop_take, Nat.add_sub_cancel_left]
      rw [hex]
      clear d1 d3 d4 d5 dz
      obtain ⟨B, hB⟩ : ∃ B, B = a + N := ⟨_, rfl⟩
      have hwr' : IntKind.i64.wrap ((a : Int) + (N : Int)) = (B : Int) := by rw [hwr]; omega
      have hw2 : (a : Int) + (N : Int) = (B : Int) := by omega
      have hwb : wrap64 (B : Int) = (B : Int) := by unfold wrap64; omega
      have hm := hHV.out.1.at2 B (by omega)
      have HF : Hid (Vw (W.setCell ⟨P, 2, none⟩ (.int .i64 (B : Int))) P s l (a + N, k) (x, y) ∧ Gp P w (W.setCell ⟨P, 2, none⟩ (.int .i64 (B : Int)))) := ⟨by rw [← hB]; exact hm, (Gp.bl hHV.out.2).trans (Gp.set _)⟩
      rw [hw2]
      clear hwr hm hB hle
      go_wp2
      go_ret
      exact ⟨HF.out.2, Or.inr (Or.inr ⟨HC.out, HX.out, rfl, by rw [Int.toNat_natCast]; exact HF.out.1⟩)⟩
    · have hx0 : (x == 0) = false := by simpa using hx
      have HX : Hid (x ≠ 0) := hx
      rw [hx0] at cI
      clear hx hx0 hC hn0
      go_enter Tryz.func46, Tryz.ntmps46
      go_upto_region 1 with fail
      go_quiet (fail)
      go_wp2_with fail
      refine (cI _).mono ?_
      rintro e w1 ⟨rfl, hb1⟩
      have HF : Hid (Bl w w1) := ((Bl.refl _).drewN _).trans hb1
      clear hb1 cI
      go_wp2
      go_ret
      exact ⟨Gp.bl HF.out, Or.inr (Or.inl ⟨HC.out, HX.out, rfl, HV.out.1.bl HF.out⟩)⟩
def VcA (w : World) (P : Nat) (s : ByteArray) (l : List Ty) (st : St) (b : Er) (q : Except Nat Int) (e : Ending) (w' : World) : Prop :=
  Gp P w w' ∧ match q with
  | .ok n => e = .returned (.int .i64 n) ∧ Vw w' P s l st b
  | .error p => e = .returned (.int .i64 0) ∧ Vw w' P s l st (wrg b 5 p)
set_option maxRecDepth 10000 in
set_option maxHeartbeats 1000000 in
theorem vcount_at (w : World) (P : Nat) (s : ByteArray) (l : List Ty) (st : St) (b : Er) (pc : Option Addr) (m : Value) (en : Env) (x : Ex) (h : Vw w P s l st b) (hX : IsX w (.pointer pc) x) (ho : Okb x) (hm : IsM w m en) :
    Calls Tryz.prog 49 #[.pointer (some ⟨P, 0, none⟩), .pointer pc, m] w (VcA w P s l st b (ev en x)) := by
  have cE := reval_at en m x (.pointer pc) w hX ho hm
  obtain ⟨q, hq⟩ : ∃ q, q = ev en x := ⟨_, rfl⟩
  rw [← hq] at cE ⊢
  have HV : Hid (Vw w P s l st b) := h
  have hP := h.lt'
  clear hX ho hm hq h
  obtain ⟨x, y⟩ := b
  go_enter Tryz.func49, Tryz.ntmps49
  go_wp2_with fail
  refine cE.mono ?_
  rintro e w1 ⟨hb1, hans⟩
  have hH1 := HV.out.bl hb1
  obtain ⟨n, c, z, rfl, hpost⟩ : ∃ n c z, e = .returned (.tuple #[.int .i64 n, flt c z]) ∧ ∀ w', Gp P w w' → Vw w' P s l st (if x = 0 ∧ c ≠ 0 then (c, z) else (x, y)) → VcA w P s l st (x, y) q (.returned (.int .i64 n)) w' := by
    cases q with
    | ok n => exact ⟨n, 0, -1, hans, fun w' hg hv => ⟨hg, rfl, by rw [if_neg (by simp)] at hv; exact hv⟩⟩
    | error p => exact ⟨0, 5, (p : Int), hans, fun w' hg hv => ⟨hg, rfl, by
        unfold wrg
        by_cases hx : x = 0
        · rw [if_pos ⟨hx, by decide⟩] at hv; rw [if_pos hx]; exact hv
        · rw [if_neg (fun h => hx h.1)] at hv; rw [if_neg hx]; exact hv⟩⟩
  have HPO : Hid (∀ w', Gp P w w' → Vw w' P s l st (if x = 0 ∧ c ≠ 0 then (c, z) else (x, y)) → VcA w P s l st (x, y) q (.returned (.int .i64 n)) w') := hpost
  unfold flt
  obtain ⟨w2, hw2⟩ : ∃ w2, w2 = w1.alloc (.cells #[.int .i64 c, .int .i64 z] 30) := ⟨_, rfl⟩
  obtain ⟨X, hX⟩ : ∃ X, X = w1.heap.size := ⟨_, rfl⟩
  have hb2 : Bl w1 w2 := by rw [hw2]; exact (Bl.refl _).alloc _
  have hv2 := hH1.bl hb2
  obtain ⟨c1, c2, c3, c4, c5, cz⟩ := hv2.cells
  have hx2 : w2.heap[X]? = some (.cells #[.int .i64 c, .int .i64 z] 30 (0, 0)) := by rw [hw2, hX]; exact new_at _ _
  have f0 : w2.cell? ⟨X, 0, none⟩ = some (.int .i64 c) := by rw [cell_of hx2]; rfl
  have f1 : w2.cell? ⟨X, 1, none⟩ = some (.int .i64 z) := by rw [cell_of hx2]; rfl
  have hP2 := hv2.lt'
  have hX2 := lt_of_heap hx2
  have H2 : Hid (Vw w2 P s l st (x, y) ∧ Bl w w2) := ⟨hv2, hb1.trans hb2⟩
  have cI := Is_at x y
  have cJ := Is_at c z
  dsimp only at c4 c5
  clear cE hH1 hv2 hb2 hb1 hx2 c1 c2 c3 cz hans hpost
  go_upto_region 2 with fail
  rw [← hw2, ← hX]
  clear hw2 hX
  go_wp2_with fail
  refine (cI _).mono ?_
  rintro e w3 ⟨rfl, hb3⟩
  have H3 : Hid (Vw w3 P s l st (x, y) ∧ Bl w w3) := ⟨H2.out.1.bl hb3, H2.out.2.trans hb3⟩
  have f0' := at_bl hb3 f0
  have f1' := at_bl hb3 f1
  have hX3 : X < w3.heap.size := Nat.lt_of_lt_of_le hX2 hb3.size
  clear hb3 cI f0 f1 c4 c5 hX2
  by_cases hx : x = 0
  · have hx0 : (x == 0) = true := by simpa using hx
    rw [hx0]
    clear hx0
    go_wp2_with fail
    refine (cJ _).mono ?_
    rintro e w4 ⟨rfl, hb4⟩
    have H4 : Hid (Vw w4 P s l st (x, y) ∧ Bl w w4) := ⟨H3.out.1.bl hb4, H3.out.2.trans hb4⟩
    have f0 := at_bl hb4 f0'
    have f1 := at_bl hb4 f1'
    have hX4 : X < w4.heap.size := Nat.lt_of_lt_of_le hX3 hb4.size
    clear hb4 cJ f0' f1' hX3
    by_cases hc : c = 0
    · have hc0 : (c == 0) = true := by simpa using hc
      have hi : (if x = 0 ∧ c ≠ 0 then (c, z) else (x, y)) = (x, y) := if_neg (fun h => h.2 hc)
      rw [hc0]
      rw [hi] at HPO
      clear hc hc0 hx hi f0 f1
      go_wp2
      go_ret
      exact HPO.out _ (Gp.bl H4.out.2) H4.out.1
    · have hc0 : (c == 0) = false := by simpa using hc
      have hi : (if x = 0 ∧ c ≠ 0 then (c, z) else (x, y)) = (c, z) := if_pos ⟨hx, hc⟩
      rw [hc0]
      rw [hi] at HPO
      have HF : Hid (Vw ((w4.setCell ⟨P, 4, none⟩ (.int .i64 c)).setCell ⟨P, 5, none⟩ (.int .i64 z)) P s l st (c, z)) := H4.out.1.bad c z
      obtain ⟨d1, d2, d3, d4, d5, dz⟩ := H4.out.1.cells
      have z4 := dz 4
      have z5 := dz 5
      have hP4 := H4.out.1.lt'
      clear hc hc0 hx hi d1 d2 d3 dz
      go_wp2
      go_ret
      exact HPO.out _ ((Gp.bl H4.out.2).trans ((Gp.set _).trans (Gp.set _))) HF.out
  · have hx0 : (x == 0) = false := by simpa using hx
    have hi : (if x = 0 ∧ c ≠ 0 then (c, z) else (x, y)) = (x, y) := if_neg (fun h => hx h.1)
    rw [hx0]
    rw [hi] at HPO
    clear hx hx0 hi f0' f1' cJ
    go_wp2
    go_ret
    exact HPO.out _ (Gp.bl H3.out.2) H3.out.1
end Go.Proofs.YtococaecjecjgaaGreatDoor.ly
