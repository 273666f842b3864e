/- Texts laid together: Er5, Er6, ErL. -/
import Derived.Test.YtfngcphklfjhjaaGreatDoorZ18
import Derived.Deep.RegionHeld3
import Derived.Test.YtfngcphklfjhjaaGreatDoorZ14
/- The document's reader: the expression of a text. -/
namespace Go.Proofs.YtfngcphklfjhjaaGreatDoor.ex
set_option linter.unusedVariables false
open Go.ChangeShapes Go.WideShapes Go.ChangeAt Go.RowKit
open mem lx

theorem upd2 (w : World) (N : Nat) (a b c d : Value) (ty : TypeId) (h : w.heap[N]? = some (.cells #[a, b] ty (0, 0))) : ((w.setCell ⟨N, 0, none⟩ c).setCell ⟨N, 1, none⟩ d).heap[N]? = some (.cells #[c, d] ty (0, 0)) := by
  simp [World.setCell, Array.getElem?_modify, h]
theorem far2 {w : World} {M N j : Nat} {a b v : Value} (hne : M ≠ N) (h : w.cell? ⟨N, j, none⟩ = some v) : ((w.setCell ⟨M, 0, none⟩ a).setCell ⟨M, 1, none⟩ b).cell? ⟨N, j, none⟩ = some v := by
  have e : ((w.setCell ⟨M, 0, none⟩ a).setCell ⟨M, 1, none⟩ b).heap[N]? = w.heap[N]? := by
    simp only [World.setCell, Array.getElem?_modify]
    rw [if_neg hne, if_neg hne]
  unfold World.cell? at h ⊢
  simp only [e]
  exact h
/-- Two variables of a function that tell what is wrong: M is new, N has come to be told. -/
structure Fl (w W : World) (M N : Nat) (c p : Int) : Prop where
  bl : Bl w W
  m : W.heap[M]? = some (.cells #[.int .i64 0, .int .i64 0] 27 (0, 0))
  n : W.heap[N]? = some (.cells #[.int .i64 c, .int .i64 p] 27 (0, 0))
  ge : w.heap.size ≤ M ∧ w.heap.size ≤ N ∧ M ≠ N
theorem Fl.step {w W W' : World} {M N : Nat} {c p : Int} (h : Fl w W M N c p) (hb : Bl W W') : Fl w W' M N c p :=
  ⟨h.bl.trans hb, by rw [Below.block hb M (lt_of_heap h.m)]; exact h.m, by rw [Below.block hb N (lt_of_heap h.n)]; exact h.n, h.ge⟩
theorem Fl.cells {w W : World} {M N : Nat} {c p : Int} (h : Fl w W M N c p) : W.cell? ⟨N, 0, none⟩ = some (.int .i64 c) ∧ W.cell? ⟨N, 1, none⟩ = some (.int .i64 p) ∧ W.cell? ⟨M, 0, none⟩ = some (.int .i64 0) ∧ W.cell? ⟨M, 1, none⟩ = some (.int .i64 0) ∧ W.frozen? ⟨M, 0, none⟩ = false ∧ W.frozen? ⟨M, 1, none⟩ = false ∧ M < W.heap.size ∧ N < W.heap.size :=
  ⟨by rw [cell_of h.n]; rfl, by rw [cell_of h.n]; rfl, by rw [cell_of h.m]; rfl, by rw [cell_of h.m]; rfl, by simp [World.frozen?, h.m], by simp [World.frozen?, h.m], lt_of_heap h.m, lt_of_heap h.n⟩
/-- The beginning of both: a new variable, what is called, a second variable that is told. -/
theorem Fl.made {w w2 : World} {c p : Int} (hb : Bl (w.alloc (.cells #[.int .i64 0, .int .i64 0] 27)) w2) :
    Fl w (w2.alloc (.cells #[.int .i64 c, .int .i64 p] 27)) w.heap.size w2.heap.size c p := by
  have h0 := new_at w (.cells #[.int .i64 0, .int .i64 0] 27)
  have hs : w.heap.size < w2.heap.size := by have := hb.size; simp at this; omega
  have hbl : Bl w2 (w2.alloc (.cells #[.int .i64 c, .int .i64 p] 27)) := (Bl.refl w2).alloc _
  refine ⟨(((Bl.refl w).alloc _).trans hb).trans hbl, ?_, new_at w2 _, Nat.le_refl _, Nat.le_of_lt hs, by omega⟩
  rw [Below.block hbl _ hs, Below.block hb _ (lt_of_heap h0)]
  exact h0
theorem toks {s : List UInt8} {l : List Tk} : ∀ {p : Nat}, Ch s p l → ∀ t ∈ l, t.t ≠ [] ∧ t.t.length ≤ s.length := by
  induction l with
  | nil => intro p h x hx; simp at hx
  | cons t r ih =>
    intro p h x hx
    obtain ⟨_, h2, _, h4, h5⟩ : p ≤ t.a ∧ t.a + t.t.length ≤ s.length ∧ (s.drop t.a).take t.t.length = t.t ∧ IsT t.t ∧ Ch s (t.a + t.t.length) r := h
    rw [List.mem_cons] at hx
    rcases hx with rfl | hx
    · refine ⟨?_, by omega⟩
      rcases h4 with ⟨h, _⟩ | ⟨c, h, _⟩ | h | h
      · exact h
      · rw [h]; simp
      · rw [h]; simp
      · rw [h]; simp
    · exact ih h5 x hx
theorem eyes_end {w w2 W w6 : World} {M N : Nat} {c p : Int} {vq : Option Addr} {vn vk : Nat} {s : ByteArray} (hs : s.size ≤ 3000) (hF : Fl w W M N c p) (h2 : Bl w2 W) (h6 : Bl W w6) (hM : M = w.heap.size)
    (hA : (lx (L s) 0).2 = none → ∃ base, w.heap.size < base ∧ tr.Own w2 base (.slice vq vn vk) (lx (L s) 0).1) :
    Bl w (((w6.setCell ⟨M, 0, none⟩ (.int .i64 c)).setCell ⟨M, 1, none⟩ (.int .i64 p)).alloc (.cells #[.slice vq vn vk, .int .i64 (s.size : Int), .int .i64 0, .int .i64 (-1)] 49)) ∧
    (((w6.setCell ⟨M, 0, none⟩ (.int .i64 c)).setCell ⟨M, 1, none⟩ (.int .i64 p)).alloc (.cells #[.slice vq vn vk, .int .i64 (s.size : Int), .int .i64 0, .int .i64 (-1)] 49)).heap[M]? = some (.cells #[.int .i64 c, .int .i64 p] 27 (0, 0)) ∧
    w.heap.size ≤ w6.heap.size ∧ ((lx (L s) 0).2 = none → Ey (((w6.setCell ⟨M, 0, none⟩ (.int .i64 c)).setCell ⟨M, 1, none⟩ (.int .i64 p)).alloc (.cells #[.slice vq vn vk, .int .i64 (s.size : Int), .int .i64 0, .int .i64 (-1)] 49)) w6.heap.size (lx (L s) 0).1 s.size 0 (-1)) := by
  have hF6 := hF.step h6
  have hset := upd2 w6 M _ _ (.int .i64 c) (.int .i64 p) _ hF6.m
  have hsz : ((w6.setCell ⟨M, 0, none⟩ (.int .i64 c)).setCell ⟨M, 1, none⟩ (.int .i64 p)).heap.size = w6.heap.size := by simp [World.setCell]
  have hgp : Gp M w6 ((w6.setCell ⟨M, 0, none⟩ (.int .i64 c)).setCell ⟨M, 1, none⟩ (.int .i64 p)) := (Gp.set _).trans (Gp.set _)
  have hbs : Bl w ((w6.setCell ⟨M, 0, none⟩ (.int .i64 c)).setCell ⟨M, 1, none⟩ (.int .i64 p)) := Gp.below hF6.bl hgp (by omega)
  generalize ((w6.setCell ⟨M, 0, none⟩ (.int .i64 c)).setCell ⟨M, 1, none⟩ (.int .i64 p)) = X at *
  have hX : Bl X (X.alloc (.cells #[.slice vq vn vk, .int .i64 (s.size : Int), .int .i64 0, .int .i64 (-1)] 49)) := (Bl.refl _).alloc _
  refine ⟨hbs.trans hX, by rw [Below.block hX M (lt_of_heap hset)]; exact hset, hF6.bl.size, fun hn => ?_⟩
  obtain ⟨base, hb, ho⟩ := hA hn
  have ho6 := (ho.step h2).step h6
  have hch := lx_ch (L s) _ 0 (Nat.le_refl _) (Nat.zero_le _)
  have hlen := lx_len (L s) _ 0 (Nat.le_refl _)
  rw [List.drop_zero] at hch
  rw [L_len] at hlen
  have htk := toks hch
  rw [L_len] at htk
  generalize (lx (L s) 0).1 = l at ho6 hlen htk
  obtain ⟨q, k, e, h1, h3⟩ := ho6.view
  injection e with e1 e2 e3
  subst e1
  subst e2
  subst e3
  have hblk := ho6.block
  have hq : ∀ x, vq = some x → x.block < w6.heap.size ∧ x.block ≠ M := by
    intro x hx
    rcases ho6.shape with ⟨h, _⟩ | ⟨g, cap, h, h4, h5, _⟩
    · injection h with h; rw [h] at hx; cases hx
    · injection h with h
      rw [h] at hx
      injection hx with hx
      rw [← hx]
      exact ⟨h5, by show g ≠ M; omega⟩
  have hn9 := new_at X (.cells #[.slice vq l.length vk, .int .i64 (s.size : Int), .int .i64 0, .int .i64 (-1)] 49)
  rw [hsz] at hn9
  refine ⟨⟨vq, vk, hn9, h1, (In.gp h3 hgp hq).step hX, fun x hx => ?_⟩, by omega, fun t ht => ⟨(htk t ht).1, by have := (htk t ht).2; omega⟩⟩
  have := (hq x hx).1
  have hs2 := hX.size
  exact ⟨by omega, by omega⟩
set_option maxRecDepth 10000 in
set_option maxHeartbeats 2000000 in
theorem newEyes_at (s : ByteArray) (w : World) (hs : s.size ≤ 3000) :
    Calls Tryz.prog 14 #[.string s] w fun e w' => Bl w w' ∧ ∃ P, w.heap.size ≤ P ∧ (((lx (L s) 0).2 = none ∧ e = .returned (.tuple #[.pointer (some ⟨P, 0, none⟩), flt 0 (-1)]) ∧ Ey w' P (lx (L s) 0).1 s.size 0 (-1)) ∨
      ∃ p : Nat, (lx (L s) 0).2 = some p ∧ e = .returned (.tuple #[.pointer (some ⟨P, 0, none⟩), flt 3 (p : Int)])) := by
  have cX := fun w => refLex_at s w hs
  go_enter Tryz.func14, Tryz.ntmps14
  go_wp2_with fail
  refine (cX _).mono ?_
  rintro e w2 ⟨hb2, hans⟩
  obtain ⟨vq, vn, vk, c, p, rfl, HA⟩ : ∃ vq vn vk c p, e = .returned (.tuple #[.slice vq vn vk, flt c p]) ∧ Hid ((((lx (L s) 0).2 = none ∧ c = 0 ∧ p = -1) ∨ ∃ k : Nat, (lx (L s) 0).2 = some k ∧ c = 3 ∧ p = (k : Int)) ∧ ((lx (L s) 0).2 = none → ∃ base, w.heap.size < base ∧ tr.Own w2 base (.slice vq vn vk) (lx (L s) 0).1)) := by
    rcases hans with ⟨h1, v, rfl, h2⟩ | ⟨k, h1, rfl⟩
    · obtain ⟨q, k, e, _⟩ := h2.view
      subst e
      exact ⟨_, _, _, _, _, rfl, Or.inl ⟨h1, rfl, rfl⟩, fun _ => ⟨_, by simp, h2⟩⟩
    · exact ⟨_, _, _, _, _, rfl, Or.inr ⟨k, h1, rfl, rfl⟩, fun h => by rw [h1] at h; cases h⟩
  clear hans
  unfold flt
  go_upto_region 2 with fail
  have hF := Fl.made (c := c) (p := p) hb2
  obtain ⟨W, hW⟩ : ∃ W, W = (w2.alloc (.cells #[.int .i64 c, .int .i64 p] 27)) := ⟨_, rfl⟩
  rw [← hW] at hF ⊢
  have HBW : Hid (Bl w2 W) := by rw [hW]; exact (Bl.refl w2).alloc _
  obtain ⟨M, hM⟩ : ∃ M, M = w.heap.size := ⟨_, rfl⟩
  obtain ⟨N, hN⟩ : ∃ N, N = w2.heap.size := ⟨_, rfl⟩
  rw [← hM, ← hN] at hF
  rw [← hM, ← hN]
  have HF : Hid (Fl w W M N c p ∧ M = w.heap.size) := ⟨hF, hM⟩
  obtain ⟨g0, g1, m0, m1, z0, z1, hMs, hNs⟩ := hF.cells
  have hMN := hF.ge.2.2
  clear hW hM hN hF hb2 cX
  have cG : ∀ w, Calls Tryz.prog 19 #[] w fun e w' => e = .returned (.agg #[.int .i64 0, .int .i64 (-1)]) ∧ Bl w w' := Good_at
  go_region_with (go_at_call 19; refine (cG _).mono ?_; rintro e w6 ⟨rfl, hb6⟩; have HB6 : Hid (Bl W w6) := ((Bl.refl W).drew).trans hb6; obtain ⟨q0, q1, q2, q3, y0, y1, hM6, hN6⟩ := (HF.out.1.step HB6.out).cells; clear hb6)
  all_goals
    obtain ⟨k1, k2, k3, k4⟩ := eyes_end (s := s) (vq := vq) (vn := vn) (vk := vk) hs HF.out.1 HBW.out HB6.out HF.out.2 HA.out.2
    have HK : Hid _ := And.intro k1 (And.intro k2 (And.intro k3 k4))
    clear k1 k2 k3 k4 q0 q1 q2 q3 y0 y1 g0 g1 m0 m1 z0 z1
    go_wp2
    refine bodyPost_ret (v := .tuple #[.pointer (some ⟨w6.heap.size, 0, none⟩), flt c p]) (results_tmp_cell (p := 3) (u := 2) (ty := 27) rfl _ _ _ M (flt c p) rfl (ldF _ _ _ _ HK.out.2.1)) rfl ⟨HK.out.1, _, HK.out.2.2.1, ?_⟩
    rcases HA.out.1 with ⟨j1, j2, j3⟩ | ⟨k, j1, j2, j3⟩
    · exact Or.inl ⟨j1, by rw [j2, j3], HK.out.2.2.2 j1⟩
    · exact Or.inr ⟨k, j1, by rw [j2, j3]⟩
end Go.Proofs.YtfngcphklfjhjaaGreatDoor.ex
/- The document's expression of a text. -/
namespace Go.Proofs.YtfngcphklfjhjaaGreatDoor.ex
set_option linter.unusedVariables false
open Go.ChangeShapes Go.WideShapes Go.ChangeAt Go.RowKit
open mem lx

/-- What the document answers for a text. -/
def RPAns (s : ByteArray) (w : World) (e : Ending) (w' : World) : Prop :=
  Bl w w' ∧ match prs (L s) with
  | .ok x => ∃ v, e = .returned (.tuple #[v, flt 0 (-1)]) ∧ IsX w' v x
  | .error (c, p) => e = .returned (.tuple #[.pointer none, flt c (p : Int)]) ∧ c ≠ 0
theorem Ey.cell0 {w : World} {P : Nat} {ts : List Tk} {en : Nat} {c p : Int} (h : Ey w P ts en c p) : ∃ q k, w.cell? ⟨P, 0, none⟩ = some (.slice q ts.length k) := by
  obtain ⟨q, k, h1, _⟩ := h.ex
  exact ⟨q, k, by rw [cell_of h1]; rfl⟩
/-- The variable, told. -/
theorem Fl.told {w W : World} {M N : Nat} {c p : Int} (h : Fl w W M N c p) (a b : Int) : Bl w ((W.setCell ⟨M, 0, none⟩ (.int .i64 a)).setCell ⟨M, 1, none⟩ (.int .i64 b)) ∧ ((W.setCell ⟨M, 0, none⟩ (.int .i64 a)).setCell ⟨M, 1, none⟩ (.int .i64 b)).heap[M]? = some (.cells #[.int .i64 a, .int .i64 b] 27 (0, 0)) :=
  ⟨Gp.below h.bl ((Gp.set _).trans (Gp.set _)) h.ge.1, upd2 W M _ _ _ _ _ h.m⟩
theorem Fl.gp {w W W' : World} {M N P : Nat} {c p : Int} (h : Fl w W M N c p) (hg : Gp P W W') (hM : M ≠ P) (hN : N ≠ P) (hP : w.heap.size ≤ P) : Fl w W' M N c p :=
  ⟨Gp.below h.bl hg hP, by rw [hg.block M (lt_of_heap h.m) hM]; exact h.m, by rw [hg.block N (lt_of_heap h.n) hN]; exact h.n, h.ge⟩
theorem Fl.kx {w W : World} {M N : Nat} {c p : Int} (h : Fl w W M N c p) (a b : Int) : Kx W ((W.setCell ⟨M, 0, none⟩ (.int .i64 a)).setCell ⟨M, 1, none⟩ (.int .i64 b)) := fun k cs hk => by
  have hg : Gp M W ((W.setCell ⟨M, 0, none⟩ (.int .i64 a)).setCell ⟨M, 1, none⟩ (.int .i64 b)) := (Gp.set _).trans (Gp.set _)
  rw [hg.block k (lt_of_heap hk) (fun e => by rw [e, h.m] at hk; simp at hk)]
  exact hk
theorem Is_at (c p : Int) (w : World) : Calls Tryz.prog 9 #[.agg #[.int .i64 c, .int .i64 p]] w fun e w' => e = .returned (.bool (c == 0)) ∧ Bl w w' := by
  go_enter Tryz.func9, Tryz.ntmps9
  go_wp2
  go_ret
  exact ⟨rfl, (Bl.refl _).alloc _⟩
set_option maxRecDepth 10000 in
set_option maxHeartbeats 2000000 in
theorem RParse_at (s : ByteArray) (w : World) (hs : s.size ≤ 3000) :
    Calls Tryz.prog 5 #[.string s] w fun e w' => RPAns s w e w' := by
  have cX := fun w => newEyes_at s w hs
  go_enter Tryz.func5, Tryz.ntmps5
  go_wp2_with fail
  refine (cX _).mono ?_
  rintro e w2 ⟨hb2, P, hP, ⟨h1, rfl, hE⟩ | ⟨p, h1, rfl⟩⟩
  · have hF := Fl.made (c := 0) (p := -1) hb2
    have hPs := hE.lt
    have hPM : w.heap.size < P := by simp at hP; omega
    obtain ⟨W, hW⟩ : ∃ W, W = w2.alloc (.cells #[.int .i64 0, .int .i64 (-1)] 27) := ⟨_, rfl⟩
    have hbW : Bl w2 W := by rw [hW]; exact (Bl.refl _).alloc _
    obtain ⟨M, hM⟩ : ∃ M, M = w.heap.size := ⟨_, rfl⟩
    obtain ⟨N, hN⟩ : ∃ N, N = w2.heap.size := ⟨_, rfl⟩
    have hMP : M ≠ P := by omega
    have hNP : N ≠ P := by omega
    have hx : ∃ q, row nb (L s).length (10 * (lx (L s) 0).1.length + 10) 1 0 (lx (L s) 0).1 = some q := by
      cases h : row nb (L s).length (10 * (lx (L s) 0).1.length + 10) 1 0 (lx (L s) 0).1 with
      | none => exact absurd h ((some_all _).1 1 0 _ (by omega) (by omega))
      | some q => exact ⟨q, rfl⟩
    obtain ⟨q, hq⟩ := hx
    obtain ⟨g, hg⟩ := (both_ways _).1 1 0 _ q (by omega) (by omega) hq
    have hprs : prs (L s) = whole q := prs_of (by rw [← h1]) hq
    rw [L_len] at hg
    have HP : Hid (prs (L s) = whole q) := hprs
    generalize (lx (L s) 0).1 = ts at hE hg
    have hEW := hE.step hbW
    have cE := fun wx (h : Ey wx P ts s.size 0 (-1)) => expr_at P s.size g 1 0 ts q wx (by omega) (by omega) (by omega) h hg
    rw [← hW, ← hM, ← hN] at hF
    have HF : Hid (Fl w W M N 0 (-1) ∧ Ey W P ts s.size 0 (-1) ∧ w.heap.size ≤ P ∧ M ≠ P ∧ N ≠ P) := ⟨hF, hEW, by omega, hMP, hNP⟩
    unfold flt
    obtain ⟨g0, g1, m0, m1, z0, z1, hMs, hNs⟩ := hF.cells
    clear hE hEW hF hg hprs hq h1 hP hPs hPM hMP hNP cX hb2 hbW
    go_wp2_with fail
    rw [← hW, ← hM, ← hN]
    clear hW hM hN
    refine (Is_at 0 (-1) W).mono ?_
    rintro e w3 ⟨rfl, hb3⟩
    have HF3 : Hid (Fl w w3 M N 0 (-1) ∧ Ey w3 P ts s.size 0 (-1)) := ⟨HF.out.1.step hb3, HF.out.2.1.step hb3⟩
    clear hb3 g0 g1 m0 m1 z0 z1 hMs hNs
    have h00 : ((0 : Int) == 0) = true := rfl
    rw [h00]
    go_wp2_with fail
    refine (cE _ HF3.out.2).mono ?_
    rintro e w4 ⟨hg4, hans⟩
    have HF4 : Hid (Fl w w4 M N 0 (-1)) := HF3.out.1.gp hg4 HF.out.2.2.2.1 HF.out.2.2.2.2 HF.out.2.2.1
    clear hg4 cE
    cases q with
    | error cp =>
      obtain ⟨c, p⟩ := cp
      obtain ⟨o, ts', rfl, hE4, hl4, hc⟩ := hans
      have HE4 : Hid (Ey w4 P ts' s.size c (p : Int)) := hE4
      obtain ⟨sq, sk, c0⟩ := hE4.cell0
      have hl := hE4.len
      obtain ⟨n, hn⟩ : ∃ n, n = ts'.length := ⟨_, rfl⟩
      rw [← hn] at c0 hl
      have cS := fun wx (hb : Bl w4 wx) => stop_at wx P ts' s.size c p (HE4.out.step hb)
      have hc' : (c == 0) = false := by rw [beq_eq_false_iff_ne]; exact hc
      rw [hc', show (!false) = true from rfl] at cS
      have cW := fun a b => wrong_no w4 P ts' s.size c p a b HE4.out hc
      have cP := place_at w4 P ts' s.size c p HE4.out
      obtain ⟨a, ha⟩ : ∃ a, a = (hd s.size ts').a := ⟨_, rfl⟩
      rw [← ha] at cP
      have HC : Hid (c ≠ 0) := hc
      clear hE4 hl4 hn hc' ha hc
      by_cases h0 : 0 < n
      · have h0' : (0 : Int) < (n : Int) := by omega
        go_wp2_with fail
        refine cP.mono ?_
        rintro e w5 ⟨rfl, hw5⟩
        obtain rfl := hw5.symm
        go_wp2_with fail
        refine (cW _ _).mono ?_
        rintro e w5 ⟨rfl, hb5⟩
        go_wp2_with fail
        refine (cS _ hb5).mono ?_
        rintro e w6 ⟨rfl, hb6⟩
        have HF6 : Hid (Fl w w6 M N 0 (-1) ∧ Ey w6 P ts' s.size c (p : Int)) := ⟨HF4.out.step (hb5.trans hb6), HE4.out.step (hb5.trans hb6)⟩
        obtain ⟨g0, g1, m0, m1, z0, z1, hMs, hNs⟩ := HF6.out.1.cells
        obtain ⟨_, e2, e3, eF, _, _⟩ := HF6.out.2.cells
        have hPs := HF6.out.2.lt
        clear hb5 hb6 cS cW cP c0
        go_upto_region 8 with fail
        go_region
        go_wp2
        obtain ⟨k1, k2⟩ := HF6.out.1.told c p
        exact bodyPost_ret (v := .tuple #[.pointer none, flt c p]) (results_tmp_cell (p := 3) (u := 2) (ty := 27) rfl _ _ _ M (flt c p) rfl (ldF _ _ _ _ k2)) rfl ⟨k1.trans ((Bl.refl _).drew), by rw [HP.out]; exact ⟨rfl, HC.out⟩⟩
      · have h0' : ¬ (0 : Int) < (n : Int) := by omega
        go_wp2_with fail
        refine (cS _ (Bl.refl _)).mono ?_
        rintro e w6 ⟨rfl, hb6⟩
        have HF6 : Hid (Fl w w6 M N 0 (-1) ∧ Ey w6 P ts' s.size c (p : Int)) := ⟨HF4.out.step hb6, HE4.out.step hb6⟩
        obtain ⟨g0, g1, m0, m1, z0, z1, hMs, hNs⟩ := HF6.out.1.cells
        obtain ⟨_, e2, e3, eF, _, _⟩ := HF6.out.2.cells
        have hPs := HF6.out.2.lt
        clear hb6 cS cW cP c0
        go_upto_region 8 with fail
        go_region
        go_wp2
        obtain ⟨k1, k2⟩ := HF6.out.1.told c p
        exact bodyPost_ret (v := .tuple #[.pointer none, flt c p]) (results_tmp_cell (p := 3) (u := 2) (ty := 27) rfl _ _ _ M (flt c p) rfl (ldF _ _ _ _ k2)) rfl ⟨k1.trans ((Bl.refl _).drew), by rw [HP.out]; exact ⟨rfl, HC.out⟩⟩
    | ok xr =>
      obtain ⟨x, r⟩ := xr
      obtain ⟨v, rfl, hx4, hE4, _⟩ := hans
      obtain ⟨vb, rfl, _⟩ := hx4.ptr
      have HE4 : Hid (Ey w4 P r s.size 0 (-1) ∧ IsX w4 (.pointer (some ⟨vb, 0, none⟩)) x) := ⟨hE4, hx4⟩
      obtain ⟨sq, sk, c0⟩ := hE4.cell0
      have hl := hE4.len
      cases r with
      | nil =>
        rw [show ([] : List Tk).length = 0 from rfl] at c0 hl
        have cS := stop_at w4 P [] s.size 0 (-1) hE4
        rw [show (!((0 : Int) == 0)) = false from rfl] at cS
        have cG : ∀ w, Calls Tryz.prog 19 #[] w fun e w' => e = .returned (.agg #[.int .i64 0, .int .i64 (-1)]) ∧ Bl w w' := Good_at
        clear hE4 hx4
        go_wp2_with fail
        refine cS.mono ?_
        rintro e w5 ⟨rfl, hb5⟩
        go_wp2_with fail
        refine (cG _).mono ?_
        rintro e w6 ⟨rfl, hb6⟩
        have HF6 : Hid (Fl w w6 M N 0 (-1) ∧ IsX w6 (.pointer (some ⟨vb, 0, none⟩)) x) := ⟨HF4.out.step (hb5.trans hb6), HE4.out.2.keep (Kx.bl (hb5.trans hb6))⟩
        obtain ⟨g0, g1, m0, m1, z0, z1, hMs, hNs⟩ := HF6.out.1.cells
        clear hb5 hb6 cS cG c0
        go_wp2
        obtain ⟨k1, k2⟩ := HF6.out.1.told 0 (-1)
        exact bodyPost_ret (v := .tuple #[.pointer (some ⟨vb, 0, none⟩), flt 0 (-1)]) (results_tmp_cell (p := 3) (u := 2) (ty := 27) rfl _ _ _ M (flt 0 (-1)) rfl (ldF _ _ _ _ k2)) rfl ⟨k1, by rw [HP.out]; exact ⟨_, rfl, HF6.out.2.keep (HF6.out.1.kx 0 (-1))⟩⟩
      | cons t r =>
        obtain ⟨n, hn⟩ : ∃ n, n = (t :: r).length := ⟨_, rfl⟩
        have hn0 : 0 < n := by rw [hn]; simp
        rw [← hn] at c0 hl
        clear hn
        have h0' : (0 : Int) < (n : Int) := by omega
        have cP := place_at w4 P (t :: r) s.size 0 (-1) hE4
        rw [show (hd s.size (t :: r)).a = t.a from rfl] at cP
        have cW := fun a b => wrong_yes w4 P (t :: r) s.size (-1) a b hE4
        clear hE4 hx4
        go_wp2_with fail
        refine cP.mono ?_
        rintro e w5 ⟨rfl, hw5⟩
        obtain rfl := hw5.symm
        go_wp2_with fail
        refine (cW _ _).mono ?_
        rintro e w5 ⟨rfl, hE5, hg5⟩
        have HF5 : Hid (Fl w w5 M N 0 (-1) ∧ Ey w5 P (t :: r) s.size 3 (t.a : Int)) := ⟨HF4.out.gp hg5 HF.out.2.2.2.1 HF.out.2.2.2.2 HF.out.2.2.1, hE5⟩
        have cS := stop_at w5 P (t :: r) s.size 3 (t.a : Int) hE5
        rw [show (!((3 : Int) == 0)) = true from rfl] at cS
        clear hE5 hg5 cW cP c0
        go_wp2_with fail
        refine cS.mono ?_
        rintro e w6 ⟨rfl, hb6⟩
        have HF6 : Hid (Fl w w6 M N 0 (-1) ∧ Ey w6 P (t :: r) s.size 3 (t.a : Int)) := ⟨HF5.out.1.step hb6, HF5.out.2.step hb6⟩
        obtain ⟨g0, g1, m0, m1, z0, z1, hMs, hNs⟩ := HF6.out.1.cells
        obtain ⟨_, e2, e3, eF, _, _⟩ := HF6.out.2.cells
        have hPs := HF6.out.2.lt
        clear hb6 cS
        go_upto_region 8 with fail
        go_region
        go_wp2
        obtain ⟨k1, k2⟩ := HF6.out.1.told 3 (t.a : Int)
        exact bodyPost_ret (v := .tuple #[.pointer none, flt 3 (t.a : Int)]) (results_tmp_cell (p := 3) (u := 2) (ty := 27) rfl _ _ _ M (flt 3 (t.a : Int)) rfl (ldF _ _ _ _ k2)) rfl ⟨k1.trans ((Bl.refl _).drew), by rw [HP.out]; exact ⟨rfl, by decide⟩⟩
  · have hF := Fl.made (c := 3) (p := (p : Int)) hb2
    have HP : Hid (prs (L s) = .error (3, p)) := by unfold prs; rw [h1]; rfl
    obtain ⟨W, hW⟩ : ∃ W, W = w2.alloc (.cells #[.int .i64 3, .int .i64 (p : Int)] 27) := ⟨_, rfl⟩
    obtain ⟨M, hM⟩ : ∃ M, M = w.heap.size := ⟨_, rfl⟩
    obtain ⟨N, hN⟩ : ∃ N, N = w2.heap.size := ⟨_, rfl⟩
    rw [← hW, ← hM, ← hN] at hF
    have HF : Hid (Fl w W M N 3 (p : Int)) := hF
    unfold flt
    clear hF h1 hP cX hb2
    go_wp2_with fail
    rw [← hW, ← hM, ← hN]
    clear hW hM hN
    refine (Is_at 3 (p : Int) W).mono ?_
    rintro e w3 ⟨rfl, hb3⟩
    have HF3 : Hid (Fl w w3 M N 3 (p : Int)) := HF.out.step hb3
    obtain ⟨g0, g1, m0, m1, z0, z1, hMs, hNs⟩ := HF3.out.cells
    clear hb3
    have h00 : ((3 : Int) == 0) = false := rfl
    rw [h00]
    go_upto_region 3 with fail
    go_region
    go_wp2
    obtain ⟨k1, k2⟩ := HF3.out.told 3 (p : Int)
    exact bodyPost_ret (v := .tuple #[.pointer none, flt 3 (p : Int)]) (results_tmp_cell (p := 3) (u := 2) (ty := 27) rfl _ _ _ M (flt 3 (p : Int)) rfl (ldF _ _ _ _ k2)) rfl ⟨k1.trans ((Bl.refl _).drew), by rw [HP.out]; exact ⟨rfl, by decide⟩⟩
end Go.Proofs.YtfngcphklfjhjaaGreatDoor.ex
/- The document's reader at a text that is too long. -/
namespace Go.Proofs.YtfngcphklfjhjaaGreatDoor.ex
set_option linter.unusedVariables false
open Go.ChangeShapes Go.WideShapes Go.ChangeAt Go.RowKit
open mem lx

theorem eyes_far {w W w6 : World} {M N : Nat} {c p : Int} {o : Obj} (hF : Fl w W M N c p) (h6 : Bl W w6) (hM : M = w.heap.size) :
    Bl w (((w6.setCell ⟨M, 0, none⟩ (.int .i64 c)).setCell ⟨M, 1, none⟩ (.int .i64 p)).alloc o) ∧
    (((w6.setCell ⟨M, 0, none⟩ (.int .i64 c)).setCell ⟨M, 1, none⟩ (.int .i64 p)).alloc o).heap[M]? = some (.cells #[.int .i64 c, .int .i64 p] 27 (0, 0)) ∧
    w.heap.size ≤ w6.heap.size := by
  have hF6 := hF.step h6
  have hset := upd2 w6 M _ _ (.int .i64 c) (.int .i64 p) _ hF6.m
  have hgp : Gp M w6 ((w6.setCell ⟨M, 0, none⟩ (.int .i64 c)).setCell ⟨M, 1, none⟩ (.int .i64 p)) := (Gp.set _).trans (Gp.set _)
  have hbs : Bl w ((w6.setCell ⟨M, 0, none⟩ (.int .i64 c)).setCell ⟨M, 1, none⟩ (.int .i64 p)) := Gp.below hF6.bl hgp (by omega)
  generalize ((w6.setCell ⟨M, 0, none⟩ (.int .i64 c)).setCell ⟨M, 1, none⟩ (.int .i64 p)) = X at *
  have hX : Bl X (X.alloc o) := (Bl.refl _).alloc _
  exact ⟨hbs.trans hX, by rw [Below.block hX M (lt_of_heap hset)]; exact hset, hF6.bl.size⟩
set_option maxRecDepth 10000 in
set_option maxHeartbeats 2000000 in
theorem newEyes_long (s : ByteArray) (w : World) (hs : 3000 < s.size) :
    Calls Tryz.prog 14 #[.string s] w fun e w' => Bl w w' ∧ ∃ P, w.heap.size ≤ P ∧ e = .returned (.tuple #[.pointer (some ⟨P, 0, none⟩), flt 4 (-1)]) := by
  have cX := fun w => refLex_long s w hs
  go_enter Tryz.func14, Tryz.ntmps14
  go_wp2_with fail
  refine (cX _).mono ?_
  rintro e w2 ⟨rfl, hb2⟩
  unfold flt
  go_upto_region 2 with fail
  have hF := Fl.made (c := 4) (p := -1) hb2
  obtain ⟨W, hW⟩ : ∃ W, W = (w2.alloc (.cells #[.int .i64 4, .int .i64 (-1)] 27)) := ⟨_, rfl⟩
  rw [← hW] at hF ⊢
  obtain ⟨M, hM⟩ : ∃ M, M = w.heap.size := ⟨_, rfl⟩
  obtain ⟨N, hN⟩ : ∃ N, N = w2.heap.size := ⟨_, rfl⟩
  rw [← hM, ← hN] at hF
  rw [← hM, ← hN]
  have HF : Hid (Fl w W M N 4 (-1) ∧ M = w.heap.size) := ⟨hF, hM⟩
  obtain ⟨g0, g1, m0, m1, z0, z1, hMs, hNs⟩ := hF.cells
  have hMN := hF.ge.2.2
  clear hW hM hN hF hb2 cX
  have cG : ∀ w, Calls Tryz.prog 19 #[] w fun e w' => e = .returned (.agg #[.int .i64 0, .int .i64 (-1)]) ∧ Bl w w' := Good_at
  go_region_with (go_at_call 19; refine (cG _).mono ?_; rintro e w6 ⟨rfl, hb6⟩; have HB6 : Hid (Bl W w6) := ((Bl.refl W).drew).trans hb6; obtain ⟨q0, q1, q2, q3, y0, y1, hM6, hN6⟩ := (HF.out.1.step HB6.out).cells; clear hb6)
  all_goals
    have HK : Hid _ := eyes_far (o := .cells #[.slice none 0 0, .int .i64 (s.size : Int), .int .i64 0, .int .i64 (-1)] 49) HF.out.1 HB6.out HF.out.2
    clear q0 q1 q2 q3 y0 y1 g0 g1 m0 m1 z0 z1
    go_wp2
    exact bodyPost_ret (v := .tuple #[.pointer (some ⟨w6.heap.size, 0, none⟩), flt 4 (-1)]) (results_tmp_cell (p := 3) (u := 2) (ty := 27) rfl _ _ _ M (flt 4 (-1)) rfl (ldF _ _ _ _ HK.out.2.1)) rfl ⟨HK.out.1, _, HK.out.2.2, rfl⟩
set_option maxRecDepth 10000 in
set_option maxHeartbeats 2000000 in
theorem RParse_long (s : ByteArray) (w : World) (hs : 3000 < s.size) :
    Calls Tryz.prog 5 #[.string s] w fun e w' => e = .returned (.tuple #[.pointer none, flt 4 (-1)]) ∧ Bl w w' := by
  have cX := fun w => newEyes_long s w hs
  go_enter Tryz.func5, Tryz.ntmps5
  go_wp2_with fail
  refine (cX _).mono ?_
  rintro e w2 ⟨hb2, P, hP, rfl⟩
  have hF := Fl.made (c := 4) (p := -1) hb2
  obtain ⟨W, hW⟩ : ∃ W, W = w2.alloc (.cells #[.int .i64 4, .int .i64 (-1)] 27) := ⟨_, rfl⟩
  obtain ⟨M, hM⟩ : ∃ M, M = w.heap.size := ⟨_, rfl⟩
  obtain ⟨N, hN⟩ : ∃ N, N = w2.heap.size := ⟨_, rfl⟩
  rw [← hW, ← hM, ← hN] at hF
  have HF : Hid (Fl w W M N 4 (-1)) := hF
  unfold flt
  clear hF hP cX hb2
  go_wp2_with fail
  rw [← hW, ← hM, ← hN]
  clear hW hM hN
  refine (Is_at 4 (-1) W).mono ?_
  rintro e w3 ⟨rfl, hb3⟩
  have HF3 : Hid (Fl w w3 M N 4 (-1)) := HF.out.step hb3
  obtain ⟨g0, g1, m0, m1, z0, z1, hMs, hNs⟩ := HF3.out.cells
  clear hb3
  have h00 : ((4 : Int) == 0) = false := rfl
  rw [h00]
  go_upto_region 3 with fail
  go_region
  go_wp2
  obtain ⟨k1, k2⟩ := HF3.out.told 4 (-1)
  exact bodyPost_ret (v := .tuple #[.pointer none, flt 4 (-1)]) (results_tmp_cell (p := 3) (u := 2) (ty := 27) rfl _ _ _ M (flt 4 (-1)) rfl (ldF _ _ _ _ k2)) rfl ⟨rfl, k1.trans ((Bl.refl _).drew)⟩
end Go.Proofs.YtfngcphklfjhjaaGreatDoor.ex
