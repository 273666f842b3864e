/- Texts laid together: Er5, Er6, TrP, Tr1, Tr2. -/
import Derived.Test.YtpanodaecjlgaaaGreatDoorXTmplReads21
import Derived.Test.YtpanodaecjlgaaaGreatDoorXTmplReads22
import Derived.Deep.RegionHeld3
import Derived.Test.YtpanodaecjlgaaaGreatDoorXTmplReads9
import Derived.Lib.IndexMore
import Derived.Test.YtpanodaecjlgaaaGreatDoorXTmplReads13
import Derived.Test.YtpanodaecjlgaaaGreatDoorXTmplReads19
import Derived.Shelf.Vars
import Derived.Shelf.Strings.Search3
/- The document's reader: the expression of a text. -/
namespace Go.Proofs.YtpanodaecjlgaaaGreatDoor.ex
set_option linter.unusedVariables false
open Go.ChangeShapes Go.WideShapes Go.ChangeAt Go.RowKit
open mem lx

theorem upd2 (w : World) (N : Nat) (a b c d : Value) (ty : TypeId) (h : w.heap[N]? = some (.cells #[a, b] ty (0, 0))) : ((w.setCell ⟨N, 0, none⟩ c).setCell ⟨N, 1, none⟩ d).heap[N]? = some (.cells #[c, d] ty (0, 0)) := by
  simp [World.setCell, Array.getElem?_modify, h]
/-- Two variables of a function that tell what is wrong: M is new, N has come to be told. -/
structure Fl (w W : World) (M N : Nat) (c p : Int) : Prop where
  bl : Bl w W
  m : W.heap[M]? = some (.cells #[.int .i64 0, .int .i64 0] 26 (0, 0))
  n : W.heap[N]? = some (.cells #[.int .i64 c, .int .i64 p] 26 (0, 0))
  ge : w.heap.size ≤ M ∧ w.heap.size ≤ N ∧ M ≠ N
theorem Fl.step {w W W' : World} {M N : Nat} {c p : Int} (h : Fl w W M N c p) (hb : Bl W W') : Fl w W' M N c p :=
  ⟨h.bl.trans hb, by rw [Below.block hb M (lt_of_heap h.m)]; exact h.m, by rw [Below.block hb N (lt_of_heap h.n)]; exact h.n, h.ge⟩
theorem Fl.cells {w W : World} {M N : Nat} {c p : Int} (h : Fl w W M N c p) : W.cell? ⟨N, 0, none⟩ = some (.int .i64 c) ∧ W.cell? ⟨N, 1, none⟩ = some (.int .i64 p) ∧ W.cell? ⟨M, 0, none⟩ = some (.int .i64 0) ∧ W.cell? ⟨M, 1, none⟩ = some (.int .i64 0) ∧ W.frozen? ⟨M, 0, none⟩ = false ∧ W.frozen? ⟨M, 1, none⟩ = false ∧ M < W.heap.size ∧ N < W.heap.size :=
  ⟨by rw [cell_of h.n]; rfl, by rw [cell_of h.n]; rfl, by rw [cell_of h.m]; rfl, by rw [cell_of h.m]; rfl, by simp [World.frozen?, h.m], by simp [World.frozen?, h.m], lt_of_heap h.m, lt_of_heap h.n⟩
/-- The beginning of both: a new variable, what is called, a second variable that is told. -/
theorem Fl.made {w w2 : World} {c p : Int} (hb : Bl (w.alloc (.cells #[.int .i64 0, .int .i64 0] 26)) w2) :
    Fl w (w2.alloc (.cells #[.int .i64 c, .int .i64 p] 26)) w.heap.size w2.heap.size c p := by
  have h0 := new_at w (.cells #[.int .i64 0, .int .i64 0] 26)
  have hs : w.heap.size < w2.heap.size := by have := hb.size; simp at this; omega
  have hbl : Bl w2 (w2.alloc (.cells #[.int .i64 c, .int .i64 p] 26)) := (Bl.refl w2).alloc _
  refine ⟨(((Bl.refl w).alloc _).trans hb).trans hbl, ?_, new_at w2 _, Nat.le_refl _, Nat.le_of_lt hs, by omega⟩
  rw [Below.block hbl _ hs, Below.block hb _ (lt_of_heap h0)]
  exact h0
theorem tk_blank {t : List UInt8} (h : IsT t) : (32 : UInt8) ∉ t := by
  rcases h with ⟨_, h⟩ | ⟨c, rfl, h⟩ | rfl | rfl
  · intro hm
    exact absurd (h 32 hm) (by decide)
  · intro hm
    have : (32 : UInt8) = c := by simpa using hm
    rw [← this] at h
    revert h; decide
  · decide
  · decide
theorem toks {s : List UInt8} {l : List Tk} : ∀ {p : Nat}, Ch s p l → ∀ t ∈ l, (t.t ≠ [] ∧ (32 : UInt8) ∉ t.t) ∧ t.t.length ≤ s.length := by
  induction l with
  | nil => intro p h x hx; simp at hx
  | cons t r ih =>
    intro p h x hx
    obtain ⟨_, h2, _, h4, h5⟩ : p ≤ t.a ∧ t.a + t.t.length ≤ s.length ∧ (s.drop t.a).take t.t.length = t.t ∧ IsT t.t ∧ Ch s (t.a + t.t.length) r := h
    rw [List.mem_cons] at hx
    rcases hx with rfl | hx
    · refine ⟨⟨?_, tk_blank h4⟩, by omega⟩
      rcases h4 with ⟨h, _⟩ | ⟨c, h, _⟩ | h | h
      · exact h
      · rw [h]; simp
      · rw [h]; simp
      · rw [h]; simp
    · exact ih h5 x hx
theorem eyes_end {w w2 W w6 : World} {M N : Nat} {c p : Int} {vq : Option Addr} {vn vk : Nat} {s : ByteArray} (hs : s.size ≤ 3000) (hF : Fl w W M N c p) (h2 : Bl w2 W) (h6 : Bl W w6) (hM : M = w.heap.size)
    (hA : (lx (L s) 0).2 = none → ∃ base, w.heap.size < base ∧ tr.Own w2 base (.slice vq vn vk) (lx (L s) 0).1) :
    Bl w (((w6.setCell ⟨M, 0, none⟩ (.int .i64 c)).setCell ⟨M, 1, none⟩ (.int .i64 p)).alloc (.cells #[.slice vq vn vk, .int .i64 (s.size : Int), .int .i64 0, .int .i64 (-1)] 55)) ∧
    (((w6.setCell ⟨M, 0, none⟩ (.int .i64 c)).setCell ⟨M, 1, none⟩ (.int .i64 p)).alloc (.cells #[.slice vq vn vk, .int .i64 (s.size : Int), .int .i64 0, .int .i64 (-1)] 55)).heap[M]? = some (.cells #[.int .i64 c, .int .i64 p] 26 (0, 0)) ∧
    w.heap.size ≤ w6.heap.size ∧ ((lx (L s) 0).2 = none → Ey (((w6.setCell ⟨M, 0, none⟩ (.int .i64 c)).setCell ⟨M, 1, none⟩ (.int .i64 p)).alloc (.cells #[.slice vq vn vk, .int .i64 (s.size : Int), .int .i64 0, .int .i64 (-1)] 55)) w6.heap.size (lx (L s) 0).1 s.size 0 (-1)) := by
  have hF6 := hF.step h6
  have hset := upd2 w6 M _ _ (.int .i64 c) (.int .i64 p) _ hF6.m
  have hsz : ((w6.setCell ⟨M, 0, none⟩ (.int .i64 c)).setCell ⟨M, 1, none⟩ (.int .i64 p)).heap.size = w6.heap.size := by simp [World.setCell]
  have hgp : Gp M w6 ((w6.setCell ⟨M, 0, none⟩ (.int .i64 c)).setCell ⟨M, 1, none⟩ (.int .i64 p)) := (Gp.set _).trans (Gp.set _)
  have hbs : Bl w ((w6.setCell ⟨M, 0, none⟩ (.int .i64 c)).setCell ⟨M, 1, none⟩ (.int .i64 p)) := Gp.below hF6.bl hgp (by omega)
  generalize ((w6.setCell ⟨M, 0, none⟩ (.int .i64 c)).setCell ⟨M, 1, none⟩ (.int .i64 p)) = X at *
  have hX : Bl X (X.alloc (.cells #[.slice vq vn vk, .int .i64 (s.size : Int), .int .i64 0, .int .i64 (-1)] 55)) := (Bl.refl _).alloc _
  refine ⟨hbs.trans hX, by rw [Below.block hX M (lt_of_heap hset)]; exact hset, hF6.bl.size, fun hn => ?_⟩
  obtain ⟨base, hb, ho⟩ := hA hn
  have ho6 := (ho.step h2).step h6
  have hch := lx_ch (L s) _ 0 (Nat.le_refl _) (Nat.zero_le _)
  have hlen := lx_len (L s) _ 0 (Nat.le_refl _)
  rw [List.drop_zero] at hch
  rw [L_len] at hlen
  have htk := toks hch
  rw [L_len] at htk
  generalize (lx (L s) 0).1 = l at ho6 hlen htk
  obtain ⟨q, k, e, h1, h3⟩ := ho6.view
  injection e with e1 e2 e3
  subst e1
  subst e2
  subst e3
  have hblk := ho6.block
  have hq : ∀ x, vq = some x → x.block < w6.heap.size ∧ x.block ≠ M := by
    intro x hx
    rcases ho6.shape with ⟨h, _⟩ | ⟨g, cap, h, h4, h5, _⟩
    · injection h with h; rw [h] at hx; cases hx
    · injection h with h
      rw [h] at hx
      injection hx with hx
      rw [← hx]
      exact ⟨h5, by show g ≠ M; omega⟩
  have hn9 := new_at X (.cells #[.slice vq l.length vk, .int .i64 (s.size : Int), .int .i64 0, .int .i64 (-1)] 55)
  rw [hsz] at hn9
  refine ⟨⟨vq, vk, hn9, h1, (In.gp h3 hgp hq).step hX, fun x hx => ?_⟩, by omega, fun t ht => ⟨(htk t ht).1, by have := (htk t ht).2; omega⟩⟩
  have := (hq x hx).1
  have hs2 := hX.size
  exact ⟨by omega, by omega⟩
set_option maxRecDepth 10000 in
set_option maxHeartbeats 2000000 in
theorem newEyes_at (s : ByteArray) (w : World) (hs : s.size ≤ 3000) :
    Calls Tryz.prog 24 #[.string s] w fun e w' => Bl w w' ∧ ∃ P, w.heap.size ≤ P ∧ (((lx (L s) 0).2 = none ∧ e = .returned (.tuple #[.pointer (some ⟨P, 0, none⟩), flt 0 (-1)]) ∧ Ey w' P (lx (L s) 0).1 s.size 0 (-1)) ∨
      ∃ p : Nat, (lx (L s) 0).2 = some p ∧ e = .returned (.tuple #[.pointer (some ⟨P, 0, none⟩), flt 3 (p : Int)])) := by
  have cX := fun w => refLex_at s w hs
  go_enter Tryz.func24, Tryz.ntmps24
  go_wp2_with fail
  refine (cX _).mono ?_
  rintro e w2 ⟨hb2, hans⟩
  obtain ⟨vq, vn, vk, c, p, rfl, HA⟩ : ∃ vq vn vk c p, e = .returned (.tuple #[.slice vq vn vk, flt c p]) ∧ Hid ((((lx (L s) 0).2 = none ∧ c = 0 ∧ p = -1) ∨ ∃ k : Nat, (lx (L s) 0).2 = some k ∧ c = 3 ∧ p = (k : Int)) ∧ ((lx (L s) 0).2 = none → ∃ base, w.heap.size < base ∧ tr.Own w2 base (.slice vq vn vk) (lx (L s) 0).1)) := by
    rcases hans with ⟨h1, v, rfl, h2⟩ | ⟨k, h1, rfl⟩
    · obtain ⟨q, k, e, _⟩ := h2.view
      subst e
      exact ⟨_, _, _, _, _, rfl, Or.inl ⟨h1, rfl, rfl⟩, fun _ => ⟨_, by simp, h2⟩⟩
    · exact ⟨_, _, _, _, _, rfl, Or.inr ⟨k, h1, rfl, rfl⟩, fun h => by rw [h1] at h; cases h⟩
  clear hans
  unfold flt
  go_upto_region 2 with fail
  have hF := Fl.made (c := c) (p := p) hb2
  obtain ⟨W, hW⟩ : ∃ W, W = (w2.alloc (.cells #[.int .i64 c, .int .i64 p] 26)) := ⟨_, rfl⟩
  rw [← hW] at hF ⊢
  have HBW : Hid (Bl w2 W) := by rw [hW]; exact (Bl.refl w2).alloc _
  obtain ⟨M, hM⟩ : ∃ M, M = w.heap.size := ⟨_, rfl⟩
  obtain ⟨N, hN⟩ : ∃ N, N = w2.heap.size := ⟨_, rfl⟩
  rw [← hM, ← hN] at hF
  rw [← hM, ← hN]
  have HF : Hid (Fl w W M N c p ∧ M = w.heap.size) := ⟨hF, hM⟩
  obtain ⟨g0, g1, m0, m1, z0, z1, hMs, hNs⟩ := hF.cells
  have hMN := hF.ge.2.2
  clear hW hM hN hF hb2 cX
  have cG : ∀ w, Calls Tryz.prog 32 #[] w fun e w' => e = .returned (.agg #[.int .i64 0, .int .i64 (-1)]) ∧ Bl w w' := Good_at
  go_region_with (go_at_call 32; refine (cG _).mono ?_; rintro e w6 ⟨rfl, hb6⟩; have HB6 : Hid (Bl W w6) := ((Bl.refl W).drew).trans hb6; obtain ⟨q0, q1, q2, q3, y0, y1, hM6, hN6⟩ := (HF.out.1.step HB6.out).cells; clear hb6)
  all_goals
    obtain ⟨k1, k2, k3, k4⟩ := eyes_end (s := s) (vq := vq) (vn := vn) (vk := vk) hs HF.out.1 HBW.out HB6.out HF.out.2 HA.out.2
    have HK : Hid _ := And.intro k1 (And.intro k2 (And.intro k3 k4))
    clear k1 k2 k3 k4 q0 q1 q2 q3 y0 y1 g0 g1 m0 m1 z0 z1
    go_wp2
    refine bodyPost_ret (v := .tuple #[.pointer (some ⟨w6.heap.size, 0, none⟩), flt c p]) (results_tmp_cell (p := 3) (u := 2) (ty := 26) rfl _ _ _ M (flt c p) rfl (ldF _ _ _ _ HK.out.2.1)) rfl ⟨HK.out.1, _, HK.out.2.2.1, ?_⟩
    rcases HA.out.1 with ⟨j1, j2, j3⟩ | ⟨k, j1, j2, j3⟩
    · exact Or.inl ⟨j1, by rw [j2, j3], HK.out.2.2.2 j1⟩
    · exact Or.inr ⟨k, j1, by rw [j2, j3]⟩
end Go.Proofs.YtpanodaecjlgaaaGreatDoor.ex
/- The document's expression of a text. -/
namespace Go.Proofs.YtpanodaecjlgaaaGreatDoor.ex
set_option linter.unusedVariables false
open Go.ChangeShapes Go.WideShapes Go.ChangeAt Go.RowKit
open mem lx

theorem Ey.cell0 {w : World} {P : Nat} {ts : List Tk} {en : Nat} {c p : Int} (h : Ey w P ts en c p) : ∃ q k, w.cell? ⟨P, 0, none⟩ = some (.slice q ts.length k) := by
  obtain ⟨q, k, h1, _⟩ := h.ex
  exact ⟨q, k, by rw [cell_of h1]; rfl⟩
/-- The variable, told. -/
theorem Fl.told {w W : World} {M N : Nat} {c p : Int} (h : Fl w W M N c p) (a b : Int) : Bl w ((W.setCell ⟨M, 0, none⟩ (.int .i64 a)).setCell ⟨M, 1, none⟩ (.int .i64 b)) ∧ ((W.setCell ⟨M, 0, none⟩ (.int .i64 a)).setCell ⟨M, 1, none⟩ (.int .i64 b)).heap[M]? = some (.cells #[.int .i64 a, .int .i64 b] 26 (0, 0)) :=
  ⟨Gp.below h.bl ((Gp.set _).trans (Gp.set _)) h.ge.1, upd2 W M _ _ _ _ _ h.m⟩
theorem Fl.gp {w W W' : World} {M N P : Nat} {c p : Int} (h : Fl w W M N c p) (hg : Gp P W W') (hM : M ≠ P) (hN : N ≠ P) (hP : w.heap.size ≤ P) : Fl w W' M N c p :=
  ⟨Gp.below h.bl hg hP, by rw [hg.block M (lt_of_heap h.m) hM]; exact h.m, by rw [hg.block N (lt_of_heap h.n) hN]; exact h.n, h.ge⟩
theorem Fl.kx {w W : World} {M N : Nat} {c p : Int} (h : Fl w W M N c p) (a b : Int) : Kx W ((W.setCell ⟨M, 0, none⟩ (.int .i64 a)).setCell ⟨M, 1, none⟩ (.int .i64 b)) := fun k cs hk => by
  have hg : Gp M W ((W.setCell ⟨M, 0, none⟩ (.int .i64 a)).setCell ⟨M, 1, none⟩ (.int .i64 b)) := (Gp.set _).trans (Gp.set _)
  rw [hg.block k (lt_of_heap hk) (fun e => by rw [e, h.m] at hk; simp at hk)]
  exact hk
theorem Is_at (c p : Int) (w : World) : Calls Tryz.prog 18 #[.agg #[.int .i64 c, .int .i64 p]] w fun e w' => e = .returned (.bool (c == 0)) ∧ Bl w w' := by
  go_enter Tryz.func18, Tryz.ntmps18
  go_wp2
  go_ret
  exact ⟨rfl, (Bl.refl _).alloc _⟩
end Go.Proofs.YtpanodaecjlgaaaGreatDoor.ex
/- Words among words, by blanks about them (pure). -/
namespace Go.Proofs.YtpanodaecjlgaaaGreatDoor.tm
set_option linter.unusedVariables false
open lx ex

theorem occ_iff (l m : List UInt8) : Lib.contains l m = true ↔ ∃ p q, l = p ++ m ++ q := by
  unfold Lib.contains
  rw [decide_eq_true_eq]
  constructor
  · intro h
    rcases Lib.index_spec l m with ⟨h1, _⟩ | ⟨i, h1, h2, h3, _⟩
    · omega
    · have h4 : m.isPrefixOf (l.drop i) = true := h3
      rw [List.isPrefixOf_iff_prefix] at h4
      obtain ⟨q, hq⟩ := h4
      exact ⟨l.take i, q, by rw [List.append_assoc, hq, List.take_append_drop]⟩
  · rintro ⟨p, q, h⟩
    rcases Lib.index_spec l m with ⟨h1, h2⟩ | ⟨i, h1, _⟩
    · have := h2 p.length (by rw [h]; simp)
      have h4 : m.isPrefixOf (l.drop p.length) = true := by
        rw [List.isPrefixOf_iff_prefix, h, List.append_assoc, List.drop_left]
        exact ⟨q, rfl⟩
      rw [show Lib.occAt l m p.length = m.isPrefixOf (l.drop p.length) from rfl, h4] at this
      cases this
    · omega
/-- Words with blanks about them. -/
def wds (ws : List (List UInt8)) : List UInt8 := 32 :: ws.flatMap (fun w => w ++ [32])
theorem split_word {a b x y : List UInt8} (ha : (32 : UInt8) ∉ a) (hb : (32 : UInt8) ∉ b) (h : a ++ 32 :: x = b ++ 32 :: y) : a = b ∧ x = y := by
  induction a generalizing b with
  | nil =>
    cases b with
    | nil => simp at h; exact ⟨rfl, h⟩
    | cons c b => simp at h; exact absurd h.1 (fun e => hb (by rw [← e]; simp))
  | cons c a ih =>
    cases b with
    | nil => simp at h; exact absurd h.1 (fun e => ha (by rw [e]; simp))
    | cons d b =>
      simp only [List.cons_append, List.cons.injEq] at h
      obtain ⟨h1, h2⟩ := ih (fun h => ha (by simp [h])) (fun h => hb (by simp [h])) h.2
      exact ⟨by rw [h.1, h1], h2⟩
theorem split_far {a p x y : List UInt8} (ha : (32 : UInt8) ∉ a) (h : a ++ x = p ++ 32 :: y) : ∃ p', p = a ++ p' ∧ x = p' ++ 32 :: y := by
  induction a generalizing p with
  | nil => exact ⟨p, rfl, h⟩
  | cons c a ih =>
    cases p with
    | nil => simp at h; exact absurd h.1 (fun e => ha (by rw [e]; simp))
    | cons d p =>
      simp only [List.cons_append, List.cons.injEq] at h
      obtain ⟨p', h1, h2⟩ := ih (fun h => ha (by simp [h])) h.2
      exact ⟨p', by rw [h.1, h1]; rfl, h2⟩
theorem wds_has (s : List UInt8) (hs : (32 : UInt8) ∉ s) (ws : List (List UInt8)) (hw : ∀ w ∈ ws, (32 : UInt8) ∉ w) : (∃ p q, wds ws = p ++ ([32] ++ s ++ [32]) ++ q) ↔ s ∈ ws := by
  induction ws with
  | nil =>
    constructor
    · rintro ⟨p, q, h⟩
      have := congrArg List.length h
      simp [wds] at this
      omega
    · intro h; cases h
  | cons w ws ih =>
    have hw1 : (32 : UInt8) ∉ w := hw w (by simp)
    have ih := ih (fun u hu => hw u (by simp [hu]))
    have e : wds (w :: ws) = 32 :: (w ++ wds ws) := by
      unfold wds
      rw [List.flatMap_cons, List.append_assoc]
      rfl
    constructor
    · rintro ⟨p, q, h⟩
      rw [e] at h
      cases p with
      | nil =>
        simp only [List.nil_append, List.cons_append, List.append_assoc, List.cons.injEq, true_and] at h
        have h' : w ++ 32 :: (ws.flatMap fun w => w ++ [32]) = s ++ 32 :: q := h
        rw [(split_word hw1 hs h').1]
        simp
      | cons c p =>
        simp only [List.cons_append, List.nil_append, List.append_assoc, List.cons.injEq] at h
        obtain ⟨p', h1, h2⟩ := split_far hw1 h.2
        rw [List.mem_cons]
        right
        refine ih.1 ⟨p', q, ?_⟩
        rw [h2]
        simp
    · intro h
      rw [List.mem_cons] at h
      rw [e]
      rcases h with rfl | h
      · exact ⟨[], ws.flatMap (fun w => w ++ [32]), by unfold wds; simp⟩
      · obtain ⟨p, q, h⟩ := ih.2 h
        exact ⟨32 :: w ++ p, q, by rw [h]; simp⟩
theorem wds_is (s : List UInt8) (hs : (32 : UInt8) ∉ s) (ws : List (List UInt8)) (hw : ∀ w ∈ ws, (32 : UInt8) ∉ w) : Lib.contains (wds ws) ([32] ++ s ++ [32]) = decide (s ∈ ws) := by
  rw [Bool.eq_iff_iff, occ_iff, wds_has s hs ws hw, decide_eq_true_eq]
/-- The words for numbers. -/
def numK : List (List UInt8) := numW.map (·.1)
def othK : List (List UInt8) := [wStruct, wBytes, wWhen, wSize, wCount, wCheck]
theorem num_mem (t : List UInt8) : (numOf t).isSome = decide (t ∈ numK) := by
  rw [Bool.eq_iff_iff, decide_eq_true_eq]
  unfold numOf numK
  rw [Option.isSome_map, List.find?_isSome, List.mem_map]
  constructor
  · rintro ⟨p, h1, h2⟩; exact ⟨p, h1, by simpa using h2⟩
  · rintro ⟨p, h1, h2⟩; exact ⟨p, h1, by simpa using h2⟩
theorem num_text (t : List UInt8) (h : (32 : UInt8) ∉ t) : Lib.contains (wds numK) ([32] ++ t ++ [32]) = (numOf t).isSome := by
  rw [wds_is t h numK (by decide), num_mem]
theorem oth_text (t : List UInt8) (h : (32 : UInt8) ∉ t) : Lib.contains (wds othK) ([32] ++ t ++ [32]) = othK.contains t := by
  rw [wds_is t h othK (by decide), Bool.eq_iff_iff]
  simp
end Go.Proofs.YtpanodaecjlgaaaGreatDoor.tm
/- The document's reader of templates: eyes, whatever they have seen. -/
namespace Go.Proofs.YtpanodaecjlgaaaGreatDoor.tr
set_option linter.unusedVariables false
open Go.ChangeShapes Go.WideShapes Go.ChangeAt Go.RowKit
open mem lx ex tm

/-- The variable holds some number, whatever it is. -/
def Ml (w : World) : Prop := ∃ m : Int, w.cell? ⟨4, 0, none⟩ = some (.int .i64 m)
theorem Ml.step {w w' : World} (h : Ml w) (hb : Bl w w') : Ml w' := by
  obtain ⟨m, hm⟩ := h
  exact ⟨m, at_bl hb hm⟩
theorem ml_of {W : World} (h : W.ShapedOpen Tryz.prog) : Ml W :=
  cell_of_shapedOpen_int (P := Tryz.prog) (g := 4) (t := 3) (zero := #[.int .i64 0]) h (of_decide_eq_true (by kernel_rfl)) (by kernel_rfl) rfl (by kernel_rfl) (by kernel_rfl) Tryz.underlying3
theorem has_at (s t : ByteArray) (w : World) (hs : s.size ≤ 100000) (hm : Ml w) : Calls Tryz.prog 54 #[.string s, .string t] w fun e w' => e = .returned (.bool (Lib.contains (L s) (L t))) ∧ w' = w := by
  obtain ⟨m, hm⟩ := hm
  exact Any.strings_Contains layK.laid s t m w (by omega) hm
abbrev Sg := Except (Int × Nat) (List Tk)
/-- Eyes, whatever they have seen: the tokens that are left, or what was wrong first. -/
def Es (w : World) (P en : Nat) : Sg → Prop
  | .ok ts => Ey w P ts en 0 (-1)
  | .error (c, p) => c ≠ 0 ∧ ∃ ts, Ey w P ts en c (p : Int)
def seeT (en : Nat) : Sg → List UInt8
  | .ok ts => (hd en ts).t
  | .error _ => []
theorem Es.ey {w : World} {P en : Nat} {σ : Sg} (h : Es w P en σ) : ∃ ts c p, Ey w P ts en c p ∧ seeT en σ = see c en ts ∧ (∀ us, σ = .ok us → c = 0 ∧ p = -1 ∧ us = ts) ∧ ∀ k q, σ = .error (k, q) → c = k ∧ p = (q : Int) ∧ c ≠ 0 := by
  cases σ with
  | ok ts => exact ⟨ts, 0, -1, h, rfl, fun us hu => (by injection hu with hu; exact ⟨rfl, rfl, hu.symm⟩), fun k q hk => (by cases hk)⟩
  | error cp =>
    obtain ⟨c, p⟩ := cp
    obtain ⟨hc, ts, h⟩ := h
    exact ⟨ts, c, p, h, by unfold see; rw [if_neg hc]; rfl, fun us hu => (by cases hu), fun k q hk => (by injection hk with hk; injection hk with h1 h2; subst h1 h2; exact ⟨rfl, rfl, hc⟩)⟩
theorem Ey.keep {w w' : World} {P : Nat} {ts : List Tk} {en : Nat} {c p : Int} (h : Ey w P ts en c p) (hk : ∀ g, g ≤ P → w'.heap[g]? = w.heap[g]?) (hs : w.heap.size ≤ w'.heap.size) : Ey w' P ts en c p := by
  obtain ⟨q, k, h1, h2, h3, h4⟩ := h.ex
  refine ⟨⟨q, k, by rw [hk P (Nat.le_refl _)]; exact h1, h2, ?_, fun x hx => ⟨Nat.lt_of_lt_of_le (h4 x hx).1 hs, (h4 x hx).2⟩⟩, h.len, h.tok⟩
  rcases h3 with h3 | ⟨x, h3, h5⟩
  · exact Or.inl h3
  · refine Or.inr ⟨x, h3, fun j u hj => ?_⟩
    have h6 := h5 j u hj
    have hb : (x.add j).block = x.block := by cases j <;> rfl
    unfold World.cell? at h6 ⊢
    rw [hk _ (by rw [hb]; exact Nat.le_of_lt (h4 x h3).2)]
    exact h6
theorem Es.keep {w w' : World} {P en : Nat} {σ : Sg} (h : Es w P en σ) (hk : ∀ g, g ≤ P → w'.heap[g]? = w.heap[g]?) (hs : w.heap.size ≤ w'.heap.size) : Es w' P en σ := by
  cases σ with
  | ok ts => exact Ey.keep h hk hs
  | error cp => obtain ⟨hc, ts, h⟩ := h; exact ⟨hc, ts, Ey.keep h hk hs⟩
theorem Es.lt {w : World} {P en : Nat} {σ : Sg} (h : Es w P en σ) : P < w.heap.size := by
  obtain ⟨ts, c, p, h, _⟩ := h.ey
  exact h.lt
theorem Es.bl {w w' : World} {P en : Nat} {σ : Sg} (h : Es w P en σ) (hb : Bl w w') : Es w' P en σ :=
  h.keep (fun g hg => Below.block hb g (Nat.lt_of_le_of_lt hg h.lt)) hb.size
theorem Es.put {w : World} {P en X j : Nat} {σ : Sg} (h : Es w P en σ) (hX : P < X) (u : Value) : Es (w.setCell ⟨X, j, none⟩ u) P en σ :=
  h.keep (fun g hg => (grown_set w X j u).block g (Nat.lt_of_le_of_lt hg h.lt) (fun e => by injection e with e; omega)) (by simp [World.setCell])
theorem Es.kx {w w' : World} {P en : Nat} {σ : Sg} (h : Es w P en σ) (hg : Gp P w w') : Kx w w' := by
  obtain ⟨ts, c, p, h, _⟩ := h.ey
  exact Gp.kxE hg h
theorem Es.tok {w : World} {P en : Nat} {σ : Sg} (h : Es w P en σ) : (seeT en σ).length ≤ 3000 := by
  obtain ⟨ts, c, p, h, h2, _⟩ := h.ey
  rw [h2]
  unfold see
  split
  · cases ts with
    | nil => exact Nat.zero_le _
    | cons t r => exact (h.tok t (by simp)).2
  · exact Nat.zero_le _
theorem Es.gap {w : World} {P en : Nat} {σ : Sg} (h : Es w P en σ) : (32 : UInt8) ∉ seeT en σ := by
  obtain ⟨ts, c, p, h, h2, _⟩ := h.ey
  rw [h2]
  unfold see
  split
  · cases ts with
    | nil => exact List.not_mem_nil
    | cons t r => exact (h.tok t (by simp)).1.2
  · exact List.not_mem_nil
theorem stop_es (w : World) (P en : Nat) (σ : Sg) (h : Es w P en σ) :
    Calls Tryz.prog 25 #[.pointer (some ⟨P, 0, none⟩)] w fun e w' => e = .returned (.bool (match σ with | .ok _ => false | .error _ => true)) ∧ Bl w w' := by
  obtain ⟨ts, c, p, h, h2, h3, h4⟩ := h.ey
  have := stop_at w P ts en c p h
  cases σ with
  | ok us => rw [(h3 us rfl).1] at this; exact this
  | error cp =>
    obtain ⟨k, q⟩ := cp
    have hc := (h4 k q rfl).2.2
    have hc' : (c == 0) = false := by rw [beq_eq_false_iff_ne]; exact hc
    rw [hc'] at this; exact this
theorem text_es (w : World) (P en : Nat) (σ : Sg) (h : Es w P en σ) :
    Calls Tryz.prog 26 #[.pointer (some ⟨P, 0, none⟩)] w fun e w' => e = .returned (.string (tx (seeT en σ))) ∧ Bl w w' := by
  obtain ⟨ts, c, p, h, h2, _⟩ := h.ey
  rw [h2]
  exact text_at w P ts en c p h
theorem place_es (w : World) (P en : Nat) (σ : Sg) (h : Es w P en σ) :
    Calls Tryz.prog 28 #[.pointer (some ⟨P, 0, none⟩)] w fun e w' => (∃ a : Nat, e = .returned (.int .i64 (a : Int)) ∧ ∀ ts, σ = .ok ts → a = (hd en ts).a) ∧ w' = w := by
  obtain ⟨ts, c, p, h, _, h3, _⟩ := h.ey
  refine (place_at w P ts en c p h).mono ?_
  rintro e w' ⟨rfl, rfl⟩
  exact ⟨⟨_, rfl, fun us hu => by rw [(h3 us hu).2.2]⟩, rfl⟩
/-- What is wrong. -/
def fl (k : Int) (a : Nat) : Sg → Sg
  | .ok _ => .error (k, a)
  | .error e => .error e
theorem wrong_es (w : World) (P en : Nat) (σ : Sg) (k : Int) (a : Nat) (hk : k ≠ 0) (h : Es w P en σ) :
    Calls Tryz.prog 27 #[.pointer (some ⟨P, 0, none⟩), .int .i64 k, .int .i64 (a : Int)] w fun e w' => e = .returned (.tuple #[]) ∧ Es w' P en (fl k a σ) ∧ Gp P w w' := by
  cases σ with
  | ok ts =>
    refine (wrong_yes w P ts en (-1) k a h).mono ?_
    rintro e w' ⟨rfl, h1, h2⟩
    exact ⟨rfl, ⟨hk, ts, h1⟩, h2⟩
  | error cp =>
    obtain ⟨c, p⟩ := cp
    obtain ⟨hc, ts, hE⟩ := h
    refine (wrong_no w P ts en c p k a hE hc).mono ?_
    rintro e w' ⟨rfl, h1⟩
    exact ⟨rfl, ⟨hc, ts, hE.step h1⟩, Gp.bl h1⟩
/-- One token more. -/
def ps (en : Nat) : Sg → Sg
  | .ok [] => .error (3, en)
  | .ok (_ :: r) => .ok r
  | .error e => .error e
set_option maxRecDepth 10000 in
theorem pass_end (w : World) (P en : Nat) (h : Ey w P [] en 0 (-1)) :
    Calls Tryz.prog 55 #[.pointer (some ⟨P, 0, none⟩)] w fun e w' => e = .returned (.string ⟨#[]⟩) ∧ Ey w' P [] en 3 (en : Int) ∧ Gp P w w' := by
  have cT := text_at w P [] en 0 (-1) h
  rw [show see 0 en [] = [] from rfl] at cT
  have cP := fun wx (hb : Bl w wx) => place_at wx P [] en 0 (-1) (h.step hb)
  rw [show (hd en ([] : List Tk)).a = en from rfl] at cP
  have cW := fun wx (hb : Bl w wx) a b => wrong_yes wx P [] en (-1) a b (h.step hb)
  have hem : (tx ([] : List UInt8)).toList.isEmpty = true := by rw [tl_tx]; rfl
  clear h
  generalize tx ([] : List UInt8) = S at *
  go_enter Tryz.func55, Tryz.ntmps55
  go_wp2_with fail
  refine cT.mono ?_
  rintro e w2 ⟨rfl, hb⟩
  go_wp2_with fail
  refine (cP _ hb).mono ?_
  rintro e w3 ⟨rfl, rfl⟩
  go_wp2_with fail
  refine (cW _ hb _ _).mono ?_
  rintro e w4 ⟨rfl, hE, hg⟩
  go_wp2
  go_ret
  exact ⟨rfl, hE, (Gp.bl hb).trans hg⟩
theorem pass_es (w : World) (P en : Nat) (σ : Sg) (h : Es w P en σ) :
    Calls Tryz.prog 55 #[.pointer (some ⟨P, 0, none⟩)] w fun e w' => e = .returned (.string (tx (seeT en σ))) ∧ Es w' P en (ps en σ) ∧ Gp P w w' := by
  match σ, h with
  | .ok [], h =>
    refine (pass_end w P en h).mono ?_
    rintro e w' ⟨rfl, h1, h2⟩
    exact ⟨rfl, ⟨by decide, [], h1⟩, h2⟩
  | .ok (t :: r), h => exact pass_yes w P t r en (-1) h
  | .error (c, p), h =>
    obtain ⟨hc, ts, hE⟩ := h
    refine (pass_no w P ts en c p hE hc).mono ?_
    rintro e w' ⟨rfl, h1⟩
    exact ⟨rfl, ⟨hc, ts, hE.step h1⟩, Gp.bl h1⟩
/-- One token more, if it is this one. -/
def tk (en : Nat) (m : List UInt8) (σ : Sg) : Sg := if seeT en σ = m then ps en σ else σ
theorem take_es (w : World) (P en : Nat) (σ : Sg) (m : List UInt8) (hm : m ≠ []) (h : Es w P en σ) :
    Calls Tryz.prog 51 #[.pointer (some ⟨P, 0, none⟩), .string (tx m)] w fun e w' => e = .returned (.bool (decide (seeT en σ = m))) ∧ Es w' P en (tk en m σ) ∧ Gp P w w' := by
  by_cases hc : seeT en σ = m
  · unfold tk
    rw [if_pos hc, decide_eq_true hc]
    match σ, h, hc with
    | .ok [], h, hc => exact absurd hc.symm hm
    | .error _, h, hc => exact absurd hc.symm hm
    | .ok (t :: r), h, hc =>
      subst hc
      exact take_yes w P t r en (-1) h
  · unfold tk
    rw [if_neg hc, decide_eq_false hc]
    obtain ⟨ts, c, p, h1, h2, _⟩ := h.ey
    rw [h2] at hc
    refine (take_no w P ts en c p m h1 hc).mono ?_
    rintro e w' ⟨rfl, hb⟩
    exact ⟨rfl, h.bl hb, Gp.bl hb⟩
/-- This token. -/
def mu (en : Nat) (m : List UInt8) (σ : Sg) : Sg := match σ with | .ok ts => want en m ts | .error e => .error e
theorem must_es (w : World) (P en : Nat) (σ : Sg) (m : List UInt8) (hm : m ≠ []) (h : Es w P en σ) :
    Calls Tryz.prog 29 #[.pointer (some ⟨P, 0, none⟩), .string (tx m)] w fun e w' => e = .returned (.tuple #[]) ∧ Es w' P en (mu en m σ) ∧ Gp P w w' := by
  cases σ with
  | error cp =>
    obtain ⟨c, p⟩ := cp
    obtain ⟨hc, ts, hE⟩ := h
    refine (must_off w P ts en c p m hE hc hm).mono ?_
    rintro e w' ⟨rfl, h1⟩
    exact ⟨rfl, ⟨hc, ts, hE.step h1⟩, Gp.bl h1⟩
  | ok ts =>
    show Calls _ _ _ _ fun e w' => e = _ ∧ Es w' P en (want en m ts) ∧ _
    unfold want
    by_cases hc : (hd en ts).t = m
    · rw [if_pos hc]
      cases ts with
      | nil => exact absurd hc.symm hm
      | cons t r =>
        have hc : t.t = m := hc
        subst hc
        exact must_yes w P t r en (-1) h
    · rw [if_neg hc]
      refine (must_no w P ts en (-1) m h hc).mono ?_
      rintro e w' ⟨rfl, h1, h2⟩
      exact ⟨rfl, ⟨by decide, ts, h1⟩, h2⟩
end Go.Proofs.YtpanodaecjlgaaaGreatDoor.tr
/- The document's reader of templates: words, names, expressions. -/
namespace Go.Proofs.YtpanodaecjlgaaaGreatDoor.tr
set_option linter.unusedVariables false
open Go.ChangeShapes Go.WideShapes Go.ChangeAt Go.RowKit
open mem lx ex tm

theorem isNum_at (t : List UInt8) (w : World) (h : (32 : UInt8) ∉ t) (ht : t.length ≤ 3000) (hm : Ml w) :
    Calls Tryz.prog 53 #[.string (tx t)] w fun e w' => e = .returned (.bool (numOf t).isSome) ∧ w' = w := by
  have cC := fun s (hs : s.size ≤ 100000) => has_at s (⟨#[32]⟩ ++ tx t ++ ⟨#[32]⟩) w hs hm
  have hL : L (⟨#[32]⟩ ++ tx t ++ ⟨#[32]⟩) = [32] ++ t ++ [32] := by rw [L_app, L_app, L_tx]; rfl
  rw [hL] at cC
  have hn := num_text t h
  by_cases h0 : t = []
  · subst h0
    have hq : ((tx ([] : List UInt8)).toList == []) = true := by rw [tl_tx]; rfl
    generalize tx ([] : List UInt8) = S at *
    go_enter Tryz.func53, Tryz.ntmps53
    go_wp2
    go_ret
    exact ⟨rfl, rfl⟩
  · have hq : ((tx t).toList == []) = false := by rw [tl_tx, beq_eq_false_iff_ne]; exact h0
    have hSs : (tx t).size ≤ 3000 := by rw [tx_size]; exact ht
    generalize hN : (numOf t).isSome = B at *
    clear hL h0 hm
    generalize tx t = S at *
    go_enter Tryz.func53, Tryz.ntmps53
    go_wp2_with fail
    refine (cC _ (by decide)).mono ?_
    rintro e w2 ⟨he, rfl⟩
    have he : e = .returned (.bool B) := he.trans (congrArg (fun b => Ending.returned (.bool b)) hn)
    clear hn cC
    obtain rfl := he.symm
    go_wp2
    go_ret
    exact ⟨rfl, rfl⟩
/-- A name, whatever was seen. -/
def nmS (en : Nat) (σ : Sg) : Sg := match σ with
  | .ok ts => (match name en ts with | .ok (_, r) => .ok r | .error e => .error e)
  | .error e => .error e
theorem name_see {en : Nat} {ts r : List Tk} {t : List UInt8} (h : name en ts = .ok (t, r)) : t = (hd en ts).t := by
  unfold name at h
  split at h
  · cases h
  · split at h
    · cases h
    · injection h with h; injection h with h1 h2; exact h1.symm
theorem nm_is (en : Nat) (σ : Sg) (a : Nat) (ha : ∀ ts, σ = .ok ts → a = (hd en ts).a) :
    nmS en σ = if isN (seeT en σ) = false ∨ (numOf (seeT en σ)).isSome = true ∨ othK.contains (seeT en σ) = true then fl 3 a σ else if 12 < (seeT en σ).length then fl 4 a σ else ps en σ := by
  cases σ with
  | error e =>
    show (.error e : Sg) = _
    split
    · rfl
    · split <;> rfl
  | ok ts =>
    have ha := ha ts rfl
    subst ha
    show (match name en ts with | .ok (_, r) => (.ok r : Sg) | .error e => .error e) = _
    unfold name
    rw [show seeT en (.ok ts) = (hd en ts).t from rfl]
    have e1 : resv (hd en ts).t = (othK.contains (hd en ts).t || (numOf (hd en ts).t).isSome) := rfl
    rw [e1]
    by_cases hc : isN (hd en ts).t = false ∨ (numOf (hd en ts).t).isSome = true ∨ othK.contains (hd en ts).t = true
    · rw [if_pos hc, if_pos]
      · rfl
      · rcases hc with h | h | h
        · exact Or.inr h
        · left; rw [h]; simp
        · left; rw [h]; simp
    · rw [if_neg hc, if_neg]
      · by_cases h12 : 12 < (hd en ts).t.length
        · rw [if_pos h12, if_pos h12]; rfl
        · rw [if_neg h12, if_neg h12]
          cases ts with
          | nil => exact absurd (Or.inl rfl) hc
          | cons t r => rfl
      · rintro (h | h)
        · rw [Bool.or_eq_true] at h
          rcases h with h | h
          · exact hc (Or.inr (Or.inr h))
          · exact hc (Or.inr (Or.inl h))
        · exact hc (Or.inl h)
set_option maxRecDepth 10000 in
theorem name_es (w : World) (P en : Nat) (σ : Sg) (h : Es w P en σ) (hm : Ml w) :
    Calls Tryz.prog 30 #[.pointer (some ⟨P, 0, none⟩)] w fun e w' => e = .returned (.string (tx (seeT en σ))) ∧ Es w' P en (nmS en σ) ∧ Gp P w w' := by
  have cT := text_es w P en σ h
  have hg := h.gap
  have hl := h.tok
  have cI := IsName_at (tx (seeT en σ))
  rw [L_tx, isN_nmb] at cI
  have cN := fun wx (hb : Bl w wx) => isNum_at (seeT en σ) wx hg hl (hm.step hb)
  have hL : L (⟨#[32]⟩ ++ tx (seeT en σ) ++ ⟨#[32]⟩) = [32] ++ seeT en σ ++ [32] := by rw [L_app, L_app, L_tx]; rfl
  have cC := fun wx (hb : Bl w wx) s (hs : s.size ≤ 100000) => has_at s (⟨#[32]⟩ ++ tx (seeT en σ) ++ ⟨#[32]⟩) wx hs (hm.step hb)
  rw [hL] at cC
  have hO := oth_text (seeT en σ) hg
  have HE : Hid (Es w P en σ) := h
  have hSs : (tx (seeT en σ)).size = (seeT en σ).length := tx_size _
  have HM : Hid (∀ a : Nat, (∀ ts, σ = .ok ts → a = (hd en ts).a) → nmS en σ = if isN (seeT en σ) = false ∨ (numOf (seeT en σ)).isSome = true ∨ othK.contains (seeT en σ) = true then fl 3 a σ else if 12 < (seeT en σ).length then fl 4 a σ else ps en σ) := nm_is en σ
  clear hL hm hg h
  obtain ⟨b1, hb1⟩ : ∃ b, isN (seeT en σ) = b := ⟨_, rfl⟩
  obtain ⟨b2, hb2⟩ : ∃ b, (numOf (seeT en σ)).isSome = b := ⟨_, rfl⟩
  obtain ⟨b3, hb3⟩ : ∃ b, othK.contains (seeT en σ) = b := ⟨_, rfl⟩
  rw [hb1, hb2, hb3] at HM
  rw [hb1] at cI
  rw [hb2] at cN
  rw [hb3] at hO
  obtain ⟨n, hn⟩ : ∃ n, (seeT en σ).length = n := ⟨_, rfl⟩
  rw [hn] at hSs hl HM
  clear hb1 hb2 hb3 hn
  obtain ⟨S, hS⟩ : ∃ S, tx (seeT en σ) = S := ⟨_, rfl⟩
  rw [hS] at cT cI cN cC hSs ⊢
  clear hS
  have cW := fun wx (k : Int) (hk : k ≠ 0) (a : Nat) (hb : Bl w wx) => wrong_es wx P en σ k a hk (HE.out.bl hb)
  have cP := fun wx (hb : Bl w wx) => place_es wx P en σ (HE.out.bl hb)
  have tail : ∀ (k : Int) (a : Nat) (wx : World), Es wx P en (fl k a σ) → Calls Tryz.prog 25 #[.pointer (some ⟨P, 0, none⟩)] wx fun e w' => e = .returned (.bool true) ∧ Bl wx w' := by
    intro k a wx hx
    have := stop_es wx P en _ hx
    cases σ <;> exact this
  go_enter Tryz.func30, Tryz.ntmps30
  go_wp2_with fail
  refine cT.mono ?_
  rintro e w2 ⟨rfl, hb2⟩
  have HB : Hid (Bl w w2) := hb2
  cases b1 with
  | false =>
    have HM' : Hid (∀ a : Nat, (∀ ts, σ = .ok ts → a = (hd en ts).a) → nmS en σ = fl 3 a σ) := fun a ha => by rw [HM.out a ha, if_pos (Or.inl rfl)]
    clear cN cC hO HM cT hb2
    go_wp2_with fail
    refine (cI _).mono ?_
    rintro e w3 ⟨rfl, rfl⟩
    go_wp2_with fail
    refine (cP _ HB.out).mono ?_
    rintro e w4 ⟨⟨a, rfl, ha⟩, rfl⟩
    have HA : Hid (nmS en σ = _) := HM'.out a ha
    go_wp2_with fail
    refine (cW _ 3 (by decide) a HB.out).mono ?_
    rintro e w5 ⟨rfl, hE, hg⟩
    have HE5 : Hid (Es w5 P en (fl 3 a σ) ∧ Gp P w w5) := ⟨hE, (Gp.bl HB.out).trans hg⟩
    have cS := tail 3 a w5 hE
    clear hE hg cW cP cI
    go_wp2_with fail
    refine cS.mono ?_
    rintro e w6 ⟨rfl, hb6⟩
    go_wp2
    go_ret
    exact ⟨rfl, by rw [HA.out]; exact HE5.out.1.bl hb6, HE5.out.2.trans (Gp.bl hb6)⟩
  | true =>
    cases b2 with
    | true =>
      have HM' : Hid (∀ a : Nat, (∀ ts, σ = .ok ts → a = (hd en ts).a) → nmS en σ = fl 3 a σ) := fun a ha => by rw [HM.out a ha, if_pos (Or.inr (Or.inl rfl))]
      clear cC hO HM cT hb2
      go_wp2_with fail
      refine (cI _).mono ?_
      rintro e w3 ⟨rfl, rfl⟩
      go_wp2_with fail
      refine (cN _ HB.out).mono ?_
      rintro e w3 ⟨rfl, rfl⟩
      go_wp2_with fail
      refine (cP _ HB.out).mono ?_
      rintro e w4 ⟨⟨a, rfl, ha⟩, rfl⟩
      have HA : Hid (nmS en σ = _) := HM'.out a ha
      go_wp2_with fail
      refine (cW _ 3 (by decide) a HB.out).mono ?_
      rintro e w5 ⟨rfl, hE, hg⟩
      have HE5 : Hid (Es w5 P en (fl 3 a σ) ∧ Gp P w w5) := ⟨hE, (Gp.bl HB.out).trans hg⟩
      have cS := tail 3 a w5 hE
      clear hE hg cW cP cI
      go_wp2_with fail
      refine cS.mono ?_
      rintro e w6 ⟨rfl, hb6⟩
      go_wp2
      go_ret
      exact ⟨rfl, by rw [HA.out]; exact HE5.out.1.bl hb6, HE5.out.2.trans (Gp.bl hb6)⟩
    | false =>
      cases b3 with
      | true =>
        have HM' : Hid (∀ a : Nat, (∀ ts, σ = .ok ts → a = (hd en ts).a) → nmS en σ = fl 3 a σ) := fun a ha => by rw [HM.out a ha, if_pos (Or.inr (Or.inr rfl))]
        clear HM cT hb2
        go_wp2_with fail
        refine (cI _).mono ?_
        rintro e w3 ⟨rfl, rfl⟩
        go_wp2_with fail
        refine (cN _ HB.out).mono ?_
        rintro e w3 ⟨rfl, rfl⟩
        go_wp2_with fail
        refine (cC _ HB.out _ (by decide)).mono ?_
        rintro e w3 ⟨he, rfl⟩
        have he : e = .returned (.bool true) := he.trans (congrArg (fun b => Ending.returned (.bool b)) hO)
        clear hO cC
        obtain rfl := he.symm
        go_wp2_with fail
        refine (cP _ HB.out).mono ?_
        rintro e w4 ⟨⟨a, rfl, ha⟩, rfl⟩
        have HA : Hid (nmS en σ = _) := HM'.out a ha
        go_wp2_with fail
        refine (cW _ 3 (by decide) a HB.out).mono ?_
        rintro e w5 ⟨rfl, hE, hg⟩
        have HE5 : Hid (Es w5 P en (fl 3 a σ) ∧ Gp P w w5) := ⟨hE, (Gp.bl HB.out).trans hg⟩
        have cS := tail 3 a w5 hE
        clear hE hg cW cP cI
        go_wp2_with fail
        refine cS.mono ?_
        rintro e w6 ⟨rfl, hb6⟩
        go_wp2
        go_ret
        exact ⟨rfl, by rw [HA.out]; exact HE5.out.1.bl hb6, HE5.out.2.trans (Gp.bl hb6)⟩
      | false =>
        by_cases h12 : 12 < n
        · have h12' : (12 : Int) < (S.size : Int) := by omega
          have HM' : Hid (∀ a : Nat, (∀ ts, σ = .ok ts → a = (hd en ts).a) → nmS en σ = fl 4 a σ) := fun a ha => by rw [HM.out a ha, if_neg (by simp), if_pos h12]
          clear HM cT hb2
          go_wp2_with fail
          refine (cI _).mono ?_
          rintro e w3 ⟨rfl, rfl⟩
          go_wp2_with fail
          refine (cN _ HB.out).mono ?_
          rintro e w3 ⟨rfl, rfl⟩
          go_wp2_with fail
          refine (cC _ HB.out _ (by decide)).mono ?_
          rintro e w3 ⟨he, rfl⟩
          have he : e = .returned (.bool false) := he.trans (congrArg (fun b => Ending.returned (.bool b)) hO)
          clear hO cC
          obtain rfl := he.symm
          go_wp2_with fail
          refine (cP _ HB.out).mono ?_
          rintro e w4 ⟨⟨a, rfl, ha⟩, rfl⟩
          have HA : Hid (nmS en σ = _) := HM'.out a ha
          go_wp2_with fail
          refine (cW _ 4 (by decide) a HB.out).mono ?_
          rintro e w5 ⟨rfl, hE, hg⟩
          have HE5 : Hid (Es w5 P en (fl 4 a σ) ∧ Gp P w w5) := ⟨hE, (Gp.bl HB.out).trans hg⟩
          have cS := tail 4 a w5 hE
          clear hE hg cW cP cI
          go_wp2_with fail
          refine cS.mono ?_
          rintro e w6 ⟨rfl, hb6⟩
          go_wp2
          go_ret
          exact ⟨rfl, by rw [HA.out]; exact HE5.out.1.bl hb6, HE5.out.2.trans (Gp.bl hb6)⟩
        · have h12' : ¬ (12 : Int) < (S.size : Int) := by omega
          have HM' : Hid (nmS en σ = ps en σ) := by
            show nmS en σ = ps en σ
            cases σ with
            | ok ts => exact (HM.out (hd en ts).a (fun us hu => by injection hu with hu; rw [hu])).trans (by rw [if_neg (by simp), if_neg h12])
            | error e => rfl
          clear HM cT hb2 cW cP tail
          have cS := stop_es _ P en σ (HE.out.bl HB.out)
          have cQ := fun wx (hb : Bl w wx) => pass_es wx P en σ (HE.out.bl hb)
          go_wp2_with fail
          refine (cI _).mono ?_
          rintro e w3 ⟨rfl, rfl⟩
          go_wp2_with fail
          refine (cN _ HB.out).mono ?_
          rintro e w3 ⟨rfl, rfl⟩
          go_wp2_with fail
          refine (cC _ HB.out _ (by decide)).mono ?_
          rintro e w3 ⟨he, rfl⟩
          have he : e = .returned (.bool false) := he.trans (congrArg (fun b => Ending.returned (.bool b)) hO)
          clear hO cC cI cN
          obtain rfl := he.symm
          go_wp2_with fail
          refine cS.mono ?_
          rintro e w6 ⟨rfl, hb6⟩
          have HB6 : Hid (Bl w w6) := HB.out.trans hb6
          clear hb6 cS
          cases σ with
          | error ek =>
            go_wp2
            go_ret
            exact ⟨rfl, by rw [HM'.out]; exact HE.out.bl HB6.out, Gp.bl HB6.out⟩
          | ok ts =>
            go_wp2_with fail
            refine (cQ _ HB6.out).mono ?_
            rintro e w7 ⟨rfl, hE, hg⟩
            go_wp2
            go_ret
            exact ⟨rfl, by rw [HM'.out]; exact hE, (Gp.bl HB6.out).trans hg⟩
/-- An expression, whatever stands behind it. -/
noncomputable def exR (en : Nat) (ts : List Tk) : Rs Ex := match row nb en (10 * ts.length + 10) 1 0 ts with
  | some q => q
  | none => .error (0, 0)
noncomputable def exS (en : Nat) (σ : Sg) : Sg := match σ with
  | .ok ts => (match exR en ts with | .ok (_, r) => .ok r | .error e => .error e)
  | .error e => .error e
theorem expr_es (w : World) (P en : Nat) (σ : Sg) (h : Es w P en σ) :
    Calls Tryz.prog 85 #[.pointer (some ⟨P, 0, none⟩), .int .i64 1, .int .i64 0] w fun e w' => (∃ o, e = .returned (.pointer o) ∧ ∀ ts x r, σ = .ok ts → exR en ts = .ok (x, r) → IsX w' (.pointer o) x) ∧ Es w' P en (exS en σ) ∧ Gp P w w' := by
  cases σ with
  | error cp =>
    obtain ⟨c, p⟩ := cp
    obtain ⟨hc, ts, hE⟩ := h
    refine (expr_off w P ts en c p 1 0 hE hc).mono ?_
    rintro e w' ⟨rfl, hb⟩
    exact ⟨⟨none, rfl, fun _ _ _ h => by cases h⟩, ⟨hc, ts, hE.step hb⟩, Gp.bl hb⟩
  | ok ts =>
    have hx : ∃ q, row nb en (10 * ts.length + 10) 1 0 ts = some q := by
      cases h : row nb en (10 * ts.length + 10) 1 0 ts with
      | none => exact absurd h ((some_all _).1 1 0 _ (by omega) (by omega))
      | some q => exact ⟨q, rfl⟩
    obtain ⟨q, hq⟩ := hx
    obtain ⟨g, hg⟩ := (both_ways _).1 1 0 _ q (by omega) (by omega) hq
    have hR : exR en ts = q := by unfold exR; rw [hq]
    refine (expr_at P en g 1 0 ts q w (by omega) (by omega) (by omega) h hg).mono ?_
    rintro e w' ⟨hgp, hans⟩
    unfold exS
    dsimp only
    rw [hR]
    cases q with
    | ok xr =>
      obtain ⟨x, r⟩ := xr
      obtain ⟨v, rfl, h1, h2, _⟩ := hans
      obtain ⟨b, rfl, _⟩ := h1.ptr
      refine ⟨⟨_, rfl, fun us y s hu hy => ?_⟩, h2, hgp⟩
      injection hu with hu
      subst hu
      rw [hR] at hy
      injection hy with hy
      injection hy with hy _
      rw [← hy]; exact h1
    | error cp =>
      obtain ⟨c, p⟩ := cp
      obtain ⟨o, ts', rfl, h1, _, h2⟩ := hans
      refine ⟨⟨o, rfl, fun us y s hu hy => ?_⟩, ⟨h2, ts', h1⟩, hgp⟩
      injection hu with hu
      subst hu
      rw [hR] at hy
      cases hy
/-- In brackets, whatever was seen. -/
noncomputable def brS (en : Nat) (σ : Sg) : Sg := match σ with
  | .ok ts => (match many nb en ts with | .ok (_, r) => .ok r | .error e => .error e)
  | .error e => .error e
theorem br_is (en : Nat) (σ : Sg) : mu en [93] (exS en (mu en [91] σ)) = brS en σ ∧ ∀ ts x r, σ = .ok ts → many nb en ts = .ok (x, r) → ∃ us r', mu en [91] σ = .ok us ∧ exR en us = .ok (x, r') := by
  cases σ with
  | error e => exact ⟨rfl, fun _ _ _ h => by cases h⟩
  | ok ts =>
    unfold brS mu exS many
    dsimp only
    cases h1 : want en [91] ts with
    | error e => exact ⟨rfl, fun _ _ _ h hm => by injection h with h; subst h; rw [h1] at hm; cases hm⟩
    | ok us =>
      dsimp only
      have e2 : rx nb en [93] us = match exR en us with | .ok (x, r) => (if (hd en r).t = [93] then .ok (x, r) else .error (3, (hd en r).a)) | .error e => .error e := by
        unfold rx exR
        cases row nb en (10 * us.length + 10) 1 0 us with
        | none => rfl
        | some q => cases q <;> rfl
      rw [e2]
      cases h2 : exR en us with
      | error e =>
        refine ⟨rfl, fun _ _ _ h hm => ?_⟩
        injection h with h; subst h; rw [h1] at hm; dsimp only at hm; rw [e2, h2] at hm; cases hm
      | ok xr =>
        obtain ⟨x, r⟩ := xr
        dsimp only
        refine ⟨?_, fun _ y s h hm => ⟨us, r, rfl, ?_⟩⟩
        · unfold want
          by_cases hc : (hd en r).t = [93]
          · rw [if_pos hc, if_pos hc]
          · rw [if_neg hc, if_neg hc]
        · injection h with h; subst h; rw [h1] at hm; dsimp only at hm; rw [e2, h2] at hm
          dsimp only at hm
          split at hm
          · rename_i h3
            split at h3
            · cases h3
            · cases hm
          · rename_i h3
            injection hm with hm
            injection hm with hm _
            split at h3
            · injection h3 with h3
              injection h3 with h3 _
              rw [h2, ← hm, ← h3]
            · cases h3
set_option maxRecDepth 10000 in
theorem bracket_es (w : World) (P en : Nat) (σ : Sg) (h : Es w P en σ) :
    Calls Tryz.prog 86 #[.pointer (some ⟨P, 0, none⟩)] w fun e w' => (∃ o, e = .returned (.pointer o) ∧ ∀ ts x r, σ = .ok ts → many nb en ts = .ok (x, r) → IsX w' (.pointer o) x) ∧ Es w' P en (brS en σ) ∧ Gp P w w' := by
  obtain ⟨q1, q2⟩ := br_is en σ
  have c1 := must_es w P en σ [91] (by simp) h
  have HQ : Hid (mu en [93] (exS en (mu en [91] σ)) = brS en σ ∧ ∀ ts x r, σ = .ok ts → many nb en ts = .ok (x, r) → ∃ us r', mu en [91] σ = .ok us ∧ exR en us = .ok (x, r')) := ⟨q1, q2⟩
  clear q1 q2 h
  go_enter Tryz.func86, Tryz.ntmps86
  go_wp2_with fail
  refine c1.mono ?_
  rintro e w2 ⟨rfl, hE2, hg2⟩
  have c2 := expr_es w2 P en _ hE2
  have HG2 : Hid (Gp P w w2) := hg2
  clear c1 hE2 hg2
  go_wp2_with fail
  refine c2.mono ?_
  rintro e w3 ⟨⟨o, rfl, ho⟩, hE3, hg3⟩
  have c3 := must_es w3 P en _ [93] (by simp) hE3
  have HG3 : Hid (Gp P w w3 ∧ ∀ ts x r, mu en [91] σ = .ok ts → exR en ts = .ok (x, r) → IsX w3 (.pointer o) x) := ⟨HG2.out.trans hg3, ho⟩
  have HE3 : Hid (Es w3 P en (exS en (mu en [91] σ))) := hE3
  clear c2 hE3 hg3 ho
  go_wp2_with fail
  refine c3.mono ?_
  rintro e w4 ⟨rfl, hE4, hg4⟩
  rw [HQ.out.1] at hE4
  have HR : Hid (Es w4 P en (brS en σ) ∧ Gp P w w4 ∧ ∀ ts x r, σ = .ok ts → many nb en ts = .ok (x, r) → IsX w4 (.pointer o) x) := ⟨hE4, HG3.out.1.trans hg4, fun ts x r hs hm => by
    obtain ⟨us, r', k1, k2⟩ := HQ.out.2 ts x r hs hm
    exact (HG3.out.2 us x r' k1 k2).keep (HE3.out.kx hg4)⟩
  clear c3 hE4 hg4
  go_wp2
  go_ret
  exact ⟨⟨o, rfl, HR.out.2.2⟩, HR.out.1, HR.out.2.1⟩
end Go.Proofs.YtpanodaecjlgaaaGreatDoor.tr
