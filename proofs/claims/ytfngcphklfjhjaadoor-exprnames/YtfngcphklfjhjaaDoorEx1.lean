/- Expressions as they lie; a reader of tokens: next, take, at; binds, number. -/
import Derived.Test.YtfngcphklfjhjaaDoorLx5
import Derived.Test.YtfngcphklfjhjaaDoorExP
import Derived.Laws.Rows
namespace Go.Proofs.YtfngcphklfjhjaaDoor.ex
set_option linter.unusedVariables false
open Go.ChangeShapes Go.WideShapes Go.ChangeAt Go.RowKit
open mem lx

/-- The cells of a part of an expression. -/
def cellsX (code a n : Int) (nm op : List UInt8) (l r : Value) : Obj := .cells #[.int .i64 code, .int .i64 a, .int .i64 n, .string (tx nm), .string (tx op), l, r] 89 (0, 0)
/-- An expression, as it lies. -/
def IsX (w : World) : Value → Ex → Prop
  | v, .num a n => ∃ b, v = .pointer (some ⟨b, 0, none⟩) ∧ w.heap[b]? = some (cellsX 1 a n [] [] (.pointer none) (.pointer none))
  | v, .nam a t => ∃ b, v = .pointer (some ⟨b, 0, none⟩) ∧ w.heap[b]? = some (cellsX 2 a 0 t [] (.pointer none) (.pointer none))
  | v, .bin a o l r => ∃ b vl vr, v = .pointer (some ⟨b, 0, none⟩) ∧ w.heap[b]? = some (cellsX 3 a 0 [] o vl vr) ∧ IsX w vl l ∧ IsX w vr r
/-- Parts of expressions stay as they are. -/
def Kx (w w' : World) : Prop := ∀ (b : Nat) (cs : Array Value), w.heap[b]? = some (.cells cs 89 (0, 0)) → w'.heap[b]? = some (.cells cs 89 (0, 0))
theorem Kx.bl {w w' : World} (h : Bl w w') : Kx w w' := fun b cs hb => by rw [Below.block h b (lt_of_heap hb)]; exact hb
theorem Kx.trans {a b c : World} (h : Kx a b) (k : Kx b c) : Kx a c := fun x cs hx => k x cs (h x cs hx)
theorem IsX.keep {w w' : World} (h : Kx w w') {v : Value} {x : Ex} (hx : IsX w v x) : IsX w' v x := by
  induction x generalizing v with
  | num a n =>
    obtain ⟨b, h1, h2⟩ := hx
    exact ⟨b, h1, h _ _ h2⟩
  | nam a t =>
    obtain ⟨b, h1, h2⟩ := hx
    exact ⟨b, h1, h _ _ h2⟩
  | bin a o l r il ir =>
    obtain ⟨b, vl, vr, h1, h2, h3, h4⟩ := hx
    exact ⟨b, vl, vr, h1, h _ _ h2, il h3, ir h4⟩
theorem IsX.ptr {w : World} {v : Value} {x : Ex} (hx : IsX w v x) : ∃ b, v = .pointer (some ⟨b, 0, none⟩) ∧ b < w.heap.size := by
  cases x with
  | num a n => obtain ⟨b, h1, h2⟩ := hx; exact ⟨b, h1, lt_of_heap h2⟩
  | nam a t => obtain ⟨b, h1, h2⟩ := hx; exact ⟨b, h1, lt_of_heap h2⟩
  | bin a o l r => obtain ⟨b, vl, vr, h1, h2, _⟩ := hx; exact ⟨b, h1, lt_of_heap h2⟩
/-- What was there is as it was, but for one block. -/
structure Gp (P : Nat) (w w' : World) : Prop where
  os : w'.os = w.os
  tape : w'.tape = w.tape
  output : w'.output = w.output
  size : w.heap.size ≤ w'.heap.size
  block : ∀ k, k < w.heap.size → k ≠ P → w'.heap[k]? = w.heap[k]?
theorem Gp.bl {P : Nat} {w w' : World} (h : Bl w w') : Gp P w w' := ⟨h.os, h.tape, h.output, h.size, fun k hk _ => Below.block h k hk⟩
theorem Gp.refl (P : Nat) (w : World) : Gp P w w := Gp.bl (Bl.refl _)
theorem Gp.trans {P : Nat} {a b c : World} (h : Gp P a b) (k : Gp P b c) : Gp P a c :=
  ⟨k.os.trans h.os, k.tape.trans h.tape, k.output.trans h.output, Nat.le_trans h.size k.size, fun x hx hne => (k.block x (Nat.lt_of_lt_of_le hx h.size) hne).trans (h.block x hx hne)⟩
theorem Gp.set {P j : Nat} {w : World} (v : Value) : Gp P w (w.setCell ⟨P, j, none⟩ v) :=
  let g := grown_set w P j v
  ⟨g.os, g.tape, g.output, g.size, fun k hk hne => g.block k hk (fun e => hne (by injection e))⟩
theorem Gp.setNew {P N j : Nat} {w w' : World} (h : Gp P w w') (hN : w.heap.size ≤ N) (v : Value) : Gp P w (w'.setCell ⟨N, j, none⟩ v) :=
  let g := grown_set w' N j v
  ⟨g.os.trans h.os, g.tape.trans h.tape, g.output.trans h.output, Nat.le_trans h.size g.size, fun k hk hne => (g.block k (Nat.lt_of_lt_of_le hk h.size) (fun e => by injection e with e; omega)).trans (h.block k hk hne)⟩
theorem Gp.alloc {P : Nat} {w w' : World} (h : Gp P w w') (o : Obj) : Gp P w (w'.alloc o) := h.trans (Gp.bl ((Bl.refl _).alloc _))
theorem Gp.kx {P : Nat} {w w' : World} {cs : Array Value} {fz : Nat × Nat} (h : Gp P w w') (hp : w.heap[P]? = some (.cells cs 66 fz)) : Kx w w' := fun b cs' hb => by
  rw [h.block b (lt_of_heap hb) (fun e => by rw [e, hp] at hb; simp at hb)]
  exact hb
theorem Gp.below {P : Nat} {w0 w w' : World} (h0 : Bl w0 w) (h : Gp P w w') (hP : w0.heap.size ≤ P) : Bl w0 w' :=
  ⟨h.os.trans h0.os, h.tape.trans h0.tape, h.output.trans h0.output, Nat.le_trans h0.size h.size, fun k hk => by
    rw [h.block k (Nat.lt_of_lt_of_le hk h0.size) (by omega)]
    exact Below.block h0 k hk⟩
/-- A reader of these tokens, with so many brackets open. -/
structure Rd (w : World) (P : Nat) (ts : List Tk) (d en : Nat) : Prop where
  ex : ∃ (p : Option Addr) (c : Nat), w.heap[P]? = some (.cells #[.slice p ts.length c, .int .i64 (en : Int), .int .i64 (d : Int)] 66 (0, 0)) ∧ ts.length ≤ c ∧ tr.In w p ts ∧ (∀ x, p = some x → x.block < w.heap.size ∧ x.block ≠ P)
theorem In.gp {P : Nat} {w w' : World} {p : Option Addr} {l : List Tk} (h : tr.In w p l) (hg : Gp P w w') (hp : ∀ x, p = some x → x.block < w.heap.size ∧ x.block ≠ P) : tr.In w' p l := by
  rcases h with h | ⟨x, h1, h2⟩
  · exact Or.inl h
  · refine Or.inr ⟨x, h1, fun k u hk => ?_⟩
    have := h2 k u hk
    obtain ⟨q1, q2⟩ := hp x h1
    have hb : (x.add k).block = x.block := by cases k <;> rfl
    unfold World.cell? at this ⊢
    rw [hb, hg.block _ q1 q2, ← hb]
    exact this
theorem Rd.step {w w' : World} {P : Nat} {ts : List Tk} {d en : Nat} (h : Rd w P ts d en) (hb : Bl w w') : Rd w' P ts d en := by
  obtain ⟨p, c, h1, h2, h3, h4⟩ := h.ex
  exact ⟨p, c, by rw [Below.block hb P (lt_of_heap h1)]; exact h1, h2, h3.step hb, fun x hx => ⟨Nat.lt_of_lt_of_le (h4 x hx).1 hb.size, (h4 x hx).2⟩⟩
theorem Rd.is {w : World} {P : Nat} {ts : List Tk} {d en : Nat} (h : Rd w P ts d en) : ∃ cs, w.heap[P]? = some (.cells cs 66 (0, 0)) := by
  obtain ⟨p, c, h1, _⟩ := h.ex
  exact ⟨_, h1⟩
theorem Rd.lt {w : World} {P : Nat} {ts : List Tk} {d en : Nat} (h : Rd w P ts d en) : P < w.heap.size := by
  obtain ⟨cs, h1⟩ := h.is
  exact lt_of_heap h1
def tkV (t : Tk) : Value := .agg #[.string (tx t.t), .int .i64 (t.a : Int)]
theorem infoT : (Tryd.prog.info? 35).map (·.size) = some 2 := by kernel_rfl
theorem next_at (w : World) (P : Nat) (ts : List Tk) (d en : Nat) (h : Rd w P ts d en) (hl : ts.length ≤ 100000) :
    Calls Tryd.prog 37 #[.pointer (some ⟨P, 0, none⟩)] w fun e w' => e = .returned (tkV (hd en ts)) ∧ Bl w w' := by
  obtain ⟨p, c, h1, h2, h3, h4⟩ := h.ex
  have hP := lt_of_heap h1
  have c0 : w.cell? ⟨P, 0, none⟩ = some (.slice p ts.length c) := by rw [cell_of h1]; rfl
  have c1 : w.cell? ⟨P, 1, none⟩ = some (.int .i64 (en : Int)) := by rw [cell_of h1]; rfl
  cases ts with
  | nil =>
    rw [show ([] : List Tk).length = 0 from rfl] at c0
    clear h1 h2 h3 h4 hl
    go_enter Tryd.func37, Tryd.ntmps37
    go_wp2
    exact bodyPost_ret (v := tkV ⟨[], en⟩) (results_cell_row rfl _ _ w.heap.size 35 #[.string ⟨#[]⟩, .int .i64 (en : Int)] (0, 0) _ rfl (new_at w _) Tryd.underlying35 rfl infoT) rfl ⟨rfl, (Bl.refl _).alloc _⟩
  | cons t ts =>
    obtain ⟨x, rfl, g0, g1⟩ := h3.at' 0 (by simp)
    obtain ⟨n, hn⟩ : ∃ n, n = ts.length := ⟨_, rfl⟩
    rw [show (t :: ts).length = n + 1 by simp [hn]] at c0 h2 hl
    simp only [Nat.zero_mul, Addr.add_zero'] at g0 g1
    rw [show (t :: ts)[0] = t from rfl] at g0 g1
    obtain ⟨q1, q2⟩ := h4 x rfl
    have hne : ((((n + 1 : Nat) : Int)) == 0) = false := by rw [beq_eq_false_iff_ne]; omega
    have hxs : ¬ x.block = w.heap.size := by omega
    have g0' := at_bl ((Bl.refl w).alloc (.cells #[.string ⟨#[]⟩, .int .i64 0] 35)) g0
    have g1' := at_bl ((Bl.refl w).alloc (.cells #[.string ⟨#[]⟩, .int .i64 0] 35)) g1
    clear h1 h3 h4 hn h
    go_enter Tryd.func37, Tryd.ntmps37
    go_wp2
    exact bodyPost_ret (v := tkV t) (results_cell_row rfl _ _ w.heap.size 35 #[.string (tx t.t), .int .i64 (t.a : Int)] (0, 0) _ rfl (new_at w _) Tryd.underlying35 rfl infoT) rfl ⟨rfl, (Bl.refl _).alloc _⟩
set_option maxRecDepth 10000 in
theorem take_at (w : World) (P : Nat) (ts : List Tk) (d en : Nat) (h : Rd w P ts d en) (hl : ts.length ≤ 100000) :
    Calls Tryd.prog 50 #[.pointer (some ⟨P, 0, none⟩)] w fun e w' => e = .returned (tkV (hd en ts)) ∧ Rd w' P ts.tail d en ∧ Gp P w w' := by
  have cN := fun wx (hb : Bl w wx) => next_at wx P ts d en (h.step hb) hl
  obtain ⟨p, c, h1, h2, h3, h4⟩ := h.ex
  have hP := lt_of_heap h1
  have HR : Hid (Rd w P ts d en) := h
  clear h
  obtain ⟨N, hN⟩ : ∃ N, N = w.heap.size := ⟨_, rfl⟩
  have hPN : ¬ P = N := by omega
  have keep : ∀ w2 : World, Bl (w.alloc (.cells #[.string ⟨#[]⟩, .int .i64 0] 35)) w2 → w2.heap[N]? = some (.cells #[.string ⟨#[]⟩, .int .i64 0] 35 (0, 0)) ∧ Bl w w2 ∧ N < w2.heap.size := by
    intro w2 hb
    have h0 := new_at w (.cells #[.string ⟨#[]⟩, .int .i64 0] 35)
    rw [← hN] at h0
    have h1 := Below.block hb N (lt_of_heap h0)
    rw [h0] at h1
    exact ⟨h1, ((Bl.refl _).alloc _).trans hb, lt_of_heap h1⟩
  cases ts with
  | nil =>
    unfold tkV at cN ⊢
    have e0 : hd en ([] : List Tk) = ⟨[], en⟩ := rfl
    rw [e0] at cN ⊢
    generalize tx ([] : List UInt8) = S at *
    go_enter Tryd.func50, Tryd.ntmps50
    go_wp2_with fail
    refine (cN _ ((Bl.refl _).alloc _)).mono ?_
    rintro e w2 ⟨rfl, hb2⟩
    obtain ⟨k1, k2, k3⟩ := keep w2 hb2
    have c0 : w2.cell? ⟨P, 0, none⟩ = some (.slice p 0 c) := at_bl k2 (by rw [cell_of h1]; rfl)
    have hPs : P < w2.heap.size := by have := k2.size; omega
    have n0 : w2.cell? ⟨N, 0, none⟩ = some (.string ⟨#[]⟩) := by rw [cell_of k1]; rfl
    have n1 : w2.cell? ⟨N, 1, none⟩ = some (.int .i64 0) := by rw [cell_of k1]; rfl
    have z0 : w2.frozen? ⟨N, 0, none⟩ = false := by simp [World.frozen?, k1]
    have z1 : w2.frozen? ⟨N, 1, none⟩ = false := by simp [World.frozen?, k1]
    have HK : Hid (Bl w w2 ∧ w2.heap[N]? = some (.cells #[.string ⟨#[]⟩, .int .i64 0] 35 (0, 0))) := ⟨k2, k1⟩
    rw [← hN]
    have HN : Hid (N = w.heap.size) := hN
    clear k1 k2 hb2 cN keep h1 h2 h3 h4 hN hP
    go_wp2
    have hw : w.heap.size ≤ N := by have := HN.out; omega
    have hbl : Bl w (((w2.setCell ⟨N, 0, none⟩ (.string S)).setCell ⟨N, 1, none⟩ (.int .i64 (en : Int))).alloc (.cells #[.string S, .int .i64 (en : Int)] 35)) := ((HK.out.1.setCell hw _).setCell hw _).alloc _
    have hcl : (((w2.setCell ⟨N, 0, none⟩ (.string S)).setCell ⟨N, 1, none⟩ (.int .i64 (en : Int))).alloc (.cells #[.string S, .int .i64 (en : Int)] 35)).heap[N]? = some (.cells #[.string S, .int .i64 (en : Int)] 35 (0, 0)) := by
      have h1 : ((w2.setCell ⟨N, 0, none⟩ (.string S)).setCell ⟨N, 1, none⟩ (.int .i64 (en : Int))).heap[N]? = some (.cells #[.string S, .int .i64 (en : Int)] 35 (0, 0)) := by simp [World.setCell, Array.getElem?_modify, HK.out.2]
      rw [Below.block ((Bl.refl _).alloc _) N (lt_of_heap h1)]
      exact h1
    exact bodyPost_ret (v := .agg #[.string S, .int .i64 (en : Int)]) (results_cell_row rfl _ _ N 35 #[.string S, .int .i64 (en : Int)] (0, 0) _ rfl hcl Tryd.underlying35 rfl infoT) rfl ⟨rfl, HR.out.step hbl, Gp.bl hbl⟩
  | cons t ts =>
    unfold tkV at cN ⊢
    have e0 : hd en (t :: ts) = t := rfl
    rw [e0] at cN ⊢
    obtain ⟨n, hn⟩ : ∃ n, n = ts.length := ⟨_, rfl⟩
    have hx : ∃ x, p = some x := by
      rcases h3 with h | ⟨x, h, _⟩
      · cases h
      · exact ⟨x, h⟩
    obtain ⟨x, rfl⟩ := hx
    obtain ⟨q1, q2, q3⟩ := h3.cut rfl h2
    have hc1 : 1 ≤ c := by simp at h2; omega
    have hlc : (t :: ts).length = n + 1 := by simp [hn]
    rw [hlc] at h1 h2 hl
    obtain ⟨xb1, xb2⟩ := h4 x rfl
    obtain ⟨S, hS⟩ : ∃ S, S = tx t.t := ⟨_, rfl⟩
    obtain ⟨A, hA⟩ : ∃ A, A = t.a := ⟨_, rfl⟩
    rw [← hS, ← hA] at cN ⊢
    go_enter Tryd.func50, Tryd.ntmps50
    go_wp2_with fail
    refine (cN _ ((Bl.refl _).alloc _)).mono ?_
    rintro e w2 ⟨rfl, hb2⟩
    obtain ⟨k1, k2, k3⟩ := keep w2 hb2
    have h1' : w2.heap[P]? = _ := (Below.block k2 P hP).trans h1
    have c0 : w2.cell? ⟨P, 0, none⟩ = some (.slice (some x) (n + 1) c) := by rw [cell_of h1']; rfl
    have z2 : w2.frozen? ⟨P, 0, none⟩ = false := by simp [World.frozen?, h1']
    have hPs : P < w2.heap.size := by have := k2.size; omega
    have n0 : w2.cell? ⟨N, 0, none⟩ = some (.string ⟨#[]⟩) := by rw [cell_of k1]; rfl
    have n1 : w2.cell? ⟨N, 1, none⟩ = some (.int .i64 0) := by rw [cell_of k1]; rfl
    have z0 : w2.frozen? ⟨N, 0, none⟩ = false := by simp [World.frozen?, k1]
    have z1 : w2.frozen? ⟨N, 1, none⟩ = false := by simp [World.frozen?, k1]
    have HK : Hid (Bl w w2 ∧ w2.heap[N]? = some (.cells #[.string ⟨#[]⟩, .int .i64 0] 35 (0, 0)) ∧ w2.heap[P]? = some (.cells #[.slice (some x) (n + 1) c, .int .i64 (en : Int), .int .i64 (d : Int)] 66 (0, 0))) := ⟨k2, k1, h1'⟩
    rw [← hN]
    have HN : Hid (N = w.heap.size ∧ P < w.heap.size ∧ x.block < w.heap.size ∧ x.block ≠ P) := ⟨hN, hP, xb1, xb2⟩
    obtain ⟨Q, hQ⟩ : ∃ Q, Q = (if c = 1 then some x else some ⟨x.block, x.off + 2, none⟩) := ⟨_, rfl⟩
    have hQ' : (if c = 1 then some x else some ⟨x.block, x.off + 2, none⟩) = Q := hQ.symm
    rw [← hQ] at q1
    have HQ : Hid (tr.In w Q ts ∧ n = ts.length ∧ ts.length ≤ c - 1 ∧ (∀ y, Q = some y → y.block = x.block)) := by
      refine ⟨q1, hn, q3, fun y hy => ?_⟩
      rw [hQ] at hy
      split at hy
      · injection hy with hy; rw [← hy]
      · injection hy with hy; rw [← hy]
    clear k1 k2 hb2 cN keep h1 h1' h3 h4 hN hP q1 q2 q3 hQ hn hlc xb1 xb2 hS hA
    go_wp2
    obtain ⟨r1, r2, r3, r4⟩ := HN.out
    have hw : w.heap.size ≤ N := by omega
    obtain ⟨W, hW⟩ : ∃ W, W = (((w2.setCell ⟨P, 0, none⟩ (.slice Q n (c - 1))).setCell ⟨N, 0, none⟩ (.string S)).setCell ⟨N, 1, none⟩ (.int .i64 (A : Int))) := ⟨_, rfl⟩
    have hg : Gp P w (W.alloc (.cells #[.string S, .int .i64 (A : Int)] 35)) := by
      rw [hW]
      exact ((((Gp.bl HK.out.1).trans (Gp.set _)).setNew hw _).setNew hw _).alloc _
    have hcN : W.heap[N]? = some (.cells #[.string S, .int .i64 (A : Int)] 35 (0, 0)) := by
      rw [hW]
      simp [World.setCell, Array.getElem?_modify, HK.out.2.1, hPN]
    have hcP : W.heap[P]? = some (.cells #[.slice Q n (c - 1), .int .i64 (en : Int), .int .i64 (d : Int)] 66 (0, 0)) := by
      rw [hW]
      have hNP : ¬ N = P := fun e => hPN e.symm
      simp [World.setCell, Array.getElem?_modify, HK.out.2.2, hNP]
    have hbW : Bl W (W.alloc (.cells #[.string S, .int .i64 (A : Int)] 35)) := (Bl.refl _).alloc _
    have hcl := (Below.block hbW N (lt_of_heap hcN)).trans hcN
    have hcP' := (Below.block hbW P (lt_of_heap hcP)).trans hcP
    rw [← hW]
    clear hW
    obtain ⟨s1, s2, s3, s4⟩ := HQ.out
    refine bodyPost_ret (v := .agg #[.string S, .int .i64 (A : Int)]) (results_cell_row rfl _ _ N 35 #[.string S, .int .i64 (A : Int)] (0, 0) _ rfl hcl Tryd.underlying35 rfl infoT) rfl ⟨rfl, ⟨Q, c - 1, ?_, s3, ?_, ?_⟩, hg⟩
    · show _ = some (Obj.cells #[.slice Q ts.length (c - 1), _, _] _ _)
      rw [← s2]; exact hcP'
    · exact In.gp s1 hg (fun y hy => by have := s4 y hy; rw [this]; exact ⟨r3, r4⟩)
    · intro y hy
      have := s4 y hy
      rw [this]
      exact ⟨Nat.lt_of_lt_of_le r3 hg.size, r4⟩
theorem at_at (t : Tk) (c : Int) (w : World) : Calls Tryd.prog 36 #[tkV t, .int .i64 c] w fun e w' => ∃ B, e = .returned (.pointer (some ⟨B, 0, none⟩)) ∧ Thr w w' B c t.a := by
  unfold tkV
  go_enter Tryd.func36, Tryd.ntmps36
  go_wp2
  go_ret
  have hn := new_at (w.alloc (.cells #[.string (tx t.t), .int .i64 (t.a : Int)] 35)) (.cells #[.int .i64 c, .int .i64 (t.a : Int)] 82)
  have hs : (w.alloc (.cells #[.string (tx t.t), .int .i64 (t.a : Int)] 35)).heap.size = w.heap.size + 1 := by simp
  rw [hs] at hn
  exact ⟨_, rfl, Nat.le_succ _, hn, ((Bl.refl _).alloc _).alloc _⟩
theorem tl_tx (t : List UInt8) : (tx t).toList = t := by rw [ByteArray.toList_eq]; simp [tx]
theorem binds_at (t : List UInt8) (w : World) : Calls Tryd.prog 49 #[.string (tx t)] w fun e w' => e = .returned (.int .i64 (bd t : Int)) ∧ w' = w := by
  by_cases h0 : t = [61, 61]
  · subst h0
    show Calls Tryd.prog _ #[.string ⟨#[61, 61]⟩] w fun e w' => e = .returned (.int .i64 1) ∧ w' = w
    go_enter Tryd.func49, Tryd.ntmps49
    go_wp2
    go_ret
    exact ⟨rfl, rfl⟩
  by_cases h1 : t = [33, 61]
  · subst h1
    show Calls Tryd.prog _ #[.string ⟨#[33, 61]⟩] w fun e w' => e = .returned (.int .i64 1) ∧ w' = w
    go_enter Tryd.func49, Tryd.ntmps49
    go_wp2
    go_ret
    exact ⟨rfl, rfl⟩
  by_cases h2 : t = [60]
  · subst h2
    show Calls Tryd.prog _ #[.string ⟨#[60]⟩] w fun e w' => e = .returned (.int .i64 1) ∧ w' = w
    go_enter Tryd.func49, Tryd.ntmps49
    go_wp2
    go_ret
    exact ⟨rfl, rfl⟩
  by_cases h3 : t = [62]
  · subst h3
    show Calls Tryd.prog _ #[.string ⟨#[62]⟩] w fun e w' => e = .returned (.int .i64 1) ∧ w' = w
    go_enter Tryd.func49, Tryd.ntmps49
    go_wp2
    go_ret
    exact ⟨rfl, rfl⟩
  by_cases h4 : t = [43]
  · subst h4
    show Calls Tryd.prog _ #[.string ⟨#[43]⟩] w fun e w' => e = .returned (.int .i64 2) ∧ w' = w
    go_enter Tryd.func49, Tryd.ntmps49
    go_wp2
    go_ret
    exact ⟨rfl, rfl⟩
  by_cases h5 : t = [45]
  · subst h5
    show Calls Tryd.prog _ #[.string ⟨#[45]⟩] w fun e w' => e = .returned (.int .i64 2) ∧ w' = w
    go_enter Tryd.func49, Tryd.ntmps49
    go_wp2
    go_ret
    exact ⟨rfl, rfl⟩
  by_cases h6 : t = [124]
  · subst h6
    show Calls Tryd.prog _ #[.string ⟨#[124]⟩] w fun e w' => e = .returned (.int .i64 2) ∧ w' = w
    go_enter Tryd.func49, Tryd.ntmps49
    go_wp2
    go_ret
    exact ⟨rfl, rfl⟩
  by_cases h7 : t = [42]
  · subst h7
    show Calls Tryd.prog _ #[.string ⟨#[42]⟩] w fun e w' => e = .returned (.int .i64 3) ∧ w' = w
    go_enter Tryd.func49, Tryd.ntmps49
    go_wp2
    go_ret
    exact ⟨rfl, rfl⟩
  by_cases h8 : t = [38]
  · subst h8
    show Calls Tryd.prog _ #[.string ⟨#[38]⟩] w fun e w' => e = .returned (.int .i64 3) ∧ w' = w
    go_enter Tryd.func49, Tryd.ntmps49
    go_wp2
    go_ret
    exact ⟨rfl, rfl⟩
  have e0 : bd t = 0 := by unfold bd; rw [if_neg (by simp [h0, h1, h2, h3]), if_neg (by simp [h4, h5, h6]), if_neg (by simp [h7, h8])]
  have htl := tl_tx t
  have n0 : (t == [61, 61]) = false := by rw [beq_eq_false_iff_ne]; exact h0
  have n1 : (t == [33, 61]) = false := by rw [beq_eq_false_iff_ne]; exact h1
  have n2 : (t == [60]) = false := by rw [beq_eq_false_iff_ne]; exact h2
  have n3 : (t == [62]) = false := by rw [beq_eq_false_iff_ne]; exact h3
  have n4 : (t == [43]) = false := by rw [beq_eq_false_iff_ne]; exact h4
  have n5 : (t == [45]) = false := by rw [beq_eq_false_iff_ne]; exact h5
  have n6 : (t == [124]) = false := by rw [beq_eq_false_iff_ne]; exact h6
  have n7 : (t == [42]) = false := by rw [beq_eq_false_iff_ne]; exact h7
  have n8 : (t == [38]) = false := by rw [beq_eq_false_iff_ne]; exact h8
  rw [e0]
  generalize tx t = S at *
  clear h0 h1 h2 h3 h4 h5 h6 h7 h8 e0
  go_enter Tryd.func49, Tryd.ntmps49
  go_wp2
  go_ret
  exact ⟨rfl, rfl⟩
theorem number_yes (t : List UInt8) (w : World) : Calls Tryd.prog 63 #[.string (tx t)] w fun e w' => e = .returned (.bool (isU t)) ∧ w' = w := by
  cases t with
  | nil =>
    show Calls Tryd.prog _ #[.string ⟨#[]⟩] w fun e w' => e = .returned (.bool false) ∧ w' = w
    go_enter Tryd.func63, Tryd.ntmps63
    go_wp2
    go_ret
    exact ⟨rfl, rfl⟩
  | cons c r =>
    have h0 : 0 < (tx (c :: r)).size := by rw [tx_size]; simp
    have e1 : ((((tx (c :: r))[0]'h0).toNat : Nat) : Int) = (c.toNat : Int) := rfl
    have hne : ((tx (c :: r)).toList == []) = false := by rw [tl_tx]; rfl
    have hU : isU (c :: r) = dg (c.toNat : Int) := rfl
    rw [hU]
    generalize (c.toNat : Int) = x at *
    generalize tx (c :: r) = S at *
    go_enter Tryd.func63, Tryd.ntmps63
    go_wp2
    all_goals
      go_ret
      refine ⟨ret_bool ?_, rfl⟩
      rw [Bool.eq_iff_iff]
      simp [dg]
      try omega
end Go.Proofs.YtfngcphklfjhjaaDoor.ex
