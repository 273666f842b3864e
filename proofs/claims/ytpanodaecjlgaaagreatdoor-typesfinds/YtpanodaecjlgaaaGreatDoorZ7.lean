/- Texts laid together: Ex1, Dig, Digs1, Digs2. -/
import Derived.Test.YtpanodaecjlgaaaGreatDoorZ6
import Derived.Test.YtpanodaecjlgaaaGreatDoorZ2
import Derived.Laws.Rows
import Derived.WalkKit
import Derived.ProofKit
import Derived.OpenShut
import Derived.Laws.BytesArg
import Derived.Test.YtpanodaecjlgaaaGreatDoorRows
import Derived.Test.YtpanodaecjlgaaaGreatDoorZ1
import Derived.WalkLawsBesides
import Derived.WalkSpells
/- Expressions as they lie; a reader of tokens: next, take, at; binds, number. -/
namespace Go.Proofs.YtpanodaecjlgaaaGreatDoor.ex
set_option linter.unusedVariables false
open Go.ChangeShapes Go.WideShapes Go.ChangeAt Go.RowKit
open mem lx

/-- The cells of a part of an expression. -/
def cellsX (code a n : Int) (nm op : List UInt8) (l r : Value) : Obj := .cells #[.int .i64 code, .int .i64 a, .int .i64 n, .string (tx nm), .string (tx op), l, r] 118 (0, 0)
/-- An expression, as it lies. -/
def IsX (w : World) : Value → Ex → Prop
  | v, .num a n => ∃ b, v = .pointer (some ⟨b, 0, none⟩) ∧ w.heap[b]? = some (cellsX 1 a n [] [] (.pointer none) (.pointer none))
  | v, .nam a t => ∃ b, v = .pointer (some ⟨b, 0, none⟩) ∧ w.heap[b]? = some (cellsX 2 a 0 t [] (.pointer none) (.pointer none))
  | v, .bin a o l r => ∃ b vl vr, v = .pointer (some ⟨b, 0, none⟩) ∧ w.heap[b]? = some (cellsX 3 a 0 [] o vl vr) ∧ IsX w vl l ∧ IsX w vr r
/-- Parts of expressions stay as they are. -/
def Kx (w w' : World) : Prop := ∀ (b : Nat) (cs : Array Value), w.heap[b]? = some (.cells cs 118 (0, 0)) → w'.heap[b]? = some (.cells cs 118 (0, 0))
theorem Kx.bl {w w' : World} (h : Bl w w') : Kx w w' := fun b cs hb => by rw [Below.block h b (lt_of_heap hb)]; exact hb
theorem Kx.trans {a b c : World} (h : Kx a b) (k : Kx b c) : Kx a c := fun x cs hx => k x cs (h x cs hx)
theorem IsX.keep {w w' : World} (h : Kx w w') {v : Value} {x : Ex} (hx : IsX w v x) : IsX w' v x := by
  induction x generalizing v with
  | num a n =>
    obtain ⟨b, h1, h2⟩ := hx
    exact ⟨b, h1, h _ _ h2⟩
  | nam a t =>
    obtain ⟨b, h1, h2⟩ := hx
    exact ⟨b, h1, h _ _ h2⟩
  | bin a o l r il ir =>
    obtain ⟨b, vl, vr, h1, h2, h3, h4⟩ := hx
    exact ⟨b, vl, vr, h1, h _ _ h2, il h3, ir h4⟩
theorem IsX.ptr {w : World} {v : Value} {x : Ex} (hx : IsX w v x) : ∃ b, v = .pointer (some ⟨b, 0, none⟩) ∧ b < w.heap.size := by
  cases x with
  | num a n => obtain ⟨b, h1, h2⟩ := hx; exact ⟨b, h1, lt_of_heap h2⟩
  | nam a t => obtain ⟨b, h1, h2⟩ := hx; exact ⟨b, h1, lt_of_heap h2⟩
  | bin a o l r => obtain ⟨b, vl, vr, h1, h2, _⟩ := hx; exact ⟨b, h1, lt_of_heap h2⟩
/-- What was there is as it was, but for one block. -/
structure Gp (P : Nat) (w w' : World) : Prop where
  os : w'.os = w.os
  tape : w'.tape = w.tape
  output : w'.output = w.output
  size : w.heap.size ≤ w'.heap.size
  block : ∀ k, k < w.heap.size → k ≠ P → w'.heap[k]? = w.heap[k]?
theorem Gp.bl {P : Nat} {w w' : World} (h : Bl w w') : Gp P w w' := ⟨h.os, h.tape, h.output, h.size, fun k hk _ => Below.block h k hk⟩
theorem Gp.refl (P : Nat) (w : World) : Gp P w w := Gp.bl (Bl.refl _)
theorem Gp.trans {P : Nat} {a b c : World} (h : Gp P a b) (k : Gp P b c) : Gp P a c :=
  ⟨k.os.trans h.os, k.tape.trans h.tape, k.output.trans h.output, Nat.le_trans h.size k.size, fun x hx hne => (k.block x (Nat.lt_of_lt_of_le hx h.size) hne).trans (h.block x hx hne)⟩
theorem Gp.set {P j : Nat} {w : World} (v : Value) : Gp P w (w.setCell ⟨P, j, none⟩ v) :=
  let g := grown_set w P j v
  ⟨g.os, g.tape, g.output, g.size, fun k hk hne => g.block k hk (fun e => hne (by injection e))⟩
theorem Gp.setNew {P N j : Nat} {w w' : World} (h : Gp P w w') (hN : w.heap.size ≤ N) (v : Value) : Gp P w (w'.setCell ⟨N, j, none⟩ v) :=
  let g := grown_set w' N j v
  ⟨g.os.trans h.os, g.tape.trans h.tape, g.output.trans h.output, Nat.le_trans h.size g.size, fun k hk hne => (g.block k (Nat.lt_of_lt_of_le hk h.size) (fun e => by injection e with e; omega)).trans (h.block k hk hne)⟩
theorem Gp.alloc {P : Nat} {w w' : World} (h : Gp P w w') (o : Obj) : Gp P w (w'.alloc o) := h.trans (Gp.bl ((Bl.refl _).alloc _))
theorem Gp.kx {P : Nat} {w w' : World} {cs : Array Value} {fz : Nat × Nat} (h : Gp P w w') (hp : w.heap[P]? = some (.cells cs 208 fz)) : Kx w w' := fun b cs' hb => by
  rw [h.block b (lt_of_heap hb) (fun e => by rw [e, hp] at hb; simp at hb)]
  exact hb
theorem Gp.below {P : Nat} {w0 w w' : World} (h0 : Bl w0 w) (h : Gp P w w') (hP : w0.heap.size ≤ P) : Bl w0 w' :=
  ⟨h.os.trans h0.os, h.tape.trans h0.tape, h.output.trans h0.output, Nat.le_trans h0.size h.size, fun k hk => by
    rw [h.block k (Nat.lt_of_lt_of_le hk h0.size) (by omega)]
    exact Below.block h0 k hk⟩
/-- A reader of these tokens, with so many brackets open. -/
structure Rd (w : World) (P : Nat) (ts : List Tk) (d en : Nat) : Prop where
  ex : ∃ (p : Option Addr) (c : Nat), w.heap[P]? = some (.cells #[.slice p ts.length c, .int .i64 (en : Int), .int .i64 (d : Int)] 208 (0, 0)) ∧ ts.length ≤ c ∧ tr.In w p ts ∧ (∀ x, p = some x → x.block < w.heap.size ∧ x.block ≠ P)
theorem In.gp {P : Nat} {w w' : World} {p : Option Addr} {l : List Tk} (h : tr.In w p l) (hg : Gp P w w') (hp : ∀ x, p = some x → x.block < w.heap.size ∧ x.block ≠ P) : tr.In w' p l := by
  rcases h with h | ⟨x, h1, h2⟩
  · exact Or.inl h
  · refine Or.inr ⟨x, h1, fun k u hk => ?_⟩
    have := h2 k u hk
    obtain ⟨q1, q2⟩ := hp x h1
    have hb : (x.add k).block = x.block := by cases k <;> rfl
    unfold World.cell? at this ⊢
    rw [hb, hg.block _ q1 q2, ← hb]
    exact this
theorem Rd.step {w w' : World} {P : Nat} {ts : List Tk} {d en : Nat} (h : Rd w P ts d en) (hb : Bl w w') : Rd w' P ts d en := by
  obtain ⟨p, c, h1, h2, h3, h4⟩ := h.ex
  exact ⟨p, c, by rw [Below.block hb P (lt_of_heap h1)]; exact h1, h2, h3.step hb, fun x hx => ⟨Nat.lt_of_lt_of_le (h4 x hx).1 hb.size, (h4 x hx).2⟩⟩
theorem Rd.is {w : World} {P : Nat} {ts : List Tk} {d en : Nat} (h : Rd w P ts d en) : ∃ cs, w.heap[P]? = some (.cells cs 208 (0, 0)) := by
  obtain ⟨p, c, h1, _⟩ := h.ex
  exact ⟨_, h1⟩
theorem Rd.lt {w : World} {P : Nat} {ts : List Tk} {d en : Nat} (h : Rd w P ts d en) : P < w.heap.size := by
  obtain ⟨cs, h1⟩ := h.is
  exact lt_of_heap h1
def tkV (t : Tk) : Value := .agg #[.string (tx t.t), .int .i64 (t.a : Int)]
theorem infoT : (Tryz.prog.info? 49).map (·.size) = some 2 := by kernel_rfl
theorem next_at (w : World) (P : Nat) (ts : List Tk) (d en : Nat) (h : Rd w P ts d en) (hl : ts.length ≤ 100000) :
    Calls Tryz.prog 145 #[.pointer (some ⟨P, 0, none⟩)] w fun e w' => e = .returned (tkV (hd en ts)) ∧ Bl w w' := by
  obtain ⟨p, c, h1, h2, h3, h4⟩ := h.ex
  have hP := lt_of_heap h1
  have c0 : w.cell? ⟨P, 0, none⟩ = some (.slice p ts.length c) := by rw [cell_of h1]; rfl
  have c1 : w.cell? ⟨P, 1, none⟩ = some (.int .i64 (en : Int)) := by rw [cell_of h1]; rfl
  cases ts with
  | nil =>
    rw [show ([] : List Tk).length = 0 from rfl] at c0
    clear h1 h2 h3 h4 hl
    go_enter Tryz.func145, Tryz.ntmps145
    go_wp2
    exact bodyPost_ret (v := tkV ⟨[], en⟩) (results_cell_row rfl _ _ w.heap.size 49 #[.string ⟨#[]⟩, .int .i64 (en : Int)] (0, 0) _ rfl (new_at w _) Tryz.underlying49 rfl infoT) rfl ⟨rfl, (Bl.refl _).alloc _⟩
  | cons t ts =>
    obtain ⟨x, rfl, g0, g1⟩ := h3.at' 0 (by simp)
    obtain ⟨n, hn⟩ : ∃ n, n = ts.length := ⟨_, rfl⟩
    rw [show (t :: ts).length = n + 1 by simp [hn]] at c0 h2 hl
    simp only [Nat.zero_mul, Addr.add_zero'] at g0 g1
    rw [show (t :: ts)[0] = t from rfl] at g0 g1
    obtain ⟨q1, q2⟩ := h4 x rfl
    have hne : ((((n + 1 : Nat) : Int)) == 0) = false := by rw [beq_eq_false_iff_ne]; omega
    have hxs : ¬ x.block = w.heap.size := by omega
    have g0' := at_bl ((Bl.refl w).alloc (.cells #[.string ⟨#[]⟩, .int .i64 0] 49)) g0
    have g1' := at_bl ((Bl.refl w).alloc (.cells #[.string ⟨#[]⟩, .int .i64 0] 49)) g1
    clear h1 h3 h4 hn h
    go_enter Tryz.func145, Tryz.ntmps145
    go_wp2
    exact bodyPost_ret (v := tkV t) (results_cell_row rfl _ _ w.heap.size 49 #[.string (tx t.t), .int .i64 (t.a : Int)] (0, 0) _ rfl (new_at w _) Tryz.underlying49 rfl infoT) rfl ⟨rfl, (Bl.refl _).alloc _⟩
set_option maxRecDepth 10000 in
theorem take_at (w : World) (P : Nat) (ts : List Tk) (d en : Nat) (h : Rd w P ts d en) (hl : ts.length ≤ 100000) :
    Calls Tryz.prog 156 #[.pointer (some ⟨P, 0, none⟩)] w fun e w' => e = .returned (tkV (hd en ts)) ∧ Rd w' P ts.tail d en ∧ Gp P w w' := by
  have cN := fun wx (hb : Bl w wx) => next_at wx P ts d en (h.step hb) hl
  obtain ⟨p, c, h1, h2, h3, h4⟩ := h.ex
  have hP := lt_of_heap h1
  have HR : Hid (Rd w P ts d en) := h
  clear h
  obtain ⟨N, hN⟩ : ∃ N, N = w.heap.size := ⟨_, rfl⟩
  have hPN : ¬ P = N := by omega
  have keep : ∀ w2 : World, Bl (w.alloc (.cells #[.string ⟨#[]⟩, .int .i64 0] 49)) w2 → w2.heap[N]? = some (.cells #[.string ⟨#[]⟩, .int .i64 0] 49 (0, 0)) ∧ Bl w w2 ∧ N < w2.heap.size := by
    intro w2 hb
    have h0 := new_at w (.cells #[.string ⟨#[]⟩, .int .i64 0] 49)
    rw [← hN] at h0
    have h1 := Below.block hb N (lt_of_heap h0)
    rw [h0] at h1
    exact ⟨h1, ((Bl.refl _).alloc _).trans hb, lt_of_heap h1⟩
  cases ts with
  | nil =>
    unfold tkV at cN ⊢
    have e0 : hd en ([] : List Tk) = ⟨[], en⟩ := rfl
    rw [e0] at cN ⊢
    generalize tx ([] : List UInt8) = S at *
    go_enter Tryz.func156, Tryz.ntmps156
    go_wp2_with fail
    refine (cN _ ((Bl.refl _).alloc _)).mono ?_
    rintro e w2 ⟨rfl, hb2⟩
    obtain ⟨k1, k2, k3⟩ := keep w2 hb2
    have c0 : w2.cell? ⟨P, 0, none⟩ = some (.slice p 0 c) := at_bl k2 (by rw [cell_of h1]; rfl)
    have hPs : P < w2.heap.size := by have := k2.size; omega
    have n0 : w2.cell? ⟨N, 0, none⟩ = some (.string ⟨#[]⟩) := by rw [cell_of k1]; rfl
    have n1 : w2.cell? ⟨N, 1, none⟩ = some (.int .i64 0) := by rw [cell_of k1]; rfl
    have z0 : w2.frozen? ⟨N, 0, none⟩ = false := by simp [World.frozen?, k1]
    have z1 : w2.frozen? ⟨N, 1, none⟩ = false := by simp [World.frozen?, k1]
    have HK : Hid (Bl w w2 ∧ w2.heap[N]? = some (.cells #[.string ⟨#[]⟩, .int .i64 0] 49 (0, 0))) := ⟨k2, k1⟩
    rw [← hN]
    have HN : Hid (N = w.heap.size) := hN
    clear k1 k2 hb2 cN keep h1 h2 h3 h4 hN hP
    go_wp2
    have hw : w.heap.size ≤ N := by have := HN.out; omega
    have hbl : Bl w (((w2.setCell ⟨N, 0, none⟩ (.string S)).setCell ⟨N, 1, none⟩ (.int .i64 (en : Int))).alloc (.cells #[.string S, .int .i64 (en : Int)] 49)) := ((HK.out.1.setCell hw _).setCell hw _).alloc _
    have hcl : (((w2.setCell ⟨N, 0, none⟩ (.string S)).setCell ⟨N, 1, none⟩ (.int .i64 (en : Int))).alloc (.cells #[.string S, .int .i64 (en : Int)] 49)).heap[N]? = some (.cells #[.string S, .int .i64 (en : Int)] 49 (0, 0)) := by
      have h1 : ((w2.setCell ⟨N, 0, none⟩ (.string S)).setCell ⟨N, 1, none⟩ (.int .i64 (en : Int))).heap[N]? = some (.cells #[.string S, .int .i64 (en : Int)] 49 (0, 0)) := by simp [World.setCell, Array.getElem?_modify, HK.out.2]
      rw [Below.block ((Bl.refl _).alloc _) N (lt_of_heap h1)]
      exact h1
    exact bodyPost_ret (v := .agg #[.string S, .int .i64 (en : Int)]) (results_cell_row rfl _ _ N 49 #[.string S, .int .i64 (en : Int)] (0, 0) _ rfl hcl Tryz.underlying49 rfl infoT) rfl ⟨rfl, HR.out.step hbl, Gp.bl hbl⟩
  | cons t ts =>
    unfold tkV at cN ⊢
    have e0 : hd en (t :: ts) = t := rfl
    rw [e0] at cN ⊢
    obtain ⟨n, hn⟩ : ∃ n, n = ts.length := ⟨_, rfl⟩
    have hx : ∃ x, p = some x := by
      rcases h3 with h | ⟨x, h, _⟩
      · cases h
      · exact ⟨x, h⟩
    obtain ⟨x, rfl⟩ := hx
    obtain ⟨q1, q2, q3⟩ := h3.cut rfl h2
    have hc1 : 1 ≤ c := by simp at h2; omega
    have hlc : (t :: ts).length = n + 1 := by simp [hn]
    rw [hlc] at h1 h2 hl
    obtain ⟨xb1, xb2⟩ := h4 x rfl
    obtain ⟨S, hS⟩ : ∃ S, S = tx t.t := ⟨_, rfl⟩
    obtain ⟨A, hA⟩ : ∃ A, A = t.a := ⟨_, rfl⟩
    rw [← hS, ← hA] at cN ⊢
    go_enter Tryz.func156, Tryz.ntmps156
    go_wp2_with fail
    refine (cN _ ((Bl.refl _).alloc _)).mono ?_
    rintro e w2 ⟨rfl, hb2⟩
    obtain ⟨k1, k2, k3⟩ := keep w2 hb2
    have h1' : w2.heap[P]? = _ := (Below.block k2 P hP).trans h1
    have c0 : w2.cell? ⟨P, 0, none⟩ = some (.slice (some x) (n + 1) c) := by rw [cell_of h1']; rfl
    have z2 : w2.frozen? ⟨P, 0, none⟩ = false := by simp [World.frozen?, h1']
    have hPs : P < w2.heap.size := by have := k2.size; omega
    have n0 : w2.cell? ⟨N, 0, none⟩ = some (.string ⟨#[]⟩) := by rw [cell_of k1]; rfl
    have n1 : w2.cell? ⟨N, 1, none⟩ = some (.int .i64 0) := by rw [cell_of k1]; rfl
    have z0 : w2.frozen? ⟨N, 0, none⟩ = false := by simp [World.frozen?, k1]
    have z1 : w2.frozen? ⟨N, 1, none⟩ = false := by simp [World.frozen?, k1]
    have HK : Hid (Bl w w2 ∧ w2.heap[N]? = some (.cells #[.string ⟨#[]⟩, .int .i64 0] 49 (0, 0)) ∧ w2.heap[P]? = some (.cells #[.slice (some x) (n + 1) c, .int .i64 (en : Int), .int .i64 (d : Int)] 208 (0, 0))) := ⟨k2, k1, h1'⟩
    rw [← hN]
    have HN : Hid (N = w.heap.size ∧ P < w.heap.size ∧ x.block < w.heap.size ∧ x.block ≠ P) := ⟨hN, hP, xb1, xb2⟩
    obtain ⟨Q, hQ⟩ : ∃ Q, Q = (if c = 1 then some x else some ⟨x.block, x.off + 2, none⟩) := ⟨_, rfl⟩
    have hQ' : (if c = 1 then some x else some ⟨x.block, x.off + 2, none⟩) = Q := hQ.symm
    rw [← hQ] at q1
    have HQ : Hid (tr.In w Q ts ∧ n = ts.length ∧ ts.length ≤ c - 1 ∧ (∀ y, Q = some y → y.block = x.block)) := by
      refine ⟨q1, hn, q3, fun y hy => ?_⟩
      rw [hQ] at hy
      split at hy
      · injection hy with hy; rw [← hy]
      · injection hy with hy; rw [← hy]
    clear k1 k2 hb2 cN keep h1 h1' h3 h4 hN hP q1 q2 q3 hQ hn hlc xb1 xb2 hS hA
    go_wp2
    obtain ⟨r1, r2, r3, r4⟩ := HN.out
    have hw : w.heap.size ≤ N := by omega
    obtain ⟨W, hW⟩ : ∃ W, W = (((w2.setCell ⟨P, 0, none⟩ (.slice Q n (c - 1))).setCell ⟨N, 0, none⟩ (.string S)).setCell ⟨N, 1, none⟩ (.int .i64 (A : Int))) := ⟨_, rfl⟩
    have hg : Gp P w (W.alloc (.cells #[.string S, .int .i64 (A : Int)] 49)) := by
      rw [hW]
      exact ((((Gp.bl HK.out.1).trans (Gp.set _)).setNew hw _).setNew hw _).alloc _
    have hcN : W.heap[N]? = some (.cells #[.string S, .int .i64 (A : Int)] 49 (0, 0)) := by
      rw [hW]
      simp [World.setCell, Array.getElem?_modify, HK.out.2.1, hPN]
    have hcP : W.heap[P]? = some (.cells #[.slice Q n (c - 1), .int .i64 (en : Int), .int .i64 (d : Int)] 208 (0, 0)) := by
      rw [hW]
      have hNP : ¬ N = P := fun e => hPN e.symm
      simp [World.setCell, Array.getElem?_modify, HK.out.2.2, hNP]
    have hbW : Bl W (W.alloc (.cells #[.string S, .int .i64 (A : Int)] 49)) := (Bl.refl _).alloc _
    have hcl := (Below.block hbW N (lt_of_heap hcN)).trans hcN
    have hcP' := (Below.block hbW P (lt_of_heap hcP)).trans hcP
    rw [← hW]
    clear hW
    obtain ⟨s1, s2, s3, s4⟩ := HQ.out
    refine bodyPost_ret (v := .agg #[.string S, .int .i64 (A : Int)]) (results_cell_row rfl _ _ N 49 #[.string S, .int .i64 (A : Int)] (0, 0) _ rfl hcl Tryz.underlying49 rfl infoT) rfl ⟨rfl, ⟨Q, c - 1, ?_, s3, ?_, ?_⟩, hg⟩
    · show _ = some (Obj.cells #[.slice Q ts.length (c - 1), _, _] _ _)
      rw [← s2]; exact hcP'
    · exact In.gp s1 hg (fun y hy => by have := s4 y hy; rw [this]; exact ⟨r3, r4⟩)
    · intro y hy
      have := s4 y hy
      rw [this]
      exact ⟨Nat.lt_of_lt_of_le r3 hg.size, r4⟩
theorem at_at (t : Tk) (c : Int) (w : World) : Calls Tryz.prog 144 #[tkV t, .int .i64 c] w fun e w' => ∃ B, e = .returned (.pointer (some ⟨B, 0, none⟩)) ∧ Thr w w' B c t.a := by
  unfold tkV
  go_enter Tryz.func144, Tryz.ntmps144
  go_wp2
  go_ret
  have hn := new_at (w.alloc (.cells #[.string (tx t.t), .int .i64 (t.a : Int)] 49)) (.cells #[.int .i64 c, .int .i64 (t.a : Int)] 113)
  have hs : (w.alloc (.cells #[.string (tx t.t), .int .i64 (t.a : Int)] 49)).heap.size = w.heap.size + 1 := by simp
  rw [hs] at hn
  exact ⟨_, rfl, Nat.le_succ _, hn, ((Bl.refl _).alloc _).alloc _⟩
theorem tl_tx (t : List UInt8) : (tx t).toList = t := by rw [ByteArray.toList_eq]; simp [tx]
theorem binds_at (t : List UInt8) (w : World) : Calls Tryz.prog 115 #[.string (tx t)] w fun e w' => e = .returned (.int .i64 (bd t : Int)) ∧ w' = w := by
  by_cases h0 : t = [61, 61]
  · subst h0
    show Calls Tryz.prog _ #[.string ⟨#[61, 61]⟩] w fun e w' => e = .returned (.int .i64 1) ∧ w' = w
    go_enter Tryz.func115, Tryz.ntmps115
    go_wp2
    go_ret
    exact ⟨rfl, rfl⟩
  by_cases h1 : t = [33, 61]
  · subst h1
    show Calls Tryz.prog _ #[.string ⟨#[33, 61]⟩] w fun e w' => e = .returned (.int .i64 1) ∧ w' = w
    go_enter Tryz.func115, Tryz.ntmps115
    go_wp2
    go_ret
    exact ⟨rfl, rfl⟩
  by_cases h2 : t = [60]
  · subst h2
    show Calls Tryz.prog _ #[.string ⟨#[60]⟩] w fun e w' => e = .returned (.int .i64 1) ∧ w' = w
    go_enter Tryz.func115, Tryz.ntmps115
    go_wp2
    go_ret
    exact ⟨rfl, rfl⟩
  by_cases h3 : t = [62]
  · subst h3
    show Calls Tryz.prog _ #[.string ⟨#[62]⟩] w fun e w' => e = .returned (.int .i64 1) ∧ w' = w
    go_enter Tryz.func115, Tryz.ntmps115
    go_wp2
    go_ret
    exact ⟨rfl, rfl⟩
  by_cases h4 : t = [43]
  · subst h4
    show Calls Tryz.prog _ #[.string ⟨#[43]⟩] w fun e w' => e = .returned (.int .i64 2) ∧ w' = w
    go_enter Tryz.func115, Tryz.ntmps115
    go_wp2
    go_ret
    exact ⟨rfl, rfl⟩
  by_cases h5 : t = [45]
  · subst h5
    show Calls Tryz.prog _ #[.string ⟨#[45]⟩] w fun e w' => e = .returned (.int .i64 2) ∧ w' = w
    go_enter Tryz.func115, Tryz.ntmps115
    go_wp2
    go_ret
    exact ⟨rfl, rfl⟩
  by_cases h6 : t = [124]
  · subst h6
    show Calls Tryz.prog _ #[.string ⟨#[124]⟩] w fun e w' => e = .returned (.int .i64 2) ∧ w' = w
    go_enter Tryz.func115, Tryz.ntmps115
    go_wp2
    go_ret
    exact ⟨rfl, rfl⟩
  by_cases h7 : t = [42]
  · subst h7
    show Calls Tryz.prog _ #[.string ⟨#[42]⟩] w fun e w' => e = .returned (.int .i64 3) ∧ w' = w
    go_enter Tryz.func115, Tryz.ntmps115
    go_wp2
    go_ret
    exact ⟨rfl, rfl⟩
  by_cases h8 : t = [38]
  · subst h8
    show Calls Tryz.prog _ #[.string ⟨#[38]⟩] w fun e w' => e = .returned (.int .i64 3) ∧ w' = w
    go_enter Tryz.func115, Tryz.ntmps115
    go_wp2
    go_ret
    exact ⟨rfl, rfl⟩
  have e0 : bd t = 0 := by unfold bd; rw [if_neg (by simp [h0, h1, h2, h3]), if_neg (by simp [h4, h5, h6]), if_neg (by simp [h7, h8])]
  have htl := tl_tx t
  have n0 : (t == [61, 61]) = false := by rw [beq_eq_false_iff_ne]; exact h0
  have n1 : (t == [33, 61]) = false := by rw [beq_eq_false_iff_ne]; exact h1
  have n2 : (t == [60]) = false := by rw [beq_eq_false_iff_ne]; exact h2
  have n3 : (t == [62]) = false := by rw [beq_eq_false_iff_ne]; exact h3
  have n4 : (t == [43]) = false := by rw [beq_eq_false_iff_ne]; exact h4
  have n5 : (t == [45]) = false := by rw [beq_eq_false_iff_ne]; exact h5
  have n6 : (t == [124]) = false := by rw [beq_eq_false_iff_ne]; exact h6
  have n7 : (t == [42]) = false := by rw [beq_eq_false_iff_ne]; exact h7
  have n8 : (t == [38]) = false := by rw [beq_eq_false_iff_ne]; exact h8
  rw [e0]
  generalize tx t = S at *
  clear h0 h1 h2 h3 h4 h5 h6 h7 h8 e0
  go_enter Tryz.func115, Tryz.ntmps115
  go_wp2
  go_ret
  exact ⟨rfl, rfl⟩
theorem number_yes (t : List UInt8) (w : World) : Calls Tryz.prog 164 #[.string (tx t)] w fun e w' => e = .returned (.bool (isU t)) ∧ w' = w := by
  cases t with
  | nil =>
    show Calls Tryz.prog _ #[.string ⟨#[]⟩] w fun e w' => e = .returned (.bool false) ∧ w' = w
    go_enter Tryz.func164, Tryz.ntmps164
    go_wp2
    go_ret
    exact ⟨rfl, rfl⟩
  | cons c r =>
    have h0 : 0 < (tx (c :: r)).size := by rw [tx_size]; simp
    have e1 : ((((tx (c :: r))[0]'h0).toNat : Nat) : Int) = (c.toNat : Int) := rfl
    have hne : ((tx (c :: r)).toList == []) = false := by rw [tl_tx]; rfl
    have hU : isU (c :: r) = dg (c.toNat : Int) := rfl
    rw [hU]
    generalize (c.toNat : Int) = x at *
    generalize tx (c :: r) = S at *
    go_enter Tryz.func164, Tryz.ntmps164
    go_wp2
    all_goals
      go_ret
      refine ⟨ret_bool ?_, rfl⟩
      rw [Bool.eq_iff_iff]
      simp [dg]
      try omega
end Go.Proofs.YtpanodaecjlgaaaGreatDoor.ex
/- Plain facts on digits: pr lays a number's digits, pv is the number that digits are. No program. -/
namespace Go.Proofs.YtpanodaecjlgaaaGreatDoor.dig
open Go.RowKit

/-- Byte j of a text. -/
def sb (s : ByteArray) (j : Nat) : Int := ((s.data.toList.getD j 0).toNat : Int)
theorem sb_bd (s : ByteArray) (j : Nat) : 0 ≤ sb s j ∧ sb s j < 256 := by
  unfold sb
  have := (s.data.toList.getD j 0).toNat_lt
  omega
theorem sb_get (s : ByteArray) (j : Nat) (h : j < s.size) : sb s j = ((s[j]'h).toNat : Int) := by
  unfold sb
  have h' : j < s.data.toList.length := by simpa using h
  rw [List.getD_eq_getElem?_getD, List.getElem?_eq_getElem h']
  rfl
theorem sb_nums (zs : List Int) (h : ∀ z ∈ zs, 0 ≤ z ∧ z < 256) (j : Nat) : sb (strOfNums zs) j = zs.getD j 0 := by
  unfold sb
  rw [strOfNums_data]
  by_cases hj : j < zs.length
  · have hz := h _ (List.getElem_mem hj)
    rw [List.getD_eq_getElem?_getD, List.getD_eq_getElem?_getD, List.getElem?_map, List.getElem?_eq_getElem hj]
    simp only [Option.map_some, Option.getD_some]
    obtain ⟨n, hn⟩ := Int.eq_ofNat_of_zero_le hz.1
    rw [hn]
    have : n < 256 := by omega
    simp [Nat.mod_eq_of_lt this]
  · rw [List.getD_eq_getElem?_getD, List.getD_eq_getElem?_getD, List.getElem?_eq_none (by simpa using hj), List.getElem?_eq_none (by omega)]
    rfl

/-- What a byte is as a digit (-1: none). -/
def dv (c : Int) : Int := if 48 ≤ c ∧ c ≤ 57 then c - 48 else if 97 ≤ c ∧ c ≤ 102 then c - 87 else if 65 ≤ c ∧ c ≤ 70 then c - 55 else -1
theorem dv_bd (c : Int) : -1 ≤ dv c ∧ dv c ≤ 15 := by
  unfold dv
  split
  · omega
  · split
    · omega
    · split <;> omega
/-- A small digit's byte. -/
def ch (d : Nat) : Int := if d < 10 then 48 + (d : Int) else 87 + (d : Int)
theorem ch_bd (d : Nat) (h : d < 16) : 48 ≤ ch d ∧ ch d ≤ 102 := by
  unfold ch
  split <;> omega
theorem dv_ch (d : Nat) (h : d < 16) : dv (ch d) = d := by
  unfold dv ch
  by_cases h1 : d < 10
  · rw [if_pos h1, if_pos (by omega)]; omega
  · rw [if_neg h1, if_neg (by omega), if_pos (by omega)]; omega
/-- All small digits. -/
def lit : ByteArray := ⟨#[48, 49, 50, 51, 52, 53, 54, 55, 56, 57, 97, 98, 99, 100, 101, 102]⟩
theorem lit_get (k : Nat) (h : k < lit.size) : ((lit[k]'h).toNat : Int) = ch k := by
  have : ∀ k : Fin 16, ((lit[k.1]'k.2).toNat : Int) = ch k.1 := by decide
  exact this ⟨k, h⟩
theorem lit_cut (k : Nat) (h : k < 16) : (lit.extract k 16).extract 0 1 = strOfNums [ch k] := by
  rcases (show k = 0 ∨ k = 1 ∨ k = 2 ∨ k = 3 ∨ k = 4 ∨ k = 5 ∨ k = 6 ∨ k = 7 ∨ k = 8 ∨ k = 9 ∨ k = 10 ∨ k = 11 ∨ k = 12 ∨ k = 13 ∨ k = 14 ∨ k = 15 by omega) with
    rfl | rfl | rfl | rfl | rfl | rfl | rfl | rfl | rfl | rfl | rfl | rfl | rfl | rfl | rfl | rfl <;> rfl

/-- A number's digits, k of them, the greatest first. -/
def pr (b n : Nat) : Nat → List Int
  | 0 => []
  | k + 1 => ch (n / b ^ k % b) :: pr b n k
theorem pr_len (b n k : Nat) : (pr b n k).length = k := by
  induction k with
  | zero => rfl
  | succ k ih => simp [pr, ih]
theorem pr_bd (b n k : Nat) (hb : 2 ≤ b) (hb' : b ≤ 16) : ∀ z ∈ pr b n k, 48 ≤ z ∧ z ≤ 102 := by
  induction k with
  | zero => intro z hz; cases hz
  | succ k ih =>
    intro z hz
    rcases List.mem_cons.1 hz with rfl | hz
    · exact ch_bd _ (Nat.lt_of_lt_of_le (Nat.mod_lt _ (by omega)) hb')
    · exact ih z hz
theorem pr_get (b n k j : Nat) (hj : j < k) : (pr b n k).getD j 0 = ch (n / b ^ (k - 1 - j) % b) := by
  induction k generalizing j with
  | zero => omega
  | succ k ih =>
    cases j with
    | zero => simp [pr]
    | succ j =>
      rw [pr, List.getD_cons_succ, ih j (by omega), show k - 1 - j = k + 1 - 1 - (j + 1) from by omega]
/-- How many digits are printed. -/
def isK (b n W K : Nat) : Prop := 1 ≤ K ∧ W ≤ K ∧ n < b ^ K ∧ (K = 1 ∨ K = W ∨ b ^ (K - 1) ≤ n)
theorem isK_from (b n W j : Nat) (h : n < b ^ (max 1 W + j)) : ∃ K, isK b n W K := by
  induction j with
  | zero => exact ⟨max 1 W, by omega, by omega, h, by omega⟩
  | succ j ih =>
    by_cases h' : n < b ^ (max 1 W + j)
    · exact ih h'
    · exact ⟨max 1 W + j + 1, by omega, by omega, h, Or.inr (Or.inr (by rw [Nat.add_sub_cancel]; omega))⟩
theorem isK_some (b n W : Nat) (hb : 2 ≤ b) (hn : n < 2 ^ 64) : ∃ K, isK b n W K := by
  refine isK_from b n W 64 (Nat.lt_of_lt_of_le hn ?_)
  exact Nat.le_trans (Nat.pow_le_pow_left hb 64) (Nat.pow_le_pow_right (by omega) (by omega))
theorem isK_le (b n W K : Nat) (hb : 2 ≤ b) (hn : n < 2 ^ 64) (hW : W ≤ 64) (h : isK b n W K) : K ≤ 64 := by
  obtain ⟨h1, h2, h3, h4⟩ := h
  rcases h4 with h4 | h4 | h4
  · omega
  · omega
  · have h5 : 2 ^ (K - 1) < 2 ^ 64 := Nat.lt_of_le_of_lt (Nat.le_trans (Nat.pow_le_pow_left hb _) h4) hn
    have := (Nat.pow_lt_pow_iff_right (by omega : 1 < 2)).1 h5
    omega
theorem isK_stop (b n W K k : Nat) (hb : 2 ≤ b) (h : isK b n W K) (hk : k < K) (hL : max 1 W ≤ k) : 0 < n / b ^ k := by
  obtain ⟨h1, h2, h3, h4⟩ := h
  have h5 : b ^ (K - 1) ≤ n := by omega
  have h6 : b ^ k ≤ n := Nat.le_trans (Nat.pow_le_pow_right (by omega) (by omega)) h5
  exact Nat.div_pos h6 (Nat.pow_pos (by omega))
theorem div_next (b n k : Nat) : n / b ^ k / b = n / b ^ (k + 1) := by
  rw [Nat.div_div_eq_div_mul, Nat.pow_succ]
theorem nums_append (a b : List Int) : strOfNums a ++ strOfNums b = strOfNums (a ++ b) := by
  apply ByteArray.ext
  apply Array.ext'
  simp [strOfNums]
theorem pr_push (b n k : Nat) : strOfNums [ch (n / b ^ k % b)] ++ strOfNums (pr b n k) = strOfNums (pr b n (k + 1)) := by
  rw [nums_append]; rfl
theorem pr_nought (b n k : Nat) (h : n < b ^ k) : strOfNums [48] ++ strOfNums (pr b n k) = strOfNums (pr b n (k + 1)) := by
  rw [← pr_push, Nat.div_eq_of_lt h, Nat.zero_mod]; rfl

/-- The number that a text's first k bytes are, as digits. -/
def pv (b : Nat) (s : ByteArray) : Nat → Nat
  | 0 => 0
  | k + 1 => pv b s k * b + (dv (sb s k)).toNat
theorem pv_mono (b : Nat) (s : ByteArray) (hb : 2 ≤ b) (k j : Nat) (h : k ≤ j) : pv b s k ≤ pv b s j := by
  induction j with
  | zero => obtain rfl : k = 0 := by omega
            exact Nat.le_refl _
  | succ j ih =>
    rcases Nat.lt_or_ge j k with h' | h'
    · obtain rfl : k = j + 1 := by omega
      exact Nat.le_refl _
    · refine Nat.le_trans (ih h') ?_
      show pv b s j ≤ pv b s j * b + _
      exact Nat.le_trans (Nat.le_mul_of_pos_right _ (by omega)) (Nat.le_add_right _ _)
/-- Are all bytes digits below b, and is there one? -/
def okD (b : Nat) (s : ByteArray) : Prop := 0 < s.size ∧ ∀ i, i < s.size → 0 ≤ dv (sb s i) ∧ dv (sb s i) < b
/-- What a number's digits are read as. -/
theorem pv_pr (b n K k : Nat) (hb : 2 ≤ b) (hb' : b ≤ 16) (hK : n < b ^ K) (hk : k ≤ K) : pv b (strOfNums (pr b n K)) k = n / b ^ (K - k) := by
  induction k with
  | zero => rw [Nat.sub_zero, Nat.div_eq_of_lt hK]; rfl
  | succ k ih =>
    have hm : n / b ^ (K - 1 - k) % b < 16 := Nat.lt_of_lt_of_le (Nat.mod_lt _ (by omega)) hb'
    rw [pv, ih (by omega), sb_nums _ (fun z hz => by have := pr_bd b n K hb hb' z hz; omega), pr_get b n K k (by omega), dv_ch _ hm, Int.toNat_natCast]
    have e : n / b ^ (K - k) = n / b ^ (K - 1 - k) / b := by rw [div_next]; congr 2; omega
    rw [e, show K - (k + 1) = K - 1 - k from by omega, Nat.mul_comm]
    exact Nat.div_add_mod _ _
theorem ok_pr (b n K : Nat) (hb : 2 ≤ b) (hb' : b ≤ 16) (hK : 1 ≤ K) : okD b (strOfNums (pr b n K)) := by
  have hz : (strOfNums (pr b n K)).size = K := by rw [strOfNums_size, pr_len]
  refine ⟨by omega, fun i hi => ?_⟩
  have hm : n / b ^ (K - 1 - i) % b < b := Nat.mod_lt _ (by omega)
  rw [sb_nums _ (fun z hz => by have := pr_bd b n K hb hb' z hz; omega), pr_get b n K i (by omega), dv_ch _ (by omega)]
  omega
end Go.Proofs.YtpanodaecjlgaaaGreatDoor.dig
/- What Digit and Print of package digits answer. -/
namespace Go.Proofs.YtpanodaecjlgaaaGreatDoor.digs
open Go.ChangeShapes Go.WideShapes Go.ChangeAt Go.RowKit
open mem dig

theorem ret_int {k : IntKind} {a b : Int} (h : a = b) : Ending.returned (.int k a) = .returned (.int k b) := by rw [h]
/-- Is it a base of digits? -/
def okB (b : Int) : Prop := 2 ≤ b ∧ b ≤ 16
theorem known_yes (b : Int) (w : World) (h : okB b) : Calls Tryz.prog 179 #[.int .i64 b] w fun e w' => e = .returned (.bool true) ∧ w' = w := by
  obtain ⟨h1, h2⟩ := h
  go_enter Tryz.func179, Tryz.ntmps179
  go_wp2
  go_ret
  exact ⟨by simp, rfl⟩
theorem known_no (b : Int) (w : World) (h : ¬ okB b) : Calls Tryz.prog 179 #[.int .i64 b] w fun e w' => e = .returned (.bool false) ∧ w' = w := by
  have h' : b < 2 ∨ 16 < b := by unfold okB at h; omega
  clear h
  rcases h' with h | h
  · go_enter Tryz.func179, Tryz.ntmps179
    go_wp2
    go_ret
    exact ⟨rfl, rfl⟩
  · have hd : decide (b ≤ 16) = false := by simp; omega
    go_enter Tryz.func179, Tryz.ntmps179
    go_wp2
    go_ret
    exact ⟨rfl, rfl⟩
theorem Digit_at (c : Int) (w : World) (h0 : 0 ≤ c) (h1 : c < 256) : Calls Tryz.prog 182 #[.int .u8 c] w fun e w' => e = .returned (.int .i64 (dv c)) ∧ w' = w := by
  go_enter Tryz.func182, Tryz.ntmps182
  go_wp2
  all_goals go_ret
  all_goals exact ⟨ret_int (by unfold dv; (repeat' split) <;> omega), rfl⟩
end Go.Proofs.YtpanodaecjlgaaaGreatDoor.digs
/- What Parse of package digits answers. -/
namespace Go.Proofs.YtpanodaecjlgaaaGreatDoor.digs
open Go.ChangeShapes Go.WideShapes Go.ChangeAt Go.RowKit
open mem dig

theorem isEmpty_at (s : ByteArray) : s.toList.isEmpty = decide (s.size = 0) := by
  rw [ByteArray.toList_eq]
  have e : s.size = s.data.toList.length := rfl
  rw [e]
  cases s.data.toList <;> simp
theorem digitsOf_yes (B : Nat) (s : ByteArray) (w : World) (hs : s.size ≤ 140737488351232) (h : okD B s) :
    Calls Tryz.prog 180 #[.string s, .int .i64 B] w fun e w' => e = .returned (.bool true) ∧ w' = w := by
  have H : Hid (okD B s) := h
  have hp : 0 < s.size := h.1
  clear h
  go_enter Tryz.func180, Tryz.ntmps180
  go_wp2
  go_loop [9] (fun i => ∃ k : Nat, k ≤ s.size ∧ i = .int .i64 k) (fun i => s.size - (intOf i).toNat)
  case atStart => exact ⟨0, Nat.zero_le _, rfl⟩
  case round =>
    obtain ⟨k, hk, rfl⟩ := hrel
    by_cases hlt : k < s.size
    · have hgk : (((s[k]'hlt).toNat : Nat) : Int) = sb s k := (sb_get s k hlt).symm
      have hb := sb_bd s k
      have hd := H.out.2 k hlt
      go_wp2_with (go_at_call 182; refine (Digit_at _ _ (by omega) (by omega)).mono ?_; rintro e w2 ⟨rfl, rfl⟩)
      go_round
      case rel => exact ⟨k + 1, by omega, by go_num⟩
      case measure => simp [intOf]; omega
    · obtain rfl : k = s.size := by omega
      have he : s.toList.isEmpty = false := by rw [isEmpty_at]; exact decide_eq_false (by omega)
      go_wp2
      go_ret
      exact ⟨by simp, rfl⟩
theorem digitsOf_no (B : Nat) (s : ByteArray) (w : World) (hs : s.size ≤ 140737488351232) (h : ¬ okD B s) :
    Calls Tryz.prog 180 #[.string s, .int .i64 B] w fun e w' => e = .returned (.bool false) ∧ w' = w := by
  have H : Hid (¬ okD B s) := h
  clear h
  go_enter Tryz.func180, Tryz.ntmps180
  go_wp2
  go_loop [9] (fun i => ∃ k : Nat, k ≤ s.size ∧ i = .int .i64 k ∧ Hid (∀ j, j < k → 0 ≤ dv (sb s j) ∧ dv (sb s j) < B)) (fun i => s.size - (intOf i).toNat)
  case atStart => exact ⟨0, Nat.zero_le _, rfl, fun j hj => by omega⟩
  case round =>
    obtain ⟨k, hk, rfl, HP⟩ := hrel
    by_cases hlt : k < s.size
    · have hgk : (((s[k]'hlt).toNat : Nat) : Int) = sb s k := (sb_get s k hlt).symm
      have hb := sb_bd s k
      by_cases hd : 0 ≤ dv (sb s k) ∧ dv (sb s k) < B
      · go_wp2_with (go_at_call 182; refine (Digit_at _ _ (by omega) (by omega)).mono ?_; rintro e w2 ⟨rfl, rfl⟩)
        go_round
        case rel => exact ⟨k + 1, by omega, by go_num, fun j hj => by
          rcases Nat.lt_or_ge j k with h | h
          · exact HP.out j h
          · obtain rfl : j = k := by omega
            exact hd⟩
        case measure => simp [intOf]; omega
      · by_cases hd0 : dv (sb s k) < 0
        · clear hd
          go_wp2_with (go_at_call 182; refine (Digit_at _ _ (by omega) (by omega)).mono ?_; rintro e w2 ⟨rfl, rfl⟩)
          go_ret
          exact ⟨rfl, rfl⟩
        · have hd1 : (B : Int) ≤ dv (sb s k) := by omega
          clear hd
          go_wp2_with (go_at_call 182; refine (Digit_at _ _ (by omega) (by omega)).mono ?_; rintro e w2 ⟨rfl, rfl⟩)
          go_ret
          exact ⟨rfl, rfl⟩
    · obtain rfl : k = s.size := by omega
      have he : s.toList.isEmpty = true := by
        rw [isEmpty_at]
        rcases Nat.eq_zero_or_pos s.size with h | h
        · simpa using h
        · exact absurd ⟨h, HP.out⟩ H.out
      go_wp2
      go_ret
      exact ⟨by simp, rfl⟩
/-- An error, as it is told: none for 0. -/
def errI (e : Int) : Value := if e = 0 then .nilIface else .iface 24 (.int .i64 e)
theorem joined_yes (B : Nat) (s : ByteArray) (w : World) (hs : s.size ≤ 140737488351232) (hb2 : 2 ≤ B) (hb16 : B ≤ 16) (h : okD B s) (hv : pv B s s.size < 18446744073709551616) :
    Calls Tryz.prog 181 #[.string s, .int .u64 B] w fun e w' => e = .returned (.tuple #[.int .u64 (pv B s s.size), .nilIface]) ∧ w' = w := by
  have H : Hid (okD B s) := h
  have HV : Hid (pv B s s.size < 18446744073709551616) := hv
  clear h hv
  go_enter Tryz.func181, Tryz.ntmps181
  go_wp2
  go_loop [6, 11] (fun n i => ∃ k N : Nat, k ≤ s.size ∧ i = .int .i64 (k : Int) ∧ n = .int .u64 (N : Int) ∧ Hid (N = pv B s k)) (fun _ i => s.size - (intOf i).toNat)
  case atStart => exact ⟨0, 0, Nat.zero_le _, rfl, rfl, rfl⟩
  case round =>
    obtain ⟨k, N, hk, rfl, rfl, HN⟩ := hrel
    by_cases hlt : k < s.size
    · have hgk : (((s[k]'hlt).toNat : Nat) : Int) = sb s k := (sb_get s k hlt).symm
      have hb := sb_bd s k
      have hd := H.out.2 k hlt
      obtain ⟨D, hD⟩ := Int.eq_ofNat_of_zero_le hd.1
      have hDl : D < 16 := by omega
      obtain ⟨M, hM⟩ : ∃ M, M = N * B := ⟨_, rfl⟩
      obtain ⟨N', hN'⟩ : ∃ N', N' = M + D := ⟨_, rfl⟩
      have hnx : N' = pv B s (k + 1) := by rw [hN', hM, HN.out, pv, hD]; rfl
      have hml : N' ≤ pv B s s.size := by rw [hnx]; exact pv_mono B s hb2 _ _ (by omega)
      have hvl := HV.out
      have t1 : IntKind.u64.wrap ((N : Int) * (B : Int)) = (M : Int) := by
        have e : (N : Int) * (B : Int) = (M : Int) := by rw [hM]; simp
        rw [e, IntKind.wrap_u64]; omega
      have t2 : IntKind.u64.wrap ((M : Int) + (D : Int)) = (N' : Int) := by rw [IntKind.wrap_u64]; omega
      have t3 : (N : Int) ≤ (18446744073709551615 - (D : Int)) / (B : Int) := (Int.le_ediv_iff_mul_le (by omega)).2 (by
        have e : (N : Int) * (B : Int) = (M : Int) := by rw [hM]; simp
        omega)
      have HX : Hid (N' = pv B s (k + 1)) := hnx
      clear hM hN' hnx hml hvl
      go_wp2_with (go_at_call 182; refine (Digit_at _ _ (by omega) (by omega)).mono ?_; rintro e w2 ⟨rfl, rfl⟩)
      go_round
      case rel => exact ⟨k + 1, N', by omega, by go_num, rfl, HX⟩
      case measure => simp [intOf]; omega
    · obtain rfl : k = s.size := by omega
      have HN' := HN.out
      clear HN
      subst HN'
      go_wp2
      go_ret2
      exact ⟨rfl, rfl⟩
theorem joined_no (B : Nat) (s : ByteArray) (w : World) (hs : s.size ≤ 140737488351232) (hb2 : 2 ≤ B) (hb16 : B ≤ 16) (h : okD B s) (hv : 18446744073709551616 ≤ pv B s s.size) :
    Calls Tryz.prog 181 #[.string s, .int .u64 B] w fun e w' => e = .returned (.tuple #[.int .u64 0, .iface 24 (.int .i64 2)]) ∧ w' = w := by
  have H : Hid (okD B s) := h
  have HV : Hid (18446744073709551616 ≤ pv B s s.size) := hv
  clear h hv
  go_enter Tryz.func181, Tryz.ntmps181
  go_wp2
  go_loop [6, 11] (fun n i => ∃ k N : Nat, k ≤ s.size ∧ i = .int .i64 (k : Int) ∧ n = .int .u64 (N : Int) ∧ N < 18446744073709551616 ∧ Hid (N = pv B s k)) (fun _ i => s.size - (intOf i).toNat)
  case atStart => exact ⟨0, 0, Nat.zero_le _, rfl, rfl, by omega, rfl⟩
  case round =>
    obtain ⟨k, N, hk, rfl, rfl, hNl, HN⟩ := hrel
    by_cases hlt : k < s.size
    · have hgk : (((s[k]'hlt).toNat : Nat) : Int) = sb s k := (sb_get s k hlt).symm
      have hb := sb_bd s k
      have hd := H.out.2 k hlt
      obtain ⟨D, hD⟩ := Int.eq_ofNat_of_zero_le hd.1
      have hDl : D < 16 := by omega
      obtain ⟨M, hM⟩ : ∃ M, M = N * B := ⟨_, rfl⟩
      obtain ⟨N', hN'⟩ : ∃ N', N' = M + D := ⟨_, rfl⟩
      have hnx : N' = pv B s (k + 1) := by rw [hN', hM, HN.out, pv, hD]; rfl
      have e : (N : Int) * (B : Int) = (M : Int) := by rw [hM]; simp
      by_cases hfit : N' < 18446744073709551616
      · have t1 : IntKind.u64.wrap ((N : Int) * (B : Int)) = (M : Int) := by
          rw [e, IntKind.wrap_u64]; omega
        have t2 : IntKind.u64.wrap ((M : Int) + (D : Int)) = (N' : Int) := by rw [IntKind.wrap_u64]; omega
        have t3 : (N : Int) ≤ (18446744073709551615 - (D : Int)) / (B : Int) := (Int.le_ediv_iff_mul_le (by omega)).2 (by omega)
        have HX : Hid (N' = pv B s (k + 1)) := hnx
        clear hM hN' hnx e
        go_wp2_with (go_at_call 182; refine (Digit_at _ _ (by omega) (by omega)).mono ?_; rintro e w2 ⟨rfl, rfl⟩)
        go_round
        case rel => exact ⟨k + 1, N', by omega, by go_num, rfl, hfit, HX⟩
        case measure => simp [intOf]; omega
      · have t3 : (18446744073709551615 - (D : Int)) / (B : Int) < (N : Int) := (Int.ediv_lt_iff_lt_mul (by omega)).2 (by omega)
        clear hM hN' hnx e hfit
        go_wp2_with (go_at_call 182; refine (Digit_at _ _ (by omega) (by omega)).mono ?_; rintro e w2 ⟨rfl, rfl⟩)
        go_ret2
        exact ⟨rfl, rfl⟩
    · obtain rfl : k = s.size := by omega
      exact absurd HV.out (by rw [← HN.out]; omega)
/-- What Parse answers: the number, and which error. -/
def Parsed (b : Int) (s : ByteArray) (v : Nat) (e : Int) : Prop :=
  (¬ okB b ∧ v = 0 ∧ e = 1) ∨ (okB b ∧ ¬ okD b.toNat s ∧ v = 0 ∧ e = 3) ∨ (okB b ∧ okD b.toNat s ∧ 18446744073709551616 ≤ pv b.toNat s s.size ∧ v = 0 ∧ e = 2) ∨
    (okB b ∧ okD b.toNat s ∧ pv b.toNat s s.size < 18446744073709551616 ∧ v = pv b.toNat s s.size ∧ e = 0)
theorem parsed_some (b : Int) (s : ByteArray) : ∃ v e, Parsed b s v e := by
  by_cases h1 : okB b
  · by_cases h2 : okD b.toNat s
    · by_cases h3 : 18446744073709551616 ≤ pv b.toNat s s.size
      · exact ⟨0, 2, Or.inr (Or.inr (Or.inl ⟨h1, h2, h3, rfl, rfl⟩))⟩
      · exact ⟨_, 0, Or.inr (Or.inr (Or.inr ⟨h1, h2, by omega, rfl, rfl⟩))⟩
    · exact ⟨0, 3, Or.inr (Or.inl ⟨h1, h2, rfl, rfl⟩)⟩
  · exact ⟨0, 1, Or.inl ⟨h1, rfl, rfl⟩⟩
theorem Parsed.bd {b : Int} {s : ByteArray} {v : Nat} {e : Int} (h : Parsed b s v e) : v < 18446744073709551616 ∧ 0 ≤ e ∧ e ≤ 3 := by
  rcases h with ⟨_, rfl, rfl⟩ | ⟨_, _, rfl, rfl⟩ | ⟨_, _, _, rfl, rfl⟩ | ⟨_, _, h, rfl, rfl⟩ <;> omega
theorem parse_at (b : Int) (s : ByteArray) (v : Nat) (e : Int) (w : World) (hs : s.size ≤ 140737488351232) (h : Parsed b s v e) :
    Calls Tryz.prog 174 #[.string s, .int .i64 b] w fun e' w' => e' = .returned (.tuple #[.int .u64 v, errI e]) ∧ w' = w := by
  rcases h with ⟨h1, rfl, rfl⟩ | ⟨h1, h2, rfl, rfl⟩ | ⟨h1, h2, h3, rfl, rfl⟩ | ⟨h1, h2, h3, hv, rfl⟩
  · have H : Hid (¬ okB b) := h1
    clear h1
    go_enter Tryz.func174, Tryz.ntmps174
    go_wp2_with (go_at_call 179; refine (known_no _ _ H.out).mono ?_; rintro e w1 ⟨rfl, rfl⟩)
    go_ret2
    exact ⟨rfl, rfl⟩
  all_goals
    have hb2 : 2 ≤ b.toNat := by unfold okB at h1; omega
    have hb16 : b.toNat ≤ 16 := by unfold okB at h1; omega
    obtain ⟨B, rfl⟩ := Int.eq_ofNat_of_zero_le (show 0 ≤ b by unfold okB at h1; omega)
    rw [Int.toNat_natCast] at hb2 hb16 h2
    have HB : Hid (okB (B : Int)) := h1
    clear h1
  · have H : Hid (¬ okD B s) := h2
    clear h2
    go_enter Tryz.func174, Tryz.ntmps174
    go_wp2_with (first | (go_at_call 179; refine (known_yes _ _ HB.out).mono ?_; rintro e w1 ⟨rfl, rfl⟩) | (go_at_call 180; refine (digitsOf_no _ _ _ hs H.out).mono ?_; rintro e w2 ⟨rfl, rfl⟩))
    go_ret2
    exact ⟨rfl, rfl⟩
  · rw [Int.toNat_natCast] at h3
    have H : Hid (okD B s) := h2
    have H3 : Hid (18446744073709551616 ≤ pv B s s.size) := h3
    clear h2 h3
    go_enter Tryz.func174, Tryz.ntmps174
    go_wp2_with (first | (go_at_call 179; refine (known_yes _ _ HB.out).mono ?_; rintro e w1 ⟨rfl, rfl⟩) | (go_at_call 180; refine (digitsOf_yes _ _ _ hs H.out).mono ?_; rintro e w2 ⟨rfl, rfl⟩) | (go_at_call 181; refine (joined_no _ _ _ hs hb2 hb16 H.out H3.out).mono ?_; rintro e w3 ⟨rfl, rfl⟩))
    go_ret2
    exact ⟨rfl, rfl⟩
  · rw [Int.toNat_natCast] at h3 hv
    have H : Hid (okD B s) := h2
    have H3 : Hid (pv B s s.size < 18446744073709551616) := h3
    subst hv
    clear h2 h3
    go_enter Tryz.func174, Tryz.ntmps174
    go_wp2_with (first | (go_at_call 179; refine (known_yes _ _ HB.out).mono ?_; rintro e w1 ⟨rfl, rfl⟩) | (go_at_call 180; refine (digitsOf_yes _ _ _ hs H.out).mono ?_; rintro e w2 ⟨rfl, rfl⟩) | (go_at_call 181; refine (joined_yes _ _ _ hs hb2 hb16 H.out H3.out).mono ?_; rintro e w3 ⟨rfl, rfl⟩))
    go_ret2
    exact ⟨rfl, rfl⟩
end Go.Proofs.YtpanodaecjlgaaaGreatDoor.digs
