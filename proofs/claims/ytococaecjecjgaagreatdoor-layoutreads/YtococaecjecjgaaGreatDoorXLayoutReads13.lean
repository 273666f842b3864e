/- Texts laid together: Tm9, LyQ, Ly1, Words, LyW. -/
import Derived.Test.YtococaecjecjgaaGreatDoorXLayoutReads12
import Derived.Test.YtococaecjecjgaaGreatDoorXLayoutReads10
import Derived.Test.YtococaecjecjgaaGreatDoorXLayoutReads11
import Derived.Test.YtococaecjecjgaaGreatDoorRows
import Derived.Test.YtococaecjecjgaaGreatDoorXLayoutReads1
import Derived.WalkLawsBesides
import Derived.StillTailTactics
namespace Go.Proofs.YtococaecjecjgaaGreatDoor.tm
set_option linter.unusedVariables false
open Go.ChangeShapes Go.WideShapes Go.ChangeAt Go.RowKit Go.Shelf
open mem lx ex

theorem kx_item {w w' : World} {X : Nat} {c : C} (hI : Iv w X c) (hg : w.grownBy w' (some X)) : Kx w w' := fun b cs hb => by
  rw [hg.block b (lt_of_heap hb) (fun e => by
    injection e with e
    have := hI.h
    rw [← e, hb] at this
    simp at this)]
  exact hb
theorem kx_st {w : World} {N : Nat} {c c' : C} (hI : Iv w N c) : Kx w (st13 w N c') := by
  have step : ∀ (w : World) (a : Array Value) (j : Nat) (u : Value), w.heap[N]? = some (.cells a 60 (0, 0)) → Kx w (w.setCell ⟨N, j, none⟩ u) ∧ ∃ a', (w.setCell ⟨N, j, none⟩ u).heap[N]? = some (.cells a' 60 (0, 0)) := by
    intro w a j u h
    refine ⟨fun b cs hb => ?_, _, heap_set h⟩
    rw [(grown_set w N j u).block b (lt_of_heap hb) (fun e => by injection e with e; rw [e, h] at hb; simp at hb)]
    exact hb
  have go : ∀ (l : List Value) (j : Nat) (w : World) (a : Array Value), w.heap[N]? = some (.cells a 60 (0, 0)) → Kx w ((l.foldl (fun (q : World × Nat) u => (q.1.setCell ⟨N, q.2, none⟩ u, q.2 + 1)) (w, j)).1) := by
    intro l
    induction l with
    | nil => intro j w a h; exact fun b cs hb => hb
    | cons u l ih =>
      intro j w a h
      obtain ⟨k1, a', k2⟩ := step w a j u h
      exact Kx.trans k1 (ih (j + 1) _ a' k2)
  exact go (cl c') 0 w _ hI.h
end Go.Proofs.YtococaecjecjgaaGreatDoor.tm
namespace Go.Proofs.YtococaecjecjgaaGreatDoor.ly
set_option linter.unusedVariables false
open lx ex tm num

def cut (s : List UInt8) (a b : Nat) : List UInt8 := (s.drop a).take (b - a)
theorem cut_nil (s : List UInt8) (a : Nat) : cut s a a = [] := by unfold cut; simp
theorem cut_app (s : List UInt8) {a b c : Nat} (h1 : a ≤ b) (h2 : b ≤ c) : cut s a b ++ cut s b c = cut s a c := by
  unfold cut
  have e : c - a = (b - a) + (c - b) := by omega
  rw [e, List.take_add, List.drop_drop]
  have e2 : a + (b - a) = b := by omega
  rw [e2]
def OKI (i : Its) : Prop := ∃ k, WI k i ∧ i.len ≤ 16
theorem OKI.hd {d : D} {s t : Its} (h : OKI (.cons d s t)) : WD d ∧ OKI t ∧ (d.kd = 4 → OKI s) := by
  obtain ⟨k, ⟨h1, _, h3, h4⟩, h5⟩ := h
  rw [Its.len] at h5
  exact ⟨h1, ⟨k, h4, by omega⟩, fun h => ⟨k - 1, (h3 h).2.2, (h3 h).2.1⟩⟩
theorem OKI.nil : OKI .nil := ⟨0, trivial, Nat.zero_le _⟩
theorem OKI.len {i : Its} (h : OKI i) : i.len ≤ 16 := by obtain ⟨k, _, h⟩ := h; exact h
theorem fnd_mem {l : List Ty} {x : List UInt8} {i : Its} (h : fnd l x = some i) : ∃ t ∈ l, t.l = i := by
  induction l with
  | nil => cases h
  | cons t r ih =>
    rw [fnd] at h
    cases hr : fnd r x with
    | some j =>
      rw [hr] at h
      obtain rfl := Option.some.inj h
      obtain ⟨u, h1, h2⟩ := ih hr
      exact ⟨u, by simp [h1], h2⟩
    | none =>
      rw [hr] at h
      dsimp only at h
      split at h
      · obtain rfl := Option.some.inj h
        exact ⟨t, by simp, rfl⟩
      · cases h
def WK (d : D) : Prop := WD d ∨ (d.kd = 3 ∧ d.mn = false ∧ d.ty.length ≤ maxLen)
theorem WK.kd4 {d : D} (h : WK d) : d.kd = 1 ∨ d.kd = 2 ∨ d.kd = 3 ∨ d.kd = 4 := by
  rcases h with h | h
  · rcases h with h | h | h | h <;> omega
  · omega
theorem WK.wd {d : D} (h : WK d) (hk : d.kd ≠ 3) : WD d := by
  rcases h with h | h
  · exact h
  · exact absurd h.1 hk
theorem WK.ty {d : D} (h : WK d) (hk : d.kd = 3) : d.ty.length ≤ maxLen := by
  rcases h with h | h
  · rcases h with g | g | g | g
    · omega
    · omega
    · have := g.2.1.2.2.1; unfold maxLen; omega
    · omega
  · exact h.2.2
def OKT (l : List Ty) : Prop := ∀ t ∈ l, OKI t.l
theorem OKT.fnd {l : List Ty} (h : OKT l) {x : List UInt8} {i : Its} (hf : fnd l x = some i) : OKI i := by
  obtain ⟨t, h1, rfl⟩ := fnd_mem hf
  exact h t h1
def Fw (s : List UInt8) (st st' : St) : Prop := st.1 ≤ st'.1 ∧ st'.1 ≤ s.length ∧ st.2 ≤ st'.2 ∧ st'.2 ≤ 400
theorem Fw.refl {s : List UInt8} {st : St} (h1 : st.1 ≤ s.length) (h2 : st.2 ≤ 400) : Fw s st st := ⟨Nat.le_refl _, h1, Nat.le_refl _, h2⟩
theorem Fw.trans {s : List UInt8} {a b c : St} (h : Fw s a b) (k : Fw s b c) : Fw s a c := by
  obtain ⟨h1, h2, h3, h4⟩ := h
  obtain ⟨k1, k2, k3, k4⟩ := k
  exact ⟨by omega, k2, by omega, k4⟩
section
variable {s : List UInt8} {l : List Ty} {rec : Its → Env → St → Except Er (Nds × St)} {wrec : Its → Nds → Except Int (List UInt8)}
def RecW (s : List UInt8) (rec : Its → Env → St → Except Er (Nds × St)) (wrec : Its → Nds → Except Int (List UInt8)) : Prop :=
  ∀ i e st ks st', OKI i → st.1 ≤ s.length → st.2 ≤ 400 → rec i e st = .ok (ks, st') → Fw s st st' ∧ wrec i ks = .ok (cut s st.1 st'.1) ∧ ks.len = i.len
theorem body_back (hl : OKT l) (hr : RecW s rec wrec) (hn0 : wrec .nil .nil = .ok []) {d : D} {sub : Its} (hd : WK d) (hs : d.kd = 4 → OKI sub) {e : Env} {a k : Nat} {nd : ND} {ks : Nds} {st' : St} (ha : a ≤ s.length) (hk : k ≤ 400) (h : body s l rec d sub e a k = .ok (nd, ks, st')) :
    Fw s (a, k) st' ∧ wOne l wrec d sub nd ks = .ok (cut s a st'.1) ∧ nd.nm = d.nm ∧ nd.kd = d.kd := by
  have hk4 : d.kd = 1 ∨ d.kd = 2 ∨ d.kd = 3 ∨ d.kd = 4 := hd.kd4
  unfold body at h
  split at h
  · rename_i h1
    split at h
    · rename_i h2
      injection h with h
      simp only [Prod.mk.injEq] at h
      obtain ⟨rfl, rfl, rfl⟩ := h
      refine ⟨⟨by simp, h2, Nat.le_refl _, hk⟩, ?_, rfl, h1.symm⟩
      unfold wOne
      rw [if_pos ⟨rfl, h1.symm⟩, if_pos h1, if_pos (num_fits (hd.wd (by omega)) h1 s a _).1]
      dsimp only
      rw [pb_back (hd.wd (by omega)) h1 _ h2]
      unfold cut
      rw [Nat.add_sub_cancel_left]
    · cases h
  · split at h
    · rename_i h0 h1
      split at h
      · cases h
      · rename_i n hn
        split at h
        · cases h
        · rename_i h2
          injection h with h
          simp only [Prod.mk.injEq] at h
          obtain ⟨rfl, rfl, rfl⟩ := h
          refine ⟨⟨by simp, by show a + n ≤ s.length; omega, Nat.le_refl _, hk⟩, ?_, rfl, h1.symm⟩
          unfold wOne
          rw [if_pos ⟨rfl, h1.symm⟩, if_neg h0, if_pos h1]
          dsimp only
          unfold cut
          rw [Nat.add_sub_cancel_left]
    · split at h
      · rename_i h0 h1 h2
        split at h
        · cases h
        · rename_i i hi
          split at h
          · cases h
          · rename_i ks2 st2 h3
            injection h with h
            simp only [Prod.mk.injEq] at h
            obtain ⟨rfl, rfl, rfl⟩ := h
            obtain ⟨g1, g2, _⟩ := hr _ _ _ _ _ (hl.fnd hi) ha hk h3
            refine ⟨g1, ?_, rfl, h2.symm⟩
            unfold wOne
            rw [if_pos ⟨rfl, h2.symm⟩, if_neg h0, if_neg h1, if_pos h2, hi]
            exact g2
      · rename_i h0 h1 h2
        have h4 : d.kd = 4 := by omega
        split at h
        · cases h
        · rename_i n hn
          split at h
          · injection h with h
            simp only [Prod.mk.injEq] at h
            obtain ⟨rfl, rfl, rfl⟩ := h
            refine ⟨Fw.refl ha hk, ?_, rfl, h4.symm⟩
            unfold wOne
            rw [if_pos ⟨rfl, h4.symm⟩, if_neg h0, if_neg h1, if_neg h2]
            dsimp only
            rw [if_pos rfl, cut_nil]
            exact hn0
          · split at h
            · cases h
            · rename_i ks2 st2 h3
              injection h with h
              simp only [Prod.mk.injEq] at h
              obtain ⟨rfl, rfl, rfl⟩ := h
              obtain ⟨g1, g2, _⟩ := hr _ _ _ _ _ (hs h4) ha hk h3
              refine ⟨g1, ?_, rfl, h4.symm⟩
              unfold wOne
              rw [if_pos ⟨rfl, h4.symm⟩, if_neg h0, if_neg h1, if_neg h2]
              exact g2
theorem one_back (hl : OKT l) (hr : RecW s rec wrec) (hn0 : wrec .nil .nil = .ok []) {d : D} {sub : Its} (hd : WK d) (hs : d.kd = 4 → OKI sub) {e : Env} {st : St} {nd : ND} {ks : Nds} {st' : St} (ha : st.1 ≤ s.length) (hk : st.2 ≤ 400) (h : one s l rec d sub e st = .ok (nd, ks, st')) :
    Fw s st st' ∧ wOne l wrec d sub nd ks = .ok (cut s st.1 st'.1) ∧ nd.nm = d.nm ∧ nd.kd = d.kd := by
  unfold one at h
  split at h
  · cases h
  · obtain ⟨h1, h2⟩ := body_back hl hr hn0 hd hs ha (show st.2 + 1 ≤ 400 by omega) h
    exact ⟨⟨h1.1, h1.2.1, by have := h1.2.2.1; dsimp only at this; omega, h1.2.2.2⟩, h2⟩
theorem reps_back (hl : OKT l) (hr : RecW s rec wrec) (hn0 : wrec .nil .nil = .ok []) {d : D} {sub : Its} (hd : WK d) (hs : d.kd = 4 → OKI sub) {e : Env} (n : Nat) : ∀ {st : St} {ks : Nds} {st' : St}, st.1 ≤ s.length → st.2 ≤ 400 → reps s l rec d sub e n st = .ok (ks, st') →
    Fw s st st' ∧ wReps l wrec d sub ks = .ok (cut s st.1 st'.1) ∧ ks.len = n := by
  induction n with
  | zero =>
    intro st ks st' ha hk h
    rw [reps] at h
    injection h with h
    simp only [Prod.mk.injEq] at h
    obtain ⟨rfl, rfl⟩ := h
    exact ⟨Fw.refl ha hk, by rw [wReps, cut_nil], rfl⟩
  | succ n ih =>
    intro st ks st' ha hk h
    rw [reps] at h
    split at h
    · cases h
    · rename_i nd ks1 st1 h1
      split at h
      · cases h
      · rename_i r st2 h2
        injection h with h
        simp only [Prod.mk.injEq] at h
        obtain ⟨rfl, rfl⟩ := h
        obtain ⟨g1, g2, _⟩ := one_back hl hr hn0 hd hs ha hk h1
        obtain ⟨f1, f2, f3⟩ := ih g1.2.1 g1.2.2.2 h2
        refine ⟨g1.trans f1, ?_, by rw [Nds.len, f3]⟩
        rw [wReps, g2]
        dsimp only
        rw [f2]
        dsimp only
        rw [cut_app s g1.1 f1.1]
theorem part_back (hl : OKT l) (hr : RecW s rec wrec) (hn0 : wrec .nil .nil = .ok []) {d : D} {sub : Its} (hd : WK d) (hs : d.kd = 4 → OKI sub) {e : Env} {st : St} {nd : ND} {ks : Nds} {st' : St} (ha : st.1 ≤ s.length) (hk : st.2 ≤ 400) (h : part s l rec d sub e st = .ok (nd, ks, st')) :
    Fw s st st' ∧ wPart l wrec d sub nd ks = .ok (cut s st.1 st'.1) := by
  unfold part at h
  unfold wPart
  split at h
  · rename_i hm
    rw [if_pos hm]
    split at h
    · cases h
    · split at h
      · cases h
      · rename_i n hn
        split at h
        · cases h
        · rename_i ks1 st1 h1
          injection h with h
          simp only [Prod.mk.injEq] at h
          obtain ⟨rfl, rfl, rfl⟩ := h
          obtain ⟨g1, g2, _⟩ := reps_back hl hr hn0 hd hs n (st := (st.1, st.2 + 1)) ha (show st.2 + 1 ≤ 400 by omega) h1
          rw [if_pos ⟨rfl, rfl⟩]
          exact ⟨⟨g1.1, g1.2.1, by have : st.2 + 1 ≤ st1.2 := g1.2.2.1; omega, g1.2.2.2⟩, g2⟩
  · rename_i hm
    rw [if_neg hm]
    obtain ⟨g1, g2, _⟩ := one_back hl hr hn0 hd hs ha hk h
    exact ⟨g1, g2⟩
theorem blk_back (hl : OKT l) (hr : RecW s rec wrec) (hn0 : wrec .nil .nil = .ok []) : ∀ (i : Its) {e : Env} {st : St} {ks : Nds} {st' : St}, OKI i → st.1 ≤ s.length → st.2 ≤ 400 → blk s l rec i e st = .ok (ks, st') →
    Fw s st st' ∧ wAll l wrec i ks = .ok (cut s st.1 st'.1) ∧ ks.len = i.len := by
  intro i
  induction i with
  | nil =>
    intro e st ks st' _ ha hk h
    rw [blk] at h
    injection h with h
    simp only [Prod.mk.injEq] at h
    obtain ⟨rfl, rfl⟩ := h
    exact ⟨Fw.refl ha hk, by rw [wAll, cut_nil], rfl⟩
  | cons d sub t _ it =>
    intro e st ks st' hi ha hk h
    obtain ⟨hd', ht, hs⟩ := hi.hd
    have hd : WK d := Or.inl hd'
    rw [blk] at h
    split at h
    · cases h
    · rename_i nd ks1 st1 h1
      split at h
      · cases h
      · rename_i r st2 h2
        injection h with h
        simp only [Prod.mk.injEq] at h
        obtain ⟨rfl, rfl⟩ := h
        obtain ⟨g1, g2⟩ := part_back hl hr hn0 hd hs ha hk h1
        obtain ⟨f1, f2, f3⟩ := it ht g1.2.1 g1.2.2.2 h2
        refine ⟨g1.trans f1, ?_, by rw [Nds.len, Its.len, f3]⟩
        rw [wAll, g2]
        dsimp only
        rw [f2]
        dsimp only
        rw [cut_app s g1.1 f1.1]
end
theorem wr_nil (l : List Ty) (f : Nat) : wrB l (f + 1) .nil .nil = .ok [] := rfl
theorem rdB_back (s : List UInt8) (l : List Ty) (hl : OKT l) (f : Nat) : RecW s (rdB s l f) (wrB l (f + 1)) := by
  induction f with
  | zero => intro i e st ks st' _ _ _ h; cases h
  | succ f ih =>
    intro i e st ks st' hi ha hk h
    obtain ⟨g1, g2, g3⟩ := blk_back hl ih (wr_nil l f) i hi ha hk h
    refine ⟨g1, ?_, g3⟩
    show wBlk l (wrB l (f + 1)) i ks = _
    unfold wBlk
    rw [if_pos g3]
    exact g2
end Go.Proofs.YtococaecjecjgaaGreatDoor.ly
namespace Go.Proofs.YtococaecjecjgaaGreatDoor.ly
set_option linter.unusedVariables false
open Go.ChangeShapes Go.WideShapes Go.ChangeAt Go.RowKit
open mem lx ex tm num

def thrL (v : Value) : Ending := .panicked [{ v := .iface 109 (.agg #[v]), recovered := false }]
def ErV (w0 w : World) (er : Er) (v : Value) : Prop :=
  (er = (7, -1) ∧ v = .iface 28 (.int .i64 7)) ∨ ∃ B : Nat, v = .iface 113 (.pointer (some ⟨B, 0, none⟩)) ∧ w0.heap.size ≤ B ∧ AtX w B er.1 er.2
theorem ErV.bl {w0 w w' : World} {er : Er} {v : Value} (h : ErV w0 w er v) (hb : Bl w w') : ErV w0 w' er v := by
  rcases h with h | ⟨B, h1, h2, h3⟩
  · exact Or.inl h
  · exact Or.inr ⟨B, h1, h2, by unfold AtX at h3 ⊢; rw [Below.block hb B (lt_of_heap h3)]; exact h3⟩
theorem ErV.from {w0 w1 w : World} {er : Er} {v : Value} (h : ErV w1 w er v) (hs : w0.heap.size ≤ w1.heap.size) : ErV w0 w er v := by
  rcases h with h | ⟨B, h1, h2, h3⟩
  · exact Or.inl h
  · exact Or.inr ⟨B, h1, by omega, h3⟩
theorem itV_eq (c : C) : itV c = .agg #[.int .i64 (c.d.kd : Int), .int .i64 (c.d.at_ : Int), .string (tx c.d.nm), .string (tx c.d.ty), .int .i64 (c.d.wd : Int), .int .i64 (c.d.od : Int), .bool c.d.sg, .bool c.d.mn, .pointer c.pc, .int .i64 (c.d.ru : Int), .string (tx c.d.f1), .string (tx c.d.l1), .slice c.p c.n c.c] := rfl
def TyM (w : World) (mb : Nat) (l : List Ty) : Prop := ∃ f n, Sm w mb f n ∧ ∀ x, x.length ≤ maxLen → (f x = none ∧ fnd l x = none) ∨
  ∃ (nm : List UInt8) (a : Nat) (p : Option Addr) (k c : Nat) (i : Its) (cs : List C), f x = some (.agg #[.string (tx nm), .int .i64 (a : Int), .slice p k c]) ∧ fnd l x = some i ∧ ir.Lie w (fun g => g < mb) p k c cs ∧ Rep w (fun g => g < mb) i cs
theorem TyM.keep {w w' : World} {mb : Nat} {l : List Ty} (h : TyM w mb l) (hk : ∀ g, g ≤ mb → w'.heap[g]? = w.heap[g]?) (hs : w.heap.size ≤ w'.heap.size) (hx : Kx w w') : TyM w' mb l := by
  obtain ⟨f, n, h1, h2⟩ := h
  refine ⟨f, n, h1.same (hk mb (Nat.le_refl _)), fun x hx' => ?_⟩
  rcases h2 x hx' with h | ⟨nm, a, p, k, c, i, cs, g1, g2, g3, g4⟩
  · exact Or.inl h
  · exact Or.inr ⟨nm, a, p, k, c, i, cs, g1, g2, g3.keep (fun g hg _ => hk g (by omega)) hs, g4.keep (fun g hg _ => hk g (by omega)) hs hx⟩
structure RdL (w : World) (P mb : Nat) (s : ByteArray) (l : List Ty) (st : St) : Prop where
  at_ : w.heap[P]? = some (.cells #[.map (some mb), .string s, .int .i64 (st.1 : Int), .int .i64 (st.2 : Int)] 67 (0, 0))
  mp : TyM w mb l
  lt : mb < P
  a : st.1 ≤ s.size
  k : st.2 ≤ 400
  sz : s.size ≤ 5000
theorem RdL.lt' {w : World} {P mb : Nat} {s : ByteArray} {l : List Ty} {st : St} (h : RdL w P mb s l st) : P < w.heap.size := lt_of_heap h.at_
theorem RdL.bl {w w' : World} {P mb : Nat} {s : ByteArray} {l : List Ty} {st : St} (h : RdL w P mb s l st) (hb : Bl w w') : RdL w' P mb s l st := by
  have hP := h.lt'
  exact ⟨by rw [Below.block hb P hP]; exact h.at_, h.mp.keep (fun g hg => Below.block hb g (by have := h.lt; omega)) hb.size (Kx.bl hb), h.lt, h.a, h.k, h.sz⟩
theorem RdL.kx {w w' : World} {P mb : Nat} {s : ByteArray} {l : List Ty} {st : St} (h : RdL w P mb s l st) (hg : Gp P w w') : Kx w w' := fun b cs hb => by
  rw [hg.block b (lt_of_heap hb) (fun e => by subst e; have := h.at_; rw [hb] at this; simp at this)]
  exact hb
theorem RdL.go {w w' : World} {P mb : Nat} {s : ByteArray} {l : List Ty} {st st' : St} (h : RdL w P mb s l st) (hg : Gp P w w')
    (hc : w'.heap[P]? = some (.cells #[.map (some mb), .string s, .int .i64 (st'.1 : Int), .int .i64 (st'.2 : Int)] 67 (0, 0))) (ha : st'.1 ≤ s.size) (hk : st'.2 ≤ 400) : RdL w' P mb s l st' := by
  have hP := h.lt'
  exact ⟨hc, h.mp.keep (fun g hg' => hg.block g (by have := h.lt; omega) (by have := h.lt; omega)) hg.size (h.kx hg), h.lt, ha, hk, h.sz⟩
theorem RdL.cells {w : World} {P mb : Nat} {s : ByteArray} {l : List Ty} {st : St} (h : RdL w P mb s l st) : w.cell? ⟨P, 0, none⟩ = some (.map (some mb)) ∧ w.cell? ⟨P, 1, none⟩ = some (.string s) ∧ w.cell? ⟨P, 2, none⟩ = some (.int .i64 (st.1 : Int)) ∧ w.cell? ⟨P, 3, none⟩ = some (.int .i64 (st.2 : Int)) ∧ (∀ j, w.frozen? ⟨P, j, none⟩ = false) := by
  have h1 := h.at_
  exact ⟨by rw [cell_of h1]; rfl, by rw [cell_of h1]; rfl, by rw [cell_of h1]; rfl, by rw [cell_of h1]; rfl, fun j => by simp [World.frozen?, h1]⟩
def ItL (w : World) (ok : Nat → Prop) (c : C) (sub : Its) : Prop := IsO w c.pc c.d.ct ∧ ∃ cs, ir.Lie w ok c.p c.n c.c cs ∧ Rep w ok sub cs
theorem ItL.keep {w w' : World} {ok : Nat → Prop} {c : C} {sub : Its} (h : ItL w ok c sub) (hk : ∀ g, ok g → g < w.heap.size → w'.heap[g]? = w.heap[g]?) (hs : w.heap.size ≤ w'.heap.size) (hx : Kx w w') : ItL w' ok c sub := by
  obtain ⟨h1, cs, h2, h3⟩ := h
  exact ⟨h1.keep hx, cs, h2.keep hk hs, h3.keep hk hs hx⟩
theorem ItL.bl {w w' : World} {ok : Nat → Prop} {c : C} {sub : Its} (h : ItL w ok c sub) (hb : Bl w w') : ItL w' ok c sub := h.keep (fun g _ hg => Below.block hb g hg) hb.size (Kx.bl hb)
set_option maxRecDepth 10000 in
theorem throw_at (w : World) (P mb : Nat) (s : ByteArray) (l : List Ty) (st : St) (cd : Int) (h : RdL w P mb s l st) :
    Calls Tryz.prog 54 #[.pointer (some ⟨P, 0, none⟩), .int .i64 cd] w fun e w' => ∃ v, e = thrL v ∧ ErV w w' (cd, (st.1 : Int)) v ∧ Bl w w' := by
  obtain ⟨c0, c1, c2, c3, cz⟩ := h.cells
  have hP := h.lt'
  clear h c0 c1 c3 cz
  go_enter Tryz.func54, Tryz.ntmps54
  go_wp2
  refine ⟨rfl, _, rfl, Or.inr ⟨w.heap.size, rfl, Nat.le_refl _, ?_⟩, (Bl.refl _).alloc _⟩
  exact new_at _ _
def VlA (q : Except Nat Int) (w : World) (e : Ending) (w' : World) : Prop :=
  Bl w w' ∧ match q with
  | .ok n => e = .returned (.int .i64 n)
  | .error p => ∃ v, e = thrL v ∧ ErV w w' (5, (p : Int)) v
set_option maxRecDepth 10000 in
theorem value_at (c : C) (m : Value) (en : Env) (x : Ex) (w : World) (hX : IsX w (.pointer c.pc) x) (ho : Okb x) (hm : IsM w m en) :
    Calls Tryz.prog 90 #[itV c, m] w fun e w' => VlA (ev en x) w e w' := by
  rw [itV_eq]
  obtain ⟨w1, hw1⟩ : ∃ w1, w1 = w.alloc (.cells #[.int .i64 (c.d.kd : Int), .int .i64 (c.d.at_ : Int), .string (tx c.d.nm), .string (tx c.d.ty), .int .i64 (c.d.wd : Int), .int .i64 (c.d.od : Int), .bool c.d.sg, .bool c.d.mn, .pointer c.pc, .int .i64 (c.d.ru : Int), .string (tx c.d.f1), .string (tx c.d.l1), .slice c.p c.n c.c] 60) := ⟨_, rfl⟩
  have hb1 : Bl w w1 := by rw [hw1]; exact (Bl.refl _).alloc _
  have cE := Eval_at en m x (.pointer c.pc) w1 (hX.keep (Kx.bl hb1)) ho (hm.step hb1)
  have HB : Hid (Bl w w1) := hb1
  obtain ⟨q, hq⟩ : ∃ q, q = ev en x := ⟨_, rfl⟩
  rw [← hq] at cE ⊢
  clear hb1 hX hm ho hq
  go_enter Tryz.func90, Tryz.ntmps90
  go_wp2_with fail
  rw [← hw1]
  refine cE.mono ?_
  rintro e w2 ⟨hb2, hans⟩
  clear hw1
  cases q with
  | ok n =>
    dsimp only at hans
    subst hans
    go_wp2
    go_ret
    exact ⟨HB.out.trans hb2, rfl⟩
  | error p =>
    obtain ⟨B, rfl, hB, hA⟩ := hans
    go_wp2
    exact ⟨rfl, HB.out.trans hb2, _, rfl, Or.inr ⟨B, rfl, by have := HB.out.size; omega, hA⟩⟩
end Go.Proofs.YtococaecjecjgaaGreatDoor.ly
namespace Go.Proofs.YtococaecjecjgaaGreatDoor.words
open Go.ChangeShapes Go.WideShapes Go.ChangeAt Go.RowKit
open mem num

theorem whole_yes (W : Int) (w : World) (h : W = 1 ∨ W = 2 ∨ W = 4 ∨ W = 8) :
    Calls Tryz.prog 145 #[.int .i64 W] w fun e w' => e = .returned (.bool true) ∧ w' = w := by
  rcases h with rfl | rfl | rfl | rfl
  all_goals
    go_enter Tryz.func145, Tryz.ntmps145
    go_wp2
    go_ret
    exact ⟨rfl, rfl⟩
theorem known_yes (o : Int) (w : World) (h : o = 0 ∨ o = 1) :
    Calls Tryz.prog 146 #[.int .i64 o] w fun e w' => e = .returned (.bool true) ∧ w' = w := by
  rcases h with rfl | rfl
  all_goals
    go_enter Tryz.func146, Tryz.ntmps146
    go_wp2
    go_ret
    exact ⟨rfl, rfl⟩
theorem place_any (k W : Nat) (o : Bool) (w : World) (hk : k < W) (hW : W ≤ 8) :
    Calls Tryz.prog 147 #[.int .i64 k, .int .i64 W, .int .i64 (if o then 1 else 0)] w fun e w' => e = .returned (.int .i64 (pl W o k : Nat)) ∧ w' = w := by
  cases o
  all_goals
    simp only [if_true, Bool.false_eq_true, if_false]
    go_enter Tryz.func147, Tryz.ntmps147
    go_wp2
    go_ret
    exact ⟨ret_int (by simp [pl]; try omega), rfl⟩
theorem place_at (k W : Nat) (o : Bool) (O : Int) (w : World) (hk : k < W) (hW : W ≤ 8) (hO : (if o then (1 : Int) else 0) = O) :
    Calls Tryz.prog 147 #[.int .i64 k, .int .i64 W, .int .i64 O] w fun e w' => e = .returned (.int .i64 (pl W o k : Nat)) ∧ w' = w := by
  subst hO
  exact place_any k W o w hk hW
theorem info8 : (Tryz.prog.info? 5).map (fun i => (i.zero, i.size, i.bytes)) = some (some (.int .u8 0), 1, 1) := by kernel_rfl
theorem put_any (n : Int) (W : Nat) (o : Bool) (w : World) (hW : (W : Int) = 1 ∨ (W : Int) = 2 ∨ (W : Int) = 4 ∨ (W : Int) = 8) :
    Calls Tryz.prog 138 #[.int .u64 n, .int .i64 W, .int .i64 (if o then 1 else 0)] w fun e w' => e = .returned (.tuple #[.string (strOfNums (putL n W o W)), .nilIface]) ∧ Gb w w' := by
  have hmk := fun w => run_make_row' (P := Tryz.prog) 79 5 (.int .u8 0) 1 Tryz.underlying79 info8 rfl .i64 .i64 W (by omega) (by omega) w
  have ho : (if o then (1 : Int) else 0) = 0 ∨ (if o then (1 : Int) else 0) = 1 := by cases o <;> simp
  have hw8 : W ≤ 8 := by omega
  have HW : Hid ((W : Int) = 1 ∨ (W : Int) = 2 ∨ (W : Int) = 4 ∨ (W : Int) = 8) := hW
  have HO : Hid ((if o then (1 : Int) else 0) = 0 ∨ (if o then (1 : Int) else 0) = 1) := ho
  clear hW ho
  generalize hO : (if o then (1 : Int) else 0) = O at *
  have HOO : Hid ((if o then (1 : Int) else 0) = O) := hO
  clear hO
  go_enter Tryz.func138, Tryz.ntmps138
  go_wp2_with (first | (go_at_call 145; refine (whole_yes _ _ HW.out).mono ?_; rintro e w' ⟨rfl, rfl⟩) | (go_at_call 146; refine (known_yes _ _ HO.out).mono ?_; rintro e w' ⟨rfl, rfl⟩))
  go_loopw [22] (fun i wr => ∃ k : Nat, k ≤ W ∧ i = .int .i64 k ∧ Row wr 5 w'.heap.size (putL n W o k) ∧ Gb w' wr) (fun i _ => W - (intOf i).toNat)
  case atStart => exact ⟨0, Nat.zero_le _, rfl, by rw [putL_zero]; exact Row.made _ _ _, (Gb.refl _).alloc _ _⟩
  case round =>
    obtain ⟨k, hk, rfl, hrow, hgb⟩ := hrel
    by_cases hlt : k < W
    · have hpl : pl W o k < W := by unfold pl; split <;> omega
      have hc := hrow.cell (j := pl W o k) (by rw [putL_len]; exact hpl)
      have hf := hrow.frozen (pl W o k)
      have hsh := run_shr8 (P := Tryz.prog) n k (by omega)
      have hu8 := IntKind.wrap_u8' (n / 256 ^ k)
      go_wp2_with fail
      go_region_with (go_at_call 147; refine (place_at _ _ o _ _ (by omega) (by omega) HOO.out).mono ?_; rintro e w2 ⟨rfl, rfl⟩)
      go_wp2
      go_roundw
      case rel => exact ⟨k + 1, by omega, by go_num, by rw [← putL_set n W o k hlt]; exact (hrow.set _ _).drew, (hgb.setCell (Nat.le_refl _) _).drew⟩
      case measure => simp [intOf]; omega
    · obtain rfl : k = W := by omega
      have hcv := hrow.text (P := Tryz.prog) Tryz.underlying79 Tryz.underlying5 Tryz.underlying9 k (putL_len _ _ _ _)
      go_wp2
      go_ret2
      exact ⟨rfl, hgb⟩
theorem get_any (s : ByteArray) (A W : Nat) (o : Bool) (O : Int) (w : World) (hO : (if o then (1 : Int) else 0) = O) (hW : (W : Int) = 1 ∨ (W : Int) = 2 ∨ (W : Int) = 4 ∨ (W : Int) = 8) (hs : s.size ≤ maxLen) (hA : A + W ≤ s.size) :
    Calls Tryz.prog 116 #[.string s, .int .i64 A, .int .i64 W, .int .i64 O] w fun e w' => e = .returned (.tuple #[.int .u64 (gv (fun i => sb s (A + pl W o i)) W), .nilIface]) ∧ w' = w := by
  have ho : O = 0 ∨ O = 1 := by cases o <;> simp at hO <;> omega
  have hw8 : W ≤ 8 := by omega
  have HW : Hid ((W : Int) = 1 ∨ (W : Int) = 2 ∨ (W : Int) = 4 ∨ (W : Int) = 8) := hW
  have HO : Hid (O = 0 ∨ O = 1) := ho
  have HOO : Hid ((if o then (1 : Int) else 0) = O) := hO
  clear hW ho hO
  unfold maxLen at hs
  go_enter Tryz.func116, Tryz.ntmps116
  go_wp2_with (first | (go_at_call 145; refine (whole_yes _ _ HW.out).mono ?_; rintro e w' ⟨rfl, rfl⟩) | (go_at_call 146; refine (known_yes _ _ HO.out).mono ?_; rintro e w' ⟨rfl, rfl⟩))
  go_loop [10, 33] (fun n i => ∃ k : Nat, k ≤ W ∧ i = .int .i64 k ∧ n = .int .u64 (gv (fun i => sb s (A + pl W o i)) k)) (fun _ i => W - (intOf i).toNat)
  case atStart => exact ⟨0, Nat.zero_le _, rfl, rfl⟩
  case round =>
    obtain ⟨k, hk, rfl, rfl⟩ := hrel
    by_cases hlt : k < W
    · have hpl : pl W o k < W := by unfold pl; split <;> omega
      go_wp2_with (go_at_call 147; refine (place_at _ _ o _ _ (by omega) (by omega) HOO.out).mono ?_; rintro e w2 ⟨rfl, rfl⟩)
      go_round
      case rel => exact ⟨k + 1, by omega, by go_num, by
        have hb := sb_bd s (A + pl W o k)
        have hv := gv_bd (fun i => sb s (A + pl W o i)) (fun i => sb_bd s _) k
        rw [← sb_get s (A + pl W o k) (by omega), or_step _ _ k (by omega) hv.1 hv.2 hb.1 hb.2]
        rfl⟩
      case measure => simp [intOf]; omega
    · obtain rfl : k = W := by omega
      go_wp2
      go_ret2
      exact ⟨rfl, rfl⟩
end Go.Proofs.YtococaecjecjgaaGreatDoor.words
namespace Go.Proofs.YtococaecjecjgaaGreatDoor.ly
set_option linter.unusedVariables false
open Go.ChangeShapes Go.WideShapes Go.ChangeAt Go.RowKit
open mem lx ex tm num words

theorem sgn_calls (u : Int) (W : Nat) (hW : W = 1 ∨ W = 2 ∨ W = 4 ∨ W = 8) (h0 : 0 ≤ u) (h1 : u < 18446744073709551616) (w : World) :
    Calls Tryz.prog 117 #[.int .u64 u, .int .i64 (W : Int)] w fun e w' => e = .returned (.int .i64 (sgn u W)) ∧ w' = w := by
  rcases hW with rfl | rfl | rfl | rfl
  all_goals
    go_enter Tryz.func117, Tryz.ntmps117
    go_wp2
    go_ret
    exact ⟨num.ret_int (by simp only [sgn, IntKind.wrap_u64, wrap64]; simp <;> omega), rfl⟩
theorem get_few (s : ByteArray) (A W : Nat) (O : Int) (w : World) (hO : O = 0 ∨ O = 1) (hW : (W : Int) = 1 ∨ (W : Int) = 2 ∨ (W : Int) = 4 ∨ (W : Int) = 8) (hs : s.size ≤ 5000) (hA : s.size < A + W) :
    Calls Tryz.prog 116 #[.string s, .int .i64 A, .int .i64 W, .int .i64 O] w fun e w' => e = .returned (.tuple #[.int .u64 0, .iface 28 (.int .i64 2)]) ∧ w' = w := by
  have HW : Hid ((W : Int) = 1 ∨ (W : Int) = 2 ∨ (W : Int) = 4 ∨ (W : Int) = 8) := hW
  have HO : Hid (O = 0 ∨ O = 1) := hO
  have hw8 : W ≤ 8 := by omega
  clear hW hO
  go_enter Tryz.func116, Tryz.ntmps116
  go_wp2_with (first | (go_at_call 145; refine (whole_yes _ _ HW.out).mono ?_; rintro e w' ⟨rfl, rfl⟩) | (go_at_call 146; refine (known_yes _ _ HO.out).mono ?_; rintro e w' ⟨rfl, rfl⟩))
  go_ret2
  exact ⟨rfl, rfl⟩
end Go.Proofs.YtococaecjecjgaaGreatDoor.ly
