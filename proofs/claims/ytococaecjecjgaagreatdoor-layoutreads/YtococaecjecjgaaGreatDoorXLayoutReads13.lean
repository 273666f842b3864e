/- Texts laid together: Tm9, LyQ, Ly1, Words, LyW. -/
import Derived.Test.YtococaecjecjgaaGreatDoorXLayoutReads12
import Derived.Test.YtococaecjecjgaaGreatDoorXLayoutReads10
import Derived.Test.YtococaecjecjgaaGreatDoorXLayoutReads11
import Derived.Test.YtococaecjecjgaaGreatDoorRows
import Derived.Test.YtococaecjecjgaaGreatDoorXLayoutReads1
import Derived.WalkLawsBesides
import Derived.StillTailTactics
/- A reader of a template's tokens: part. -/
namespace Go.Proofs.YtococaecjecjgaaGreatDoor.tm
set_option linter.unusedVariables false
open Go.ChangeShapes Go.WideShapes Go.ChangeAt Go.RowKit Go.Shelf
open mem lx ex

theorem kx_item {w w' : World} {X : Nat} {c : C} (hI : Iv w X c) (hg : w.grownBy w' (some X)) : Kx w w' := fun b cs hb => by
  rw [hg.block b (lt_of_heap hb) (fun e => by
    injection e with e
    have := hI.h
    rw [← e, hb] at this
    simp at this)]
  exact hb
theorem kx_gp {P d mb : Nat} {s : ByteArray} {ts : List Tk} {w w' : World} (h : RdT w P s ts d mb) (hg : Gp P w w') : Kx w w' := fun b cs hb => by
  obtain ⟨cs', hcs⟩ := h.is
  rw [hg.block b (lt_of_heap hb) (fun e => by rw [e, hcs] at hb; simp at hb)]
  exact hb
theorem kx_st {w : World} {N : Nat} {c c' : C} (hI : Iv w N c) : Kx w (st13 w N c') := by
  have step : ∀ (w : World) (a : Array Value) (j : Nat) (u : Value), w.heap[N]? = some (.cells a 60 (0, 0)) → Kx w (w.setCell ⟨N, j, none⟩ u) ∧ ∃ a', (w.setCell ⟨N, j, none⟩ u).heap[N]? = some (.cells a' 60 (0, 0)) := by
    intro w a j u h
    refine ⟨fun b cs hb => ?_, _, heap_set h⟩
    rw [(grown_set w N j u).block b (lt_of_heap hb) (fun e => by injection e with e; rw [e, h] at hb; simp at hb)]
    exact hb
  have go : ∀ (l : List Value) (j : Nat) (w : World) (a : Array Value), w.heap[N]? = some (.cells a 60 (0, 0)) → Kx w ((l.foldl (fun (q : World × Nat) u => (q.1.setCell ⟨N, q.2, none⟩ u, q.2 + 1)) (w, j)).1) := by
    intro l
    induction l with
    | nil => intro j w a h; exact fun b cs hb => hb
    | cons u l ih =>
      intro j w a h
      obtain ⟨k1, a', k2⟩ := step w a j u h
      exact Kx.trans k1 (ih (j + 1) _ a' k2)
  exact go (cl c') 0 w _ hI.h
/-- All that a walk keeps, of an item under way. -/
structure Sq (w0 w : World) (P X : Nat) (s : ByteArray) (ts : List Tk) (d mb : Nat) (c : C) : Prop where
  ss : Ss w0 w P X s ts d mb c
  o : IsO w c.pc c.d.ct
theorem Sq.put {w0 w : World} {P X j : Nat} {s : ByteArray} {ts : List Tk} {d mb : Nat} {c c' : C} {u : Value} (h : Sq w0 w P X s ts d mb c) (hX : w0.heap.size ≤ X) (hPX : P < X) (he : (cl c).toArray.setIfInBounds j u = (cl c').toArray) (hp : c'.pc = c.pc ∧ c'.d.ct = c.d.ct) : Sq w0 (w.setCell ⟨X, j, none⟩ u) P X s ts d mb c' :=
  ⟨h.ss.put hX hPX he, by rw [hp.1, hp.2]; exact h.o.keep (kx_item h.ss.iv (grown_set w X j u))⟩
theorem Sq.go {w0 w w' : World} {P X : Nat} {s : ByteArray} {ts ts' : List Tk} {d mb : Nat} {c : C} (h : Sq w0 w P X s ts d mb c) (hg : Gp P w w') (hr : RdT w' P s ts' d mb) (hPX : P < X) : Sq w0 w' P X s ts' d mb c := ⟨h.ss.go hg hr hPX, h.o.keep (kx_gp h.ss.rd hg)⟩
theorem Sq.bl {w0 w w' : World} {P X : Nat} {s : ByteArray} {ts : List Tk} {d mb : Nat} {c : C} (h : Sq w0 w P X s ts d mb c) (hb : Bl w w') : Sq w0 w' P X s ts d mb c := ⟨h.ss.bl hb, h.o.keep (Kx.bl hb)⟩
/-- A world, cut short. -/
def cutW (w : World) (n : Nat) : World := { w with heap := w.heap.extract 0 n }
theorem cutW_size (w : World) (n : Nat) (h : n ≤ w.heap.size) : (cutW w n).heap.size = n := by
  show (w.heap.extract 0 n).size = n
  rw [Array.size_extract]; omega
theorem cutW_block (w : World) (n k : Nat) (h : k < n) (hn : n ≤ w.heap.size) : (cutW w n).heap[k]? = w.heap[k]? := by
  show (w.heap.extract 0 n)[k]? = _
  rw [Array.getElem?_extract]
  rw [if_pos (by omega), Nat.zero_add]
theorem cutW_gp (P : Nat) (w : World) (n : Nat) (h : n ≤ w.heap.size) : Gp P (cutW w n) w := ⟨rfl, rfl, rfl, by rw [cutW_size w n h]; exact h, fun k hk _ => by rw [cutW_size w n h] at hk; exact (cutW_block w n k hk h).symm⟩
/-- What a part's reading tells. -/
def PV (w : World) (v : Value) (d : D) : Prop := ∃ pc, v = itV ⟨d, pc, none, 0, 0⟩ ∧ IsO w pc d.ct
theorem part_is (en : Nat) (ts : List Tk) : (∀ e, kind en ts = .error e → part nb en ts = .error e) ∧ ∀ d1 r1, kind en ts = .ok (d1, r1) →
    (∀ e, name en r1 = .error e → part nb en ts = .error e) ∧ ∀ t r2, name en r1 = .ok (t, r2) →
    (∀ e, mark nb en { d1 with nm := t } r2 = .error e → part nb en ts = .error e) ∧ ∀ d3 r3, mark nb en { d1 with nm := t } r2 = .ok (d3, r3) →
    ((hd en r3).t = [59] → part nb en ts = .ok (d3, r3.tail)) ∧ (¬ (hd en r3).t = [59] → part nb en ts = .error (3, (hd en r3).a)) := by
  unfold part
  refine ⟨fun e h => by rw [h], fun d1 r1 h1 => ?_⟩
  rw [h1]
  dsimp only
  refine ⟨fun e h => by rw [h], fun t r2 h2 => ?_⟩
  rw [h2]
  dsimp only
  refine ⟨fun e h => by rw [h], fun d3 r3 h3 => ?_⟩
  rw [h3]
  dsimp only
  unfold want
  exact ⟨fun h => by rw [if_pos h], fun h => by rw [if_neg h]⟩
theorem mark_is' (en : Nat) (d : D) (ts : List Tk) : ((hd en ts).t = [91] → (∀ e, many nb en ts = .error e → mark nb en d ts = .error e) ∧ ∀ x r, many nb en ts = .ok (x, r) → mark nb en d ts = .ok ({ d with mn := true, ct := some x }, r)) ∧
    ((hd en ts).t = [61] → d.kd = 1 → mark nb en d ts = rule en d ts.tail) ∧ (¬ (hd en ts).t = [91] → ¬ ((hd en ts).t = [61] ∧ d.kd = 1) → mark nb en d ts = .ok (d, ts)) := by
  unfold mark
  refine ⟨fun h => ?_, fun h1 h2 => ?_, fun h1 h2 => by rw [if_neg h1, if_neg h2]⟩
  · rw [if_pos h]
    exact ⟨fun e he => by rw [he], fun x r hx => by rw [hx]⟩
  · rw [if_neg (by rw [h1]; decide), if_pos ⟨h1, h2⟩]
theorem rule_ct {en : Nat} {d d' : D} {ts r : List Tk} (h : rule en d ts = .ok (d', r)) : d'.ct = d.ct := by
  unfold rule at h
  split at h
  · cases h
  · split at h
    · cases h
    · split at h
      · split at h
        · injection h with h; injection h with h _; rw [← h]
        · split at h
          · cases h
          · injection h with h; injection h with h _; rw [← h]
      · injection h with h; injection h with h _; rw [← h]
/-- The way out: want ; and the item told. -/
theorem Ans.of_err {α : Type} {V : World → Value → α → Prop} {P d mb : Nat} {s : ByteArray} {w w' : World} {q : Rs α} {c : Int} {p B : Nat} (hq : q = .error (c, p)) (hg : Gp P w w') (hB : w.heap.size ≤ B) (hA : AtX w' B c (p : Int)) : Ans V P s d mb w q (thrownT B) w' := by rw [hq]; exact Ans.err hg hB hA
set_option maxRecDepth 10000 in
set_option maxHeartbeats 2000000 in
theorem part_at (w : World) (P d mb : Nat) (s : ByteArray) (ts : List Tk) (h : RdT w P s ts d mb) (hG : Gt w) (hGP : 6 ≤ P) :
    Calls Tryz.prog 162 #[.pointer (some ⟨P, 0, none⟩)] w fun e w' => Ans PV P s d mb w (part nb s.size ts) e w' := by
  have hPw := h.lt
  have hb1 : Bl w (w.alloc (.cells z13 60)) := (Bl.refl _).alloc _
  obtain ⟨N, hN⟩ : ∃ N, N = w.heap.size := ⟨_, rfl⟩
  obtain ⟨w1, hw1⟩ : ∃ w1, w1 = w.alloc (.cells z13 60) := ⟨_, rfl⟩
  have hv1 : Iv w1 N ⟨D0, none, none, 0, 0⟩ := ⟨by rw [hw1, hN]; exact new_at _ _⟩
  rw [← hw1] at hb1
  obtain ⟨o1, o2⟩ := part_is s.size ts
  obtain ⟨q, hq⟩ : ∃ q, q = part nb s.size ts := ⟨_, rfl⟩
  rw [← hq] at o1 o2 ⊢
  have ck := kind_at w1 P d mb s ts (h.step hb1) (hG.bl hb1) hGP
  have HR : Hid (RdT w P s ts d mb ∧ Gt w ∧ N = w.heap.size ∧ Bl w w1 ∧ Iv w1 N ⟨D0, none, none, 0, 0⟩) := ⟨h, hG, hN, hb1, hv1⟩
  have hf0 := run_text
  clear h hG hb1 hv1 hq
  go_enter Tryz.func162, Tryz.ntmps162
  go_upto_region 1 with fail
  change Code.wp _ _ _ _ (w.alloc (.cells z13 60))
  rw [← hw1, ← hN]
  clear hw1 hN
  go_wp2_with fail
  refine ck.mono ?_
  rintro e w2 ⟨hg2, hans⟩
  cases hk : kind s.size ts with
  | error kp =>
    obtain ⟨k1, p1⟩ := kp
    rw [hk] at hans
    obtain ⟨B, rfl, hB, hA⟩ := hans
    have HQ : Hid (q = .error (k1, p1)) := o1 _ hk
    unfold thrownT
    clear ck o1 o2 hk
    go_wp2
    exact ⟨rfl, Ans.of_err HQ.out ((Gp.bl HR.out.2.2.2.1).trans hg2) (Nat.le_trans HR.out.2.2.2.1.size hB) hA⟩
  | ok dr =>
    obtain ⟨d1, r1⟩ := dr
    rw [hk] at hans
    obtain ⟨v, rfl, ⟨rfl, hct⟩, hR2⟩ := hans
    obtain ⟨o3, o4⟩ := o2 _ _ hk
    obtain ⟨X, hX⟩ : ∃ X, X = w2.heap.size := ⟨_, rfl⟩
    obtain ⟨c1, hc1⟩ : ∃ c1 : C, c1 = ⟨d1, none, none, 0, 0⟩ := ⟨_, rfl⟩
    obtain ⟨w3, hw3⟩ : ∃ w3, w3 = w2.alloc (.cells (cl c1).toArray 60) := ⟨_, rfl⟩
    have hb3 : Bl w2 w3 := by rw [hw3]; exact (Bl.refl _).alloc _
    have hv3 : Iv w3 X c1 := ⟨by rw [hw3, hX]; exact new_at _ _⟩
    have hP2 : P < w2.heap.size := hR2.lt
    have hN2 := HR.out.2.2.2.2.gp hg2 (by have := HR.out.2.2.1; omega)
    have H3 : Hid (Sq w w3 P X s r1 d mb c1 ∧ w.heap.size ≤ X ∧ P < X ∧ Gt w3 ∧ Iv w3 N ⟨D0, none, none, 0, 0⟩ ∧ N < X ∧ P < N) := by
      refine ⟨⟨⟨((Gp.bl HR.out.2.2.2.1).trans hg2).trans (Gp.bl hb3), hR2.step hb3, hv3⟩, ?_⟩, ?_, by omega, ?_, hN2.bl hb3, by have := hN2.lt; omega, by have := HR.out.2.2.1; omega⟩
      · rw [hc1]; show IsO w3 none d1.ct; rw [hct]; rfl
      · have := HR.out.2.2.2.1.size; have := hg2.size; omega
      · exact ((HR.out.2.1.bl HR.out.2.2.2.1).gp hg2 hGP (by have := HR.out.2.2.2.1.size; omega)).bl hb3
    have HD : Hid (c1.d = d1 ∧ c1 = ⟨d1, none, none, 0, 0⟩) := ⟨by rw [hc1], hc1⟩
    unfold itV
    rw [← hc1]
    have hcl : (cl c1).toArray = #[.int .i64 (c1.d.kd : Int), .int .i64 (c1.d.at_ : Int), .string (tx c1.d.nm), .string (tx c1.d.ty), .int .i64 (c1.d.wd : Int), .int .i64 (c1.d.od : Int), .bool c1.d.sg, .bool c1.d.mn, .pointer c1.pc, .int .i64 (c1.d.ru : Int), .string (tx c1.d.f1), .string (tx c1.d.l1), .slice c1.p c1.n c1.c] := rfl
    rw [hcl] at hw3 ⊢
    have cA := name_at w3 P d mb s r1 H3.out.1.ss.rd
    clear hc1 hb3 hv3 hP2 hN2 hg2 hR2 hct hk o1 o2 ck hcl
    go_upto_region 2 with fail
    rw [← hw3, ← hX]
    clear hw3 hX
    -- the name
    generalize (Value.agg #[.int .i64 (c1.d.kd : Int), .int .i64 (c1.d.at_ : Int), .string (tx c1.d.nm), .string (tx c1.d.ty), .int .i64 (c1.d.wd : Int), .int .i64 (c1.d.od : Int), .bool c1.d.sg, .bool c1.d.mn, .pointer c1.pc, .int .i64 (c1.d.ru : Int), .string (tx c1.d.f1), .string (tx c1.d.l1), .slice c1.p c1.n c1.c]) = AV
    go_wp2_with fail
    refine cA.mono ?_
    rintro e w4 ⟨hg4, hans⟩
    cases hn : name s.size r1 with
    | error kp =>
      obtain ⟨k1, p1⟩ := kp
      rw [hn] at hans
      obtain ⟨B, rfl, hB, hA⟩ := hans
      have HQ : Hid (q = .error (k1, p1)) := o3 _ hn
      unfold thrownT
      clear cA o3 o4 hn
      go_wp2
      exact ⟨rfl, Ans.of_err HQ.out (H3.out.1.ss.gp.trans hg4) (Nat.le_trans H3.out.1.ss.gp.size hB) hA⟩
    | ok tr =>
      obtain ⟨t, r2⟩ := tr
      rw [hn] at hans
      obtain ⟨v, rfl, rfl, hR4⟩ := hans
      obtain ⟨o5, o6⟩ := o4 _ _ hn
      have hPX := H3.out.2.2.1
      have H4 : Hid (Sq w w4 P X s r2 d mb c1 ∧ Iv w4 N ⟨D0, none, none, 0, 0⟩ ∧ Gt w4) := ⟨H3.out.1.go hg4 hR4 hPX, H3.out.2.2.2.2.1.gp hg4 (by have := H3.out; omega), H3.out.2.2.2.1.gp hg4 hGP (by have := H3.out.1.ss.rd.lt; omega)⟩
      have hNX : N ≠ X := by have := H3.out; omega
      have x2 : w4.cell? ⟨X, 2, none⟩ = some (.string (tx c1.d.nm)) := H4.out.1.ss.iv.cell 2
      have z2 := H4.out.1.ss.iv.fz 2
      have hXs := H4.out.1.ss.iv.lt
      obtain ⟨w5, hw5⟩ : ∃ w5, w5 = w4.setCell ⟨X, 2, none⟩ (.string (tx t)) := ⟨_, rfl⟩
      have H5 : Hid (Sq w w5 P X s r2 d mb (c1.nm t) ∧ Iv w5 N ⟨D0, none, none, 0, 0⟩ ∧ Gt w5) := by
        rw [hw5]
        refine ⟨H4.out.1.put H3.out.2.1 hPX (set_nm c1 t) ⟨rfl, rfl⟩, ⟨?_⟩, ?_⟩
        · rw [(grown_set w4 X 2 _).block N H4.out.2.1.lt (fun e => hNX (by injection e))]; exact H4.out.2.1.h
        · exact H4.out.2.2.below ⟨rfl, rfl, rfl, by simp [World.setCell], fun k hk => (grown_set w4 X 2 _).block k (by omega) (fun e => by injection e with e; omega)⟩
      have HD5 : Hid ((c1.nm t).d = { d1 with nm := t } ∧ c1.nm t = ⟨{ d1 with nm := t }, none, none, 0, 0⟩) := by
        obtain ⟨e1, e2⟩ := HD.out
        subst e2
        exact ⟨rfl, rfl⟩
      obtain ⟨c5, hc5⟩ : ∃ c5, c5 = c1.nm t := ⟨_, rfl⟩
      rw [← hc5] at H5 HD5
      have cN := next_at w5 P d mb s r2 H5.out.1.ss.rd
      obtain ⟨T, hT⟩ : ∃ T, T = hd s.size r2 := ⟨_, rfl⟩
      rw [← hT] at cN
      have htl := tl_tx T.t
      have HT : Hid (T = hd s.size r2) := hT
      obtain ⟨m1, m2, m3⟩ := mark_is' s.size { d1 with nm := t } r2
      rw [← hT] at m1 m2 m3
      unfold tkV at cN ⊢
      clear hc5 hg4 hR4 hn cA o3 o4 hT
      go_upto_region 3 with fail
      rw [← hw5]
      clear hw5 x2 z2 hXs
      go_wp2_with fail
      refine cN.mono ?_
      rintro e w6 ⟨rfl, hb6⟩
      have H6 : Hid (Sq w w6 P X s r2 d mb c5 ∧ Iv w6 N ⟨D0, none, none, 0, 0⟩ ∧ Gt w6) := ⟨H5.out.1.bl hb6, H5.out.2.1.bl hb6, H5.out.2.2.bl hb6⟩
      clear hb6 cN
      by_cases h91 : T.t = [91]
      · -- many
        obtain ⟨m4, m5⟩ := m1 h91
        have cM := many_at w6 P d mb s r2 H6.out.1.ss.rd H6.out.2.2 hGP
        generalize tx T.t = S at *
        rw [h91] at htl
        clear m1 m2 m3 h91
        go_wp2_with fail
        refine cM.mono ?_
        rintro e w7 ⟨hg7, hans⟩
        cases hm : many nb s.size r2 with
        | error kp =>
          obtain ⟨k1, p1⟩ := kp
          rw [hm] at hans
          obtain ⟨B, rfl, hB, hA⟩ := hans
          have HQ : Hid (q = .error (k1, p1)) := o5 _ (m4 _ hm)
          unfold thrownT
          clear cM o5 o6 m4 m5 hm
          go_wp2
          exact ⟨rfl, Ans.of_err HQ.out (H6.out.1.ss.gp.trans hg7) (Nat.le_trans H6.out.1.ss.gp.size hB) hA⟩
        | ok xr =>
          obtain ⟨x, r3⟩ := xr
          rw [hm] at hans
          obtain ⟨v, rfl, hx, hR7⟩ := hans
          obtain ⟨vb, rfl, _⟩ := hx.ptr
          have HQ9 := o6 _ _ (m5 _ _ hm)
          have H7 := H6.out.1.go hg7 hR7 hPX
          have hN7 := H6.out.2.1.gp hg7 (by have := H3.out; omega)
          obtain ⟨c9, hc9⟩ : ∃ c9 : C, c9 = ⟨{ d1 with nm := t, mn := true, ct := some x }, some ⟨vb, 0, none⟩, none, 0, 0⟩ := ⟨_, rfl⟩
          have x7 : w7.cell? ⟨X, 7, none⟩ = some (.bool c5.d.mn) := H7.ss.iv.cell 7
          have x8 : w7.cell? ⟨X, 8, none⟩ = some (.pointer c5.pc) := H7.ss.iv.cell 8
          have z7 := H7.ss.iv.fz 7
          have z8 := H7.ss.iv.fz 8
          have hXs := H7.ss.iv.lt
          obtain ⟨w8, hw8⟩ : ∃ w8, w8 = (w7.setCell ⟨X, 7, none⟩ (.bool true)).setCell ⟨X, 8, none⟩ (.pointer (some ⟨vb, 0, none⟩)) := ⟨_, rfl⟩
          have H9 : Hid (Sq w w8 P X s r3 d mb c9 ∧ Iv w8 N ⟨D0, none, none, 0, 0⟩ ∧ c9 = ⟨{ d1 with nm := t, mn := true, ct := some x }, c9.pc, none, 0, 0⟩) := by
            have e5 := HD5.out.2
            have k1 := H7.ss.put (j := 7) (u := .bool true) (c' := ⟨{ d1 with nm := t, mn := true }, none, none, 0, 0⟩) H3.out.2.1 hPX (by rw [e5]; rfl)
            have k2 := k1.put (j := 8) (u := .pointer (some ⟨vb, 0, none⟩)) (c' := c9) H3.out.2.1 hPX (by rw [hc9]; rfl)
            have kx1 : Kx w7 (w7.setCell ⟨X, 7, none⟩ (.bool true)) := kx_item H7.ss.iv (grown_set w7 X 7 _)
            have kx2 : Kx (w7.setCell ⟨X, 7, none⟩ (.bool true)) w8 := by rw [hw8]; exact kx_item k1.iv (grown_set _ X 8 _)
            rw [← hw8] at k2
            refine ⟨⟨k2, ?_⟩, ⟨?_⟩, by rw [hc9]⟩
            · rw [hc9]
              exact IsX.keep (kx1.trans kx2) hx
            · rw [hw8, (grown_set _ X 8 _).block N (by simp [World.setCell]; exact hN7.lt) (fun e => hNX (by injection e)), (grown_set w7 X 7 _).block N hN7.lt (fun e => hNX (by injection e))]; exact hN7.h
          clear hc9 hg7 hR7 hx H7 hN7 hm m4 m5 cM o5 o6
          go_upto_region 9 with fail
          rw [← hw8]
          clear hw8 x7 x8 z7 z8 hXs
          have cW := want_at ⟨#[59]⟩ w8 P d mb s r3 H9.out.1.ss.rd
          rw [show L ⟨#[59]⟩ = [59] from rfl] at cW
          obtain ⟨HQy, HQn⟩ := HQ9
          by_cases h59 : (hd s.size r3).t = [59]
          · have HQ : Hid (q = .ok ({ d1 with nm := t, mn := true, ct := some x }, r3.tail)) := HQy h59
            rw [wantU_yes h59] at cW
            clear HQy HQn h59
            go_wp2_with fail
            refine cW.mono ?_
            rintro e wy ⟨hgy, vy, rfl, rfl, hRy⟩
            have HY : Hid (Sq w wy P X s r3.tail d mb c9 ∧ Iv wy N ⟨D0, none, none, 0, 0⟩ ∧ w.heap.size ≤ N ∧ P < N ∧ c9 = ⟨{ d1 with nm := t, mn := true, ct := some x }, c9.pc, none, 0, 0⟩) := ⟨H9.out.1.go hgy hRy (by have := H3.out; omega), H9.out.2.1.gp hgy (by have := H3.out; omega), by have := HR.out.2.2.1; omega, H3.out.2.2.2.2.2.2, H9.out.2.2⟩
            obtain ⟨q0, q1, q2, q3, q4, q5, q6, q7, q8, q9, q10, q11, q12⟩ := HY.out.2.1.facts
            obtain ⟨z0, z1, z2, z3, z4, z5, z6, z7, z8, z9, z10, z11, z12⟩ := HY.out.2.1.fzs
            obtain ⟨x0, x1, x2, x3, x4, x5, x6, x7, x8, x9, x10, x11, x12⟩ := HY.out.1.ss.iv.facts
            have hNy := HY.out.2.1.lt
            have hXy := HY.out.1.ss.iv.lt
            unfold tkV
            clear cW hgy hRy
            go_wp2
            have hst := HY.out.2.1.store c9
            have hgp := st_gp (c := c9) HY.out.1.ss.gp HY.out.2.2.1
            have hrd := st_rd (c := c9) HY.out.1.ss.rd HY.out.2.2.2.1
            have hox := HY.out.1.o.keep (kx_st (c' := c9) HY.out.2.1)
            rw [HQ.out]
            refine bodyPost_ret (v := itV c9) (results_cell_row rfl _ _ N 60 (cl c9).toArray (0, 0) _ rfl hst.h Tryz.underlying60 rfl infoI) rfl ⟨hgp, _, rfl, ⟨c9.pc, ?_, ?_⟩, hrd⟩
            · rw [← HY.out.2.2.2.2]
            · have e : c9.d = { d1 with nm := t, mn := true, ct := some x } := by have e := HY.out.2.2.2.2; exact congrArg C.d e
              rw [e] at hox
              exact hox
          · have HQ : Hid (q = .error (3, (hd s.size r3).a)) := HQn h59
            rw [wantU_no h59] at cW
            clear HQy HQn h59
            go_wp2_with fail
            refine cW.mono ?_
            rintro e wy ⟨hgy, B, rfl, hB, hA⟩
            unfold thrownT
            clear cW
            go_wp2
            exact ⟨rfl, Ans.of_err HQ.out (H9.out.1.ss.gp.trans hgy) (Nat.le_trans H9.out.1.ss.gp.size hB) hA⟩
      · by_cases h61 : T.t = [61]
        · have x0 : w6.cell? ⟨X, 0, none⟩ = some (.int .i64 (c5.d.kd : Int)) := H6.out.1.ss.iv.cell 0
          have e5 : c5.d.kd = d1.kd := by rw [HD5.out.1]
          rw [e5] at x0
          by_cases hkd : d1.kd = 1
          · -- a rule
            have m2' := m2 h61 hkd
            rw [hkd] at x0
            have x0' : w6.cell? ⟨X, 0, none⟩ = some (.int .i64 1) := x0
            have cT := take_at w6 P d mb s r2 H6.out.1.ss.rd
            rw [← HT.out] at cT
            unfold tkV at cT
            generalize tx T.t = S at *
            rw [h61] at htl
            clear m1 m2 m3 h61 h91 x0 e5
            go_wp2_with fail
            refine cT.mono ?_
            rintro e w7 ⟨rfl, hR7, hg7⟩
            have H7 : Hid (Sq w w7 P X s r2.tail d mb c5 ∧ Iv w7 N ⟨D0, none, none, 0, 0⟩ ∧ Gt w7) := ⟨H6.out.1.go hg7 hR7 hPX, H6.out.2.1.gp hg7 (by have := H3.out; omega), H6.out.2.2.gp hg7 hGP (by have := H6.out.1.ss.rd.lt; omega)⟩
            have hX7 : X ≤ w7.heap.size := by have := H7.out.1.ss.iv.lt; omega
            have cR := rule_at (cutW w7 X) w7 P X d mb s r2.tail c5 H7.out.1.ss.rd (cutW_gp P w7 X hX7) (by rw [cutW_size w7 X hX7]; exact Nat.le_refl _) hPX H7.out.1.ss.iv H7.out.2.2 hGP
            have HX7 : Hid (X ≤ w7.heap.size) := hX7
            rw [HD5.out.1] at cR
            clear cT hg7 hR7 x0' hX7
            go_wp2_with fail
            refine cR.mono ?_
            rintro e w8 ⟨hg8, hans⟩
            have hg78 : Gp P w w8 := ⟨hg8.os.trans (H7.out.1.ss.gp.os), hg8.tape.trans H7.out.1.ss.gp.tape, hg8.output.trans H7.out.1.ss.gp.output, by have := hg8.size; rw [cutW_size w7 X HX7.out] at this; have := H3.out.2.1; omega, fun k hk hne => by
              have h1 := H3.out.2.1
              rw [hg8.block k (by rw [cutW_size w7 X HX7.out]; omega) hne, cutW_block w7 X k (by omega) HX7.out]
              exact H7.out.1.ss.gp.block k hk hne⟩
            cases hm : rule s.size { d1 with nm := t } r2.tail with
            | error kp =>
              obtain ⟨k1, p1⟩ := kp
              rw [hm] at hans
              obtain ⟨B, rfl, hB, hA⟩ := hans
              have HQ : Hid (q = .error (k1, p1)) := o5 _ (by rw [m2', hm])
              unfold thrownT
              clear cR o5 o6 hm m2'
              go_wp2
              exact ⟨rfl, Ans.of_err HQ.out hg78 (by rw [cutW_size w7 X HX7.out] at hB; have := H3.out.2.1; omega) hA⟩
            | ok xr =>
              obtain ⟨d3, r3⟩ := xr
              rw [hm] at hans
              obtain ⟨rfl, hI8, hR8⟩ := hans
              have HQ9 := o6 d3 r3 (by rw [m2', hm])
              obtain ⟨c9, hc9⟩ : ∃ c9 : C, c9 = { c5 with d := d3 } := ⟨_, rfl⟩
              have H9 : Hid (Sq w w8 P X s r3 d mb c9 ∧ Iv w8 N ⟨D0, none, none, 0, 0⟩ ∧ c9 = ⟨d3, c9.pc, none, 0, 0⟩) := by
                have e5 := HD5.out.2
                rw [hc9]
                refine ⟨⟨⟨hg78, hR8, hI8⟩, ?_⟩, ⟨?_⟩, by rw [e5]⟩
                · have h9 := rule_ct hm
                  show IsO w8 c5.pc d3.ct
                  rw [h9, e5]
                  have h5 := HD.out.2
                  have := H3.out.1.o
                  rw [h5] at this
                  cases hct : d1.ct with
                  | none => rfl
                  | some x =>
                    exfalso
                    have e : (⟨d1, none, none, 0, 0⟩ : C).d.ct = some x := hct
                    rw [e] at this
                    obtain ⟨b, hb, _⟩ := IsX.ptr this
                    cases hb
                · have hNX' : N < X := H3.out.2.2.2.2.2.1
                  rw [hg8.block N (by rw [cutW_size w7 X HX7.out]; exact hNX') (by have := H3.out.2.2.2.2.2.2; omega), cutW_block w7 X N hNX' HX7.out]
                  exact H7.out.2.1.h
              clear hc9 hg8 hR8 hI8 hm m2' cR o5 o6
              go_upto_region 9 with fail
              have cW := want_at ⟨#[59]⟩ w8 P d mb s r3 H9.out.1.ss.rd
              rw [show L ⟨#[59]⟩ = [59] from rfl] at cW
              obtain ⟨HQy, HQn⟩ := HQ9
              by_cases h59 : (hd s.size r3).t = [59]
              · have HQ : Hid (q = .ok (d3, r3.tail)) := HQy h59
                rw [wantU_yes h59] at cW
                clear HQy HQn h59
                go_wp2_with fail
                refine cW.mono ?_
                rintro e wy ⟨hgy, vy, rfl, rfl, hRy⟩
                have HY : Hid (Sq w wy P X s r3.tail d mb c9 ∧ Iv wy N ⟨D0, none, none, 0, 0⟩ ∧ w.heap.size ≤ N ∧ P < N ∧ c9 = ⟨d3, c9.pc, none, 0, 0⟩) := ⟨H9.out.1.go hgy hRy (by have := H3.out; omega), H9.out.2.1.gp hgy (by have := H3.out; omega), by have := HR.out.2.2.1; omega, H3.out.2.2.2.2.2.2, H9.out.2.2⟩
                obtain ⟨q0, q1, q2, q3, q4, q5, q6, q7, q8, q9, q10, q11, q12⟩ := HY.out.2.1.facts
                obtain ⟨z0, z1, z2, z3, z4, z5, z6, z7, z8, z9, z10, z11, z12⟩ := HY.out.2.1.fzs
                obtain ⟨x0, x1, x2, x3, x4, x5, x6, x7, x8, x9, x10, x11, x12⟩ := HY.out.1.ss.iv.facts
                have hNy := HY.out.2.1.lt
                have hXy := HY.out.1.ss.iv.lt
                unfold tkV
                clear cW hgy hRy
                go_wp2
                have hst := HY.out.2.1.store c9
                have hgp := st_gp (c := c9) HY.out.1.ss.gp HY.out.2.2.1
                have hrd := st_rd (c := c9) HY.out.1.ss.rd HY.out.2.2.2.1
                have hox := HY.out.1.o.keep (kx_st (c' := c9) HY.out.2.1)
                rw [HQ.out]
                refine bodyPost_ret (v := itV c9) (results_cell_row rfl _ _ N 60 (cl c9).toArray (0, 0) _ rfl hst.h Tryz.underlying60 rfl infoI) rfl ⟨hgp, _, rfl, ⟨c9.pc, ?_, ?_⟩, hrd⟩
                · rw [← HY.out.2.2.2.2]
                · have e : c9.d = d3 := by have e := HY.out.2.2.2.2; exact congrArg C.d e
                  rw [e] at hox
                  exact hox
              · have HQ : Hid (q = .error (3, (hd s.size r3).a)) := HQn h59
                rw [wantU_no h59] at cW
                clear HQy HQn h59
                go_wp2_with fail
                refine cW.mono ?_
                rintro e wy ⟨hgy, B, rfl, hB, hA⟩
                unfold thrownT
                clear cW
                go_wp2
                exact ⟨rfl, Ans.of_err HQ.out (H9.out.1.ss.gp.trans hgy) (Nat.le_trans H9.out.1.ss.gp.size hB) hA⟩
          · have hkd' : ((d1.kd : Int) == 1) = false := by rw [beq_eq_false_iff_ne]; omega
            have HQ9 := o6 _ _ (m3 h91 (fun h => hkd h.2))
            obtain ⟨c9, hc9⟩ : ∃ c9 : C, c9 = c5 := ⟨_, rfl⟩
            have H9 : Hid (Sq w w6 P X s r2 d mb c9 ∧ Iv w6 N ⟨D0, none, none, 0, 0⟩ ∧ c9 = ⟨{ d1 with nm := t }, c9.pc, none, 0, 0⟩) := by
              rw [hc9]
              exact ⟨H6.out.1, H6.out.2.1, by rw [HD5.out.2]⟩
            generalize tx T.t = S at *
            rw [h61] at htl
            clear m1 m2 m3 h61 h91 e5 hkd hc9 o5 o6
            go_upto_region 9 with fail
            clear x0 hkd'
            have cW := want_at ⟨#[59]⟩ w6 P d mb s r2 H9.out.1.ss.rd
            rw [show L ⟨#[59]⟩ = [59] from rfl] at cW
            obtain ⟨HQy, HQn⟩ := HQ9
            by_cases h59 : (hd s.size r2).t = [59]
            · have HQ : Hid (q = .ok ({ d1 with nm := t }, r2.tail)) := HQy h59
              rw [wantU_yes h59] at cW
              clear HQy HQn h59
              go_wp2_with fail
              refine cW.mono ?_
              rintro e wy ⟨hgy, vy, rfl, rfl, hRy⟩
              have HY : Hid (Sq w wy P X s r2.tail d mb c9 ∧ Iv wy N ⟨D0, none, none, 0, 0⟩ ∧ w.heap.size ≤ N ∧ P < N ∧ c9 = ⟨{ d1 with nm := t }, c9.pc, none, 0, 0⟩) := ⟨H9.out.1.go hgy hRy (by have := H3.out; omega), H9.out.2.1.gp hgy (by have := H3.out; omega), by have := HR.out.2.2.1; omega, H3.out.2.2.2.2.2.2, H9.out.2.2⟩
              obtain ⟨q0, q1, q2, q3, q4, q5, q6, q7, q8, q9, q10, q11, q12⟩ := HY.out.2.1.facts
              obtain ⟨z0, z1, z2, z3, z4, z5, z6, z7, z8, z9, z10, z11, z12⟩ := HY.out.2.1.fzs
              obtain ⟨x0, x1, x2, x3, x4, x5, x6, x7, x8, x9, x10, x11, x12⟩ := HY.out.1.ss.iv.facts
              have hNy := HY.out.2.1.lt
              have hXy := HY.out.1.ss.iv.lt
              unfold tkV
              clear cW hgy hRy
              go_wp2
              have hst := HY.out.2.1.store c9
              have hgp := st_gp (c := c9) HY.out.1.ss.gp HY.out.2.2.1
              have hrd := st_rd (c := c9) HY.out.1.ss.rd HY.out.2.2.2.1
              have hox := HY.out.1.o.keep (kx_st (c' := c9) HY.out.2.1)
              rw [HQ.out]
              refine bodyPost_ret (v := itV c9) (results_cell_row rfl _ _ N 60 (cl c9).toArray (0, 0) _ rfl hst.h Tryz.underlying60 rfl infoI) rfl ⟨hgp, _, rfl, ⟨c9.pc, ?_, ?_⟩, hrd⟩
              · rw [← HY.out.2.2.2.2]
              · have e : c9.d = { d1 with nm := t } := by have e := HY.out.2.2.2.2; exact congrArg C.d e
                rw [e] at hox
                exact hox
            · have HQ : Hid (q = .error (3, (hd s.size r2).a)) := HQn h59
              rw [wantU_no h59] at cW
              clear HQy HQn h59
              go_wp2_with fail
              refine cW.mono ?_
              rintro e wy ⟨hgy, B, rfl, hB, hA⟩
              unfold thrownT
              clear cW
              go_wp2
              exact ⟨rfl, Ans.of_err HQ.out (H9.out.1.ss.gp.trans hgy) (Nat.le_trans H9.out.1.ss.gp.size hB) hA⟩
        · have HQ9 := o6 _ _ (m3 h91 (fun h => h61 h.1))
          obtain ⟨c9, hc9⟩ : ∃ c9 : C, c9 = c5 := ⟨_, rfl⟩
          have H9 : Hid (Sq w w6 P X s r2 d mb c9 ∧ Iv w6 N ⟨D0, none, none, 0, 0⟩ ∧ c9 = ⟨{ d1 with nm := t }, c9.pc, none, 0, 0⟩) := by
            rw [hc9]
            exact ⟨H6.out.1, H6.out.2.1, by rw [HD5.out.2]⟩
          have hb1 : ((tx T.t).toList == [91]) = false := by rw [htl, beq_eq_false_iff_ne]; exact h91
          have hb2 : ((tx T.t).toList == [61]) = false := by rw [htl, beq_eq_false_iff_ne]; exact h61
          clear m1 m2 m3 h61 h91 hc9 o5 o6 htl
          generalize tx T.t = S at *
          go_upto_region 9 with fail
          have cW := want_at ⟨#[59]⟩ w6 P d mb s r2 H9.out.1.ss.rd
          rw [show L ⟨#[59]⟩ = [59] from rfl] at cW
          obtain ⟨HQy, HQn⟩ := HQ9
          by_cases h59 : (hd s.size r2).t = [59]
          · have HQ : Hid (q = .ok ({ d1 with nm := t }, r2.tail)) := HQy h59
            rw [wantU_yes h59] at cW
            clear HQy HQn h59
            go_wp2_with fail
            refine cW.mono ?_
            rintro e wy ⟨hgy, vy, rfl, rfl, hRy⟩
            have HY : Hid (Sq w wy P X s r2.tail d mb c9 ∧ Iv wy N ⟨D0, none, none, 0, 0⟩ ∧ w.heap.size ≤ N ∧ P < N ∧ c9 = ⟨{ d1 with nm := t }, c9.pc, none, 0, 0⟩) := ⟨H9.out.1.go hgy hRy (by have := H3.out; omega), H9.out.2.1.gp hgy (by have := H3.out; omega), by have := HR.out.2.2.1; omega, H3.out.2.2.2.2.2.2, H9.out.2.2⟩
            obtain ⟨q0, q1, q2, q3, q4, q5, q6, q7, q8, q9, q10, q11, q12⟩ := HY.out.2.1.facts
            obtain ⟨z0, z1, z2, z3, z4, z5, z6, z7, z8, z9, z10, z11, z12⟩ := HY.out.2.1.fzs
            obtain ⟨x0, x1, x2, x3, x4, x5, x6, x7, x8, x9, x10, x11, x12⟩ := HY.out.1.ss.iv.facts
            have hNy := HY.out.2.1.lt
            have hXy := HY.out.1.ss.iv.lt
            unfold tkV
            clear cW hgy hRy
            go_wp2
            have hst := HY.out.2.1.store c9
            have hgp := st_gp (c := c9) HY.out.1.ss.gp HY.out.2.2.1
            have hrd := st_rd (c := c9) HY.out.1.ss.rd HY.out.2.2.2.1
            have hox := HY.out.1.o.keep (kx_st (c' := c9) HY.out.2.1)
            rw [HQ.out]
            refine bodyPost_ret (v := itV c9) (results_cell_row rfl _ _ N 60 (cl c9).toArray (0, 0) _ rfl hst.h Tryz.underlying60 rfl infoI) rfl ⟨hgp, _, rfl, ⟨c9.pc, ?_, ?_⟩, hrd⟩
            · rw [← HY.out.2.2.2.2]
            · have e : c9.d = { d1 with nm := t } := by have e := HY.out.2.2.2.2; exact congrArg C.d e
              rw [e] at hox
              exact hox
          · have HQ : Hid (q = .error (3, (hd s.size r2).a)) := HQn h59
            rw [wantU_no h59] at cW
            clear HQy HQn h59
            go_wp2_with fail
            refine cW.mono ?_
            rintro e wy ⟨hgy, B, rfl, hB, hA⟩
            unfold thrownT
            clear cW
            go_wp2
            exact ⟨rfl, Ans.of_err HQ.out (H9.out.1.ss.gp.trans hgy) (Nat.le_trans H9.out.1.ss.gp.size hB) hA⟩
end Go.Proofs.YtococaecjecjgaaGreatDoor.tm
/- Texts as templates have them: what is read is written just so (pure). -/
namespace Go.Proofs.YtococaecjecjgaaGreatDoor.ly
set_option linter.unusedVariables false
open lx ex tm num

/-- A piece of a text. -/
def cut (s : List UInt8) (a b : Nat) : List UInt8 := (s.drop a).take (b - a)
theorem cut_nil (s : List UInt8) (a : Nat) : cut s a a = [] := by unfold cut; simp
theorem cut_app (s : List UInt8) {a b c : Nat} (h1 : a ≤ b) (h2 : b ≤ c) : cut s a b ++ cut s b c = cut s a c := by
  unfold cut
  have e : c - a = (b - a) + (c - b) := by omega
  rw [e, List.take_add, List.drop_drop]
  have e2 : a + (b - a) = b := by omega
  rw [e2]
/-- Items that are right. -/
def OKI (i : Its) : Prop := ∃ k, WI k i ∧ i.len ≤ 16
theorem OKI.hd {d : D} {s t : Its} (h : OKI (.cons d s t)) : WD d ∧ OKI t ∧ (d.kd = 4 → OKI s) := by
  obtain ⟨k, ⟨h1, _, h3, h4⟩, h5⟩ := h
  rw [Its.len] at h5
  exact ⟨h1, ⟨k, h4, by omega⟩, fun h => ⟨k - 1, (h3 h).2.2, (h3 h).2.1⟩⟩
theorem OKI.nil : OKI .nil := ⟨0, trivial, Nat.zero_le _⟩
theorem OKI.len {i : Its} (h : OKI i) : i.len ≤ 16 := by obtain ⟨k, _, h⟩ := h; exact h
theorem fnd_mem {l : List Ty} {x : List UInt8} {i : Its} (h : fnd l x = some i) : ∃ t ∈ l, t.l = i := by
  induction l with
  | nil => cases h
  | cons t r ih =>
    rw [fnd] at h
    cases hr : fnd r x with
    | some j =>
      rw [hr] at h
      obtain rfl := Option.some.inj h
      obtain ⟨u, h1, h2⟩ := ih hr
      exact ⟨u, by simp [h1], h2⟩
    | none =>
      rw [hr] at h
      dsimp only at h
      split at h
      · obtain rfl := Option.some.inj h
        exact ⟨t, by simp, rfl⟩
      · cases h
/-- An item that is right, or a struct as if it were one. -/
def WK (d : D) : Prop := WD d ∨ (d.kd = 3 ∧ d.mn = false ∧ d.ty.length ≤ maxLen)
theorem WK.kd4 {d : D} (h : WK d) : d.kd = 1 ∨ d.kd = 2 ∨ d.kd = 3 ∨ d.kd = 4 := by
  rcases h with h | h
  · rcases h with h | h | h | h <;> omega
  · omega
theorem WK.wd {d : D} (h : WK d) (hk : d.kd ≠ 3) : WD d := by
  rcases h with h | h
  · exact h
  · exact absurd h.1 hk
theorem WK.ty {d : D} (h : WK d) (hk : d.kd = 3) : d.ty.length ≤ maxLen := by
  rcases h with h | h
  · rcases h with g | g | g | g
    · omega
    · omega
    · have := g.2.1.2.2.1; unfold maxLen; omega
    · omega
  · exact h.2.2
/-- Structs that are right. -/
def OKT (l : List Ty) : Prop := ∀ t ∈ l, OKI t.l
theorem OKT.fnd {l : List Ty} (h : OKT l) {x : List UInt8} {i : Its} (hf : fnd l x = some i) : OKI i := by
  obtain ⟨t, h1, rfl⟩ := fnd_mem hf
  exact h t h1
/-- Where it is read behind. -/
def Fw (s : List UInt8) (st st' : St) : Prop := st.1 ≤ st'.1 ∧ st'.1 ≤ s.length ∧ st.2 ≤ st'.2 ∧ st'.2 ≤ 400
theorem Fw.refl {s : List UInt8} {st : St} (h1 : st.1 ≤ s.length) (h2 : st.2 ≤ 400) : Fw s st st := ⟨Nat.le_refl _, h1, Nat.le_refl _, h2⟩
theorem Fw.trans {s : List UInt8} {a b c : St} (h : Fw s a b) (k : Fw s b c) : Fw s a c := by
  obtain ⟨h1, h2, h3, h4⟩ := h
  obtain ⟨k1, k2, k3, k4⟩ := k
  exact ⟨by omega, k2, by omega, k4⟩
section
variable {s : List UInt8} {l : List Ty} {rec : Its → Env → St → Except Er (Nds × St)} {wrec : Its → Nds → Except Int (List UInt8)}
/-- What reading within does. -/
def RecW (s : List UInt8) (rec : Its → Env → St → Except Er (Nds × St)) (wrec : Its → Nds → Except Int (List UInt8)) : Prop :=
  ∀ i e st ks st', OKI i → st.1 ≤ s.length → st.2 ≤ 400 → rec i e st = .ok (ks, st') → Fw s st st' ∧ wrec i ks = .ok (cut s st.1 st'.1) ∧ ks.len = i.len
theorem body_back (hl : OKT l) (hr : RecW s rec wrec) (hn0 : wrec .nil .nil = .ok []) {d : D} {sub : Its} (hd : WK d) (hs : d.kd = 4 → OKI sub) {e : Env} {a k : Nat} {nd : ND} {ks : Nds} {st' : St} (ha : a ≤ s.length) (hk : k ≤ 400) (h : body s l rec d sub e a k = .ok (nd, ks, st')) :
    Fw s (a, k) st' ∧ wOne l wrec d sub nd ks = .ok (cut s a st'.1) ∧ nd.nm = d.nm ∧ nd.kd = d.kd := by
  have hk4 : d.kd = 1 ∨ d.kd = 2 ∨ d.kd = 3 ∨ d.kd = 4 := hd.kd4
  unfold body at h
  split at h
  · rename_i h1
    split at h
    · rename_i h2
      injection h with h
      simp only [Prod.mk.injEq] at h
      obtain ⟨rfl, rfl, rfl⟩ := h
      refine ⟨⟨by simp, h2, Nat.le_refl _, hk⟩, ?_, rfl, h1.symm⟩
      unfold wOne
      rw [if_pos ⟨rfl, h1.symm⟩, if_pos h1, if_pos (num_fits (hd.wd (by omega)) h1 s a _).1]
      dsimp only
      rw [pb_back (hd.wd (by omega)) h1 _ h2]
      unfold cut
      rw [Nat.add_sub_cancel_left]
    · cases h
  · split at h
    · rename_i h0 h1
      split at h
      · cases h
      · rename_i n hn
        split at h
        · cases h
        · rename_i h2
          injection h with h
          simp only [Prod.mk.injEq] at h
          obtain ⟨rfl, rfl, rfl⟩ := h
          refine ⟨⟨by simp, by show a + n ≤ s.length; omega, Nat.le_refl _, hk⟩, ?_, rfl, h1.symm⟩
          unfold wOne
          rw [if_pos ⟨rfl, h1.symm⟩, if_neg h0, if_pos h1]
          dsimp only
          unfold cut
          rw [Nat.add_sub_cancel_left]
    · split at h
      · rename_i h0 h1 h2
        split at h
        · cases h
        · rename_i i hi
          split at h
          · cases h
          · rename_i ks2 st2 h3
            injection h with h
            simp only [Prod.mk.injEq] at h
            obtain ⟨rfl, rfl, rfl⟩ := h
            obtain ⟨g1, g2, _⟩ := hr _ _ _ _ _ (hl.fnd hi) ha hk h3
            refine ⟨g1, ?_, rfl, h2.symm⟩
            unfold wOne
            rw [if_pos ⟨rfl, h2.symm⟩, if_neg h0, if_neg h1, if_pos h2, hi]
            exact g2
      · rename_i h0 h1 h2
        have h4 : d.kd = 4 := by omega
        split at h
        · cases h
        · rename_i n hn
          split at h
          · injection h with h
            simp only [Prod.mk.injEq] at h
            obtain ⟨rfl, rfl, rfl⟩ := h
            refine ⟨Fw.refl ha hk, ?_, rfl, h4.symm⟩
            unfold wOne
            rw [if_pos ⟨rfl, h4.symm⟩, if_neg h0, if_neg h1, if_neg h2]
            dsimp only
            rw [if_pos rfl, cut_nil]
            exact hn0
          · split at h
            · cases h
            · rename_i ks2 st2 h3
              injection h with h
              simp only [Prod.mk.injEq] at h
              obtain ⟨rfl, rfl, rfl⟩ := h
              obtain ⟨g1, g2, _⟩ := hr _ _ _ _ _ (hs h4) ha hk h3
              refine ⟨g1, ?_, rfl, h4.symm⟩
              unfold wOne
              rw [if_pos ⟨rfl, h4.symm⟩, if_neg h0, if_neg h1, if_neg h2]
              exact g2
theorem one_back (hl : OKT l) (hr : RecW s rec wrec) (hn0 : wrec .nil .nil = .ok []) {d : D} {sub : Its} (hd : WK d) (hs : d.kd = 4 → OKI sub) {e : Env} {st : St} {nd : ND} {ks : Nds} {st' : St} (ha : st.1 ≤ s.length) (hk : st.2 ≤ 400) (h : one s l rec d sub e st = .ok (nd, ks, st')) :
    Fw s st st' ∧ wOne l wrec d sub nd ks = .ok (cut s st.1 st'.1) ∧ nd.nm = d.nm ∧ nd.kd = d.kd := by
  unfold one at h
  split at h
  · cases h
  · obtain ⟨h1, h2⟩ := body_back hl hr hn0 hd hs ha (show st.2 + 1 ≤ 400 by omega) h
    exact ⟨⟨h1.1, h1.2.1, by have := h1.2.2.1; dsimp only at this; omega, h1.2.2.2⟩, h2⟩
theorem reps_back (hl : OKT l) (hr : RecW s rec wrec) (hn0 : wrec .nil .nil = .ok []) {d : D} {sub : Its} (hd : WK d) (hs : d.kd = 4 → OKI sub) {e : Env} (n : Nat) : ∀ {st : St} {ks : Nds} {st' : St}, st.1 ≤ s.length → st.2 ≤ 400 → reps s l rec d sub e n st = .ok (ks, st') →
    Fw s st st' ∧ wReps l wrec d sub ks = .ok (cut s st.1 st'.1) ∧ ks.len = n := by
  induction n with
  | zero =>
    intro st ks st' ha hk h
    rw [reps] at h
    injection h with h
    simp only [Prod.mk.injEq] at h
    obtain ⟨rfl, rfl⟩ := h
    exact ⟨Fw.refl ha hk, by rw [wReps, cut_nil], rfl⟩
  | succ n ih =>
    intro st ks st' ha hk h
    rw [reps] at h
    split at h
    · cases h
    · rename_i nd ks1 st1 h1
      split at h
      · cases h
      · rename_i r st2 h2
        injection h with h
        simp only [Prod.mk.injEq] at h
        obtain ⟨rfl, rfl⟩ := h
        obtain ⟨g1, g2, _⟩ := one_back hl hr hn0 hd hs ha hk h1
        obtain ⟨f1, f2, f3⟩ := ih g1.2.1 g1.2.2.2 h2
        refine ⟨g1.trans f1, ?_, by rw [Nds.len, f3]⟩
        rw [wReps, g2]
        dsimp only
        rw [f2]
        dsimp only
        rw [cut_app s g1.1 f1.1]
theorem part_back (hl : OKT l) (hr : RecW s rec wrec) (hn0 : wrec .nil .nil = .ok []) {d : D} {sub : Its} (hd : WK d) (hs : d.kd = 4 → OKI sub) {e : Env} {st : St} {nd : ND} {ks : Nds} {st' : St} (ha : st.1 ≤ s.length) (hk : st.2 ≤ 400) (h : part s l rec d sub e st = .ok (nd, ks, st')) :
    Fw s st st' ∧ wPart l wrec d sub nd ks = .ok (cut s st.1 st'.1) := by
  unfold part at h
  unfold wPart
  split at h
  · rename_i hm
    rw [if_pos hm]
    split at h
    · cases h
    · split at h
      · cases h
      · rename_i n hn
        split at h
        · cases h
        · rename_i ks1 st1 h1
          injection h with h
          simp only [Prod.mk.injEq] at h
          obtain ⟨rfl, rfl, rfl⟩ := h
          obtain ⟨g1, g2, _⟩ := reps_back hl hr hn0 hd hs n (st := (st.1, st.2 + 1)) ha (show st.2 + 1 ≤ 400 by omega) h1
          rw [if_pos ⟨rfl, rfl⟩]
          exact ⟨⟨g1.1, g1.2.1, by have : st.2 + 1 ≤ st1.2 := g1.2.2.1; omega, g1.2.2.2⟩, g2⟩
  · rename_i hm
    rw [if_neg hm]
    obtain ⟨g1, g2, _⟩ := one_back hl hr hn0 hd hs ha hk h
    exact ⟨g1, g2⟩
theorem blk_back (hl : OKT l) (hr : RecW s rec wrec) (hn0 : wrec .nil .nil = .ok []) : ∀ (i : Its) {e : Env} {st : St} {ks : Nds} {st' : St}, OKI i → st.1 ≤ s.length → st.2 ≤ 400 → blk s l rec i e st = .ok (ks, st') →
    Fw s st st' ∧ wAll l wrec i ks = .ok (cut s st.1 st'.1) ∧ ks.len = i.len := by
  intro i
  induction i with
  | nil =>
    intro e st ks st' _ ha hk h
    rw [blk] at h
    injection h with h
    simp only [Prod.mk.injEq] at h
    obtain ⟨rfl, rfl⟩ := h
    exact ⟨Fw.refl ha hk, by rw [wAll, cut_nil], rfl⟩
  | cons d sub t _ it =>
    intro e st ks st' hi ha hk h
    obtain ⟨hd', ht, hs⟩ := hi.hd
    have hd : WK d := Or.inl hd'
    rw [blk] at h
    split at h
    · cases h
    · rename_i nd ks1 st1 h1
      split at h
      · cases h
      · rename_i r st2 h2
        injection h with h
        simp only [Prod.mk.injEq] at h
        obtain ⟨rfl, rfl⟩ := h
        obtain ⟨g1, g2⟩ := part_back hl hr hn0 hd hs ha hk h1
        obtain ⟨f1, f2, f3⟩ := it ht g1.2.1 g1.2.2.2 h2
        refine ⟨g1.trans f1, ?_, by rw [Nds.len, Its.len, f3]⟩
        rw [wAll, g2]
        dsimp only
        rw [f2]
        dsimp only
        rw [cut_app s g1.1 f1.1]
end
theorem wr_nil (l : List Ty) (f : Nat) : wrB l (f + 1) .nil .nil = .ok [] := rfl
theorem rdB_back (s : List UInt8) (l : List Ty) (hl : OKT l) (f : Nat) : RecW s (rdB s l f) (wrB l (f + 1)) := by
  induction f with
  | zero => intro i e st ks st' _ _ _ h; cases h
  | succ f ih =>
    intro i e st ks st' hi ha hk h
    obtain ⟨g1, g2, g3⟩ := blk_back hl ih (wr_nil l f) i hi ha hk h
    refine ⟨g1, ?_, g3⟩
    show wBlk l (wrB l (f + 1)) i ks = _
    unfold wBlk
    rw [if_pos g3]
    exact g2
end Go.Proofs.YtococaecjecjgaaGreatDoor.ly
/- A reader of texts: what it knows; throw, value, count, bytes. -/
namespace Go.Proofs.YtococaecjecjgaaGreatDoor.ly
set_option linter.unusedVariables false
open Go.ChangeShapes Go.WideShapes Go.ChangeAt Go.RowKit
open mem lx ex tm num

/-- What is thrown. -/
def thrL (v : Value) : Ending := .panicked [{ v := .iface 109 (.agg #[v]), recovered := false }]
/-- An error as a value. -/
def ErV (w0 w : World) (er : Er) (v : Value) : Prop :=
  (er = (7, -1) ∧ v = .iface 28 (.int .i64 7)) ∨ ∃ B : Nat, v = .iface 113 (.pointer (some ⟨B, 0, none⟩)) ∧ w0.heap.size ≤ B ∧ AtX w B er.1 er.2
theorem ErV.bl {w0 w w' : World} {er : Er} {v : Value} (h : ErV w0 w er v) (hb : Bl w w') : ErV w0 w' er v := by
  rcases h with h | ⟨B, h1, h2, h3⟩
  · exact Or.inl h
  · exact Or.inr ⟨B, h1, h2, by unfold AtX at h3 ⊢; rw [Below.block hb B (lt_of_heap h3)]; exact h3⟩
theorem ErV.from {w0 w1 w : World} {er : Er} {v : Value} (h : ErV w1 w er v) (hs : w0.heap.size ≤ w1.heap.size) : ErV w0 w er v := by
  rcases h with h | ⟨B, h1, h2, h3⟩
  · exact Or.inl h
  · exact Or.inr ⟨B, h1, by omega, h3⟩
theorem itV_eq (c : C) : itV c = .agg #[.int .i64 (c.d.kd : Int), .int .i64 (c.d.at_ : Int), .string (tx c.d.nm), .string (tx c.d.ty), .int .i64 (c.d.wd : Int), .int .i64 (c.d.od : Int), .bool c.d.sg, .bool c.d.mn, .pointer c.pc, .int .i64 (c.d.ru : Int), .string (tx c.d.f1), .string (tx c.d.l1), .slice c.p c.n c.c] := rfl
/-- Structs by their names, as they lie. -/
def TyM (w : World) (mb : Nat) (l : List Ty) : Prop := ∃ f n, Sm w mb f n ∧ ∀ x, x.length ≤ maxLen → (f x = none ∧ fnd l x = none) ∨
  ∃ (nm : List UInt8) (a : Nat) (p : Option Addr) (k c : Nat) (i : Its) (cs : List C), f x = some (.agg #[.string (tx nm), .int .i64 (a : Int), .slice p k c]) ∧ fnd l x = some i ∧ ir.Lie w (fun g => g < mb) p k c cs ∧ Rep w (fun g => g < mb) i cs
/-- What another world keeps of structs. -/
theorem TyM.keep {w w' : World} {mb : Nat} {l : List Ty} (h : TyM w mb l) (hk : ∀ g, g ≤ mb → w'.heap[g]? = w.heap[g]?) (hs : w.heap.size ≤ w'.heap.size) (hx : Kx w w') : TyM w' mb l := by
  obtain ⟨f, n, h1, h2⟩ := h
  refine ⟨f, n, h1.same (hk mb (Nat.le_refl _)), fun x hx' => ?_⟩
  rcases h2 x hx' with h | ⟨nm, a, p, k, c, i, cs, g1, g2, g3, g4⟩
  · exact Or.inl h
  · exact Or.inr ⟨nm, a, p, k, c, i, cs, g1, g2, g3.keep (fun g hg _ => hk g (by omega)) hs, g4.keep (fun g hg _ => hk g (by omega)) hs hx⟩
/-- A reader, where it is read. -/
structure RdL (w : World) (P mb : Nat) (s : ByteArray) (l : List Ty) (st : St) : Prop where
  at_ : w.heap[P]? = some (.cells #[.map (some mb), .string s, .int .i64 (st.1 : Int), .int .i64 (st.2 : Int)] 67 (0, 0))
  mp : TyM w mb l
  lt : mb < P
  a : st.1 ≤ s.size
  k : st.2 ≤ 400
  sz : s.size ≤ 5000
theorem RdL.lt' {w : World} {P mb : Nat} {s : ByteArray} {l : List Ty} {st : St} (h : RdL w P mb s l st) : P < w.heap.size := lt_of_heap h.at_
theorem RdL.bl {w w' : World} {P mb : Nat} {s : ByteArray} {l : List Ty} {st : St} (h : RdL w P mb s l st) (hb : Bl w w') : RdL w' P mb s l st := by
  have hP := h.lt'
  exact ⟨by rw [Below.block hb P hP]; exact h.at_, h.mp.keep (fun g hg => Below.block hb g (by have := h.lt; omega)) hb.size (Kx.bl hb), h.lt, h.a, h.k, h.sz⟩
theorem RdL.kx {w w' : World} {P mb : Nat} {s : ByteArray} {l : List Ty} {st : St} (h : RdL w P mb s l st) (hg : Gp P w w') : Kx w w' := fun b cs hb => by
  rw [hg.block b (lt_of_heap hb) (fun e => by subst e; have := h.at_; rw [hb] at this; simp at this)]
  exact hb
/-- .. going on. -/
theorem RdL.go {w w' : World} {P mb : Nat} {s : ByteArray} {l : List Ty} {st st' : St} (h : RdL w P mb s l st) (hg : Gp P w w')
    (hc : w'.heap[P]? = some (.cells #[.map (some mb), .string s, .int .i64 (st'.1 : Int), .int .i64 (st'.2 : Int)] 67 (0, 0))) (ha : st'.1 ≤ s.size) (hk : st'.2 ≤ 400) : RdL w' P mb s l st' := by
  have hP := h.lt'
  exact ⟨hc, h.mp.keep (fun g hg' => hg.block g (by have := h.lt; omega) (by have := h.lt; omega)) hg.size (h.kx hg), h.lt, ha, hk, h.sz⟩
theorem RdL.cells {w : World} {P mb : Nat} {s : ByteArray} {l : List Ty} {st : St} (h : RdL w P mb s l st) : w.cell? ⟨P, 0, none⟩ = some (.map (some mb)) ∧ w.cell? ⟨P, 1, none⟩ = some (.string s) ∧ w.cell? ⟨P, 2, none⟩ = some (.int .i64 (st.1 : Int)) ∧ w.cell? ⟨P, 3, none⟩ = some (.int .i64 (st.2 : Int)) ∧ (∀ j, w.frozen? ⟨P, j, none⟩ = false) := by
  have h1 := h.at_
  exact ⟨by rw [cell_of h1]; rfl, by rw [cell_of h1]; rfl, by rw [cell_of h1]; rfl, by rw [cell_of h1]; rfl, fun j => by simp [World.frozen?, h1]⟩
/-- An item, as it lies. -/
def ItL (w : World) (ok : Nat → Prop) (c : C) (sub : Its) : Prop := IsO w c.pc c.d.ct ∧ ∃ cs, ir.Lie w ok c.p c.n c.c cs ∧ Rep w ok sub cs
theorem ItL.keep {w w' : World} {ok : Nat → Prop} {c : C} {sub : Its} (h : ItL w ok c sub) (hk : ∀ g, ok g → g < w.heap.size → w'.heap[g]? = w.heap[g]?) (hs : w.heap.size ≤ w'.heap.size) (hx : Kx w w') : ItL w' ok c sub := by
  obtain ⟨h1, cs, h2, h3⟩ := h
  exact ⟨h1.keep hx, cs, h2.keep hk hs, h3.keep hk hs hx⟩
theorem ItL.bl {w w' : World} {ok : Nat → Prop} {c : C} {sub : Its} (h : ItL w ok c sub) (hb : Bl w w') : ItL w' ok c sub := h.keep (fun g _ hg => Below.block hb g hg) hb.size (Kx.bl hb)
set_option maxRecDepth 10000 in
theorem throw_at (w : World) (P mb : Nat) (s : ByteArray) (l : List Ty) (st : St) (cd : Int) (h : RdL w P mb s l st) :
    Calls Tryz.prog 54 #[.pointer (some ⟨P, 0, none⟩), .int .i64 cd] w fun e w' => ∃ v, e = thrL v ∧ ErV w w' (cd, (st.1 : Int)) v ∧ Bl w w' := by
  obtain ⟨c0, c1, c2, c3, cz⟩ := h.cells
  have hP := h.lt'
  clear h c0 c1 c3 cz
  go_enter Tryz.func54, Tryz.ntmps54
  go_wp2
  refine ⟨rfl, _, rfl, Or.inr ⟨w.heap.size, rfl, Nat.le_refl _, ?_⟩, (Bl.refl _).alloc _⟩
  exact new_at _ _
/-- What an item's number answers. -/
def VlA (q : Except Nat Int) (w : World) (e : Ending) (w' : World) : Prop :=
  Bl w w' ∧ match q with
  | .ok n => e = .returned (.int .i64 n)
  | .error p => ∃ v, e = thrL v ∧ ErV w w' (5, (p : Int)) v
set_option maxRecDepth 10000 in
theorem value_at (c : C) (m : Value) (en : Env) (x : Ex) (w : World) (hX : IsX w (.pointer c.pc) x) (ho : Okb x) (hm : IsM w m en) :
    Calls Tryz.prog 90 #[itV c, m] w fun e w' => VlA (ev en x) w e w' := by
  rw [itV_eq]
  obtain ⟨w1, hw1⟩ : ∃ w1, w1 = w.alloc (.cells #[.int .i64 (c.d.kd : Int), .int .i64 (c.d.at_ : Int), .string (tx c.d.nm), .string (tx c.d.ty), .int .i64 (c.d.wd : Int), .int .i64 (c.d.od : Int), .bool c.d.sg, .bool c.d.mn, .pointer c.pc, .int .i64 (c.d.ru : Int), .string (tx c.d.f1), .string (tx c.d.l1), .slice c.p c.n c.c] 60) := ⟨_, rfl⟩
  have hb1 : Bl w w1 := by rw [hw1]; exact (Bl.refl _).alloc _
  have cE := Eval_at en m x (.pointer c.pc) w1 (hX.keep (Kx.bl hb1)) ho (hm.step hb1)
  have HB : Hid (Bl w w1) := hb1
  obtain ⟨q, hq⟩ : ∃ q, q = ev en x := ⟨_, rfl⟩
  rw [← hq] at cE ⊢
  clear hb1 hX hm ho hq
  go_enter Tryz.func90, Tryz.ntmps90
  go_wp2_with fail
  rw [← hw1]
  refine cE.mono ?_
  rintro e w2 ⟨hb2, hans⟩
  clear hw1
  cases q with
  | ok n =>
    dsimp only at hans
    subst hans
    go_wp2
    go_ret
    exact ⟨HB.out.trans hb2, rfl⟩
  | error p =>
    obtain ⟨B, rfl, hB, hA⟩ := hans
    go_wp2
    exact ⟨rfl, HB.out.trans hb2, _, rfl, Or.inr ⟨B, rfl, by have := HB.out.size; omega, hA⟩⟩
end Go.Proofs.YtococaecjecjgaaGreatDoor.ly
/- What Put, Get and Swap of package word answer where width and order are right. -/
namespace Go.Proofs.YtococaecjecjgaaGreatDoor.words
open Go.ChangeShapes Go.WideShapes Go.ChangeAt Go.RowKit
open mem num

theorem whole_yes (W : Int) (w : World) (h : W = 1 ∨ W = 2 ∨ W = 4 ∨ W = 8) :
    Calls Tryz.prog 145 #[.int .i64 W] w fun e w' => e = .returned (.bool true) ∧ w' = w := by
  rcases h with rfl | rfl | rfl | rfl
  all_goals
    go_enter Tryz.func145, Tryz.ntmps145
    go_wp2
    go_ret
    exact ⟨rfl, rfl⟩
theorem known_yes (o : Int) (w : World) (h : o = 0 ∨ o = 1) :
    Calls Tryz.prog 146 #[.int .i64 o] w fun e w' => e = .returned (.bool true) ∧ w' = w := by
  rcases h with rfl | rfl
  all_goals
    go_enter Tryz.func146, Tryz.ntmps146
    go_wp2
    go_ret
    exact ⟨rfl, rfl⟩
theorem place_any (k W : Nat) (o : Bool) (w : World) (hk : k < W) (hW : W ≤ 8) :
    Calls Tryz.prog 147 #[.int .i64 k, .int .i64 W, .int .i64 (if o then 1 else 0)] w fun e w' => e = .returned (.int .i64 (pl W o k : Nat)) ∧ w' = w := by
  cases o
  all_goals
    simp only [if_true, Bool.false_eq_true, if_false]
    go_enter Tryz.func147, Tryz.ntmps147
    go_wp2
    go_ret
    exact ⟨ret_int (by simp [pl]; try omega), rfl⟩
theorem place_at (k W : Nat) (o : Bool) (O : Int) (w : World) (hk : k < W) (hW : W ≤ 8) (hO : (if o then (1 : Int) else 0) = O) :
    Calls Tryz.prog 147 #[.int .i64 k, .int .i64 W, .int .i64 O] w fun e w' => e = .returned (.int .i64 (pl W o k : Nat)) ∧ w' = w := by
  subst hO
  exact place_any k W o w hk hW
theorem get_any (s : ByteArray) (A W : Nat) (o : Bool) (O : Int) (w : World) (hO : (if o then (1 : Int) else 0) = O) (hW : (W : Int) = 1 ∨ (W : Int) = 2 ∨ (W : Int) = 4 ∨ (W : Int) = 8) (hs : s.size ≤ maxLen) (hA : A + W ≤ s.size) :
    Calls Tryz.prog 116 #[.string s, .int .i64 A, .int .i64 W, .int .i64 O] w fun e w' => e = .returned (.tuple #[.int .u64 (gv (fun i => sb s (A + pl W o i)) W), .nilIface]) ∧ w' = w := by
  have ho : O = 0 ∨ O = 1 := by cases o <;> simp at hO <;> omega
  have hw8 : W ≤ 8 := by omega
  have HW : Hid ((W : Int) = 1 ∨ (W : Int) = 2 ∨ (W : Int) = 4 ∨ (W : Int) = 8) := hW
  have HO : Hid (O = 0 ∨ O = 1) := ho
  have HOO : Hid ((if o then (1 : Int) else 0) = O) := hO
  clear hW ho hO
  unfold maxLen at hs
  go_enter Tryz.func116, Tryz.ntmps116
  go_wp2_with (first | (go_at_call 145; refine (whole_yes _ _ HW.out).mono ?_; rintro e w' ⟨rfl, rfl⟩) | (go_at_call 146; refine (known_yes _ _ HO.out).mono ?_; rintro e w' ⟨rfl, rfl⟩))
  go_loop [10, 33] (fun n i => ∃ k : Nat, k ≤ W ∧ i = .int .i64 k ∧ n = .int .u64 (gv (fun i => sb s (A + pl W o i)) k)) (fun _ i => W - (intOf i).toNat)
  case atStart => exact ⟨0, Nat.zero_le _, rfl, rfl⟩
  case round =>
    obtain ⟨k, hk, rfl, rfl⟩ := hrel
    by_cases hlt : k < W
    · have hpl : pl W o k < W := by unfold pl; split <;> omega
      go_wp2_with (go_at_call 147; refine (place_at _ _ o _ _ (by omega) (by omega) HOO.out).mono ?_; rintro e w2 ⟨rfl, rfl⟩)
      go_round
      case rel => exact ⟨k + 1, by omega, by go_num, by
        have hb := sb_bd s (A + pl W o k)
        have hv := gv_bd (fun i => sb s (A + pl W o i)) (fun i => sb_bd s _) k
        rw [← sb_get s (A + pl W o k) (by omega), or_step _ _ k (by omega) hv.1 hv.2 hb.1 hb.2]
        rfl⟩
      case measure => simp [intOf]; omega
    · obtain rfl : k = W := by omega
      go_wp2
      go_ret2
      exact ⟨rfl, rfl⟩
end Go.Proofs.YtococaecjecjgaaGreatDoor.words
/- Numbers of bytes: Signed, Fits, Get where there are too few. -/
namespace Go.Proofs.YtococaecjecjgaaGreatDoor.ly
set_option linter.unusedVariables false
open Go.ChangeShapes Go.WideShapes Go.ChangeAt Go.RowKit
open mem lx ex tm num words

theorem sgn_calls (u : Int) (W : Nat) (hW : W = 1 ∨ W = 2 ∨ W = 4 ∨ W = 8) (h0 : 0 ≤ u) (h1 : u < 18446744073709551616) (w : World) :
    Calls Tryz.prog 117 #[.int .u64 u, .int .i64 (W : Int)] w fun e w' => e = .returned (.int .i64 (sgn u W)) ∧ w' = w := by
  rcases hW with rfl | rfl | rfl | rfl
  all_goals
    go_enter Tryz.func117, Tryz.ntmps117
    go_wp2
    go_ret
    exact ⟨num.ret_int (by simp only [sgn, IntKind.wrap_u64, wrap64]; simp <;> omega), rfl⟩
theorem get_few (s : ByteArray) (A W : Nat) (O : Int) (w : World) (hO : O = 0 ∨ O = 1) (hW : (W : Int) = 1 ∨ (W : Int) = 2 ∨ (W : Int) = 4 ∨ (W : Int) = 8) (hs : s.size ≤ 5000) (hA : s.size < A + W) :
    Calls Tryz.prog 116 #[.string s, .int .i64 A, .int .i64 W, .int .i64 O] w fun e w' => e = .returned (.tuple #[.int .u64 0, .iface 28 (.int .i64 2)]) ∧ w' = w := by
  have HW : Hid ((W : Int) = 1 ∨ (W : Int) = 2 ∨ (W : Int) = 4 ∨ (W : Int) = 8) := hW
  have HO : Hid (O = 0 ∨ O = 1) := hO
  have hw8 : W ≤ 8 := by omega
  clear hW hO
  go_enter Tryz.func116, Tryz.ntmps116
  go_wp2_with (first | (go_at_call 145; refine (whole_yes _ _ HW.out).mono ?_; rintro e w' ⟨rfl, rfl⟩) | (go_at_call 146; refine (known_yes _ _ HO.out).mono ?_; rintro e w' ⟨rfl, rfl⟩))
  go_ret2
  exact ⟨rfl, rfl⟩
end Go.Proofs.YtococaecjecjgaaGreatDoor.ly
