/- Texts laid together: TmA, TmB, TmD, TmE. -/
import Derived.Test.YtpanodaecjlgaaaZ15
/- A reader of a template's tokens: item. -/
namespace Go.Proofs.Ytpanodaecjlgaaa.tm
set_option linter.unusedVariables false
open Go.ChangeShapes Go.WideShapes Go.ChangeAt Go.RowKit Go.Shelf
open mem lx ex

/-- The parts within. -/
def Sub (w : World) (M : Nat) (c : C) (l : Its) : Prop := ∃ cs2, ir.Lie w (fun g => M ≤ g) c.p c.n c.c cs2 ∧ Rep w (fun g => M ≤ g) l cs2
theorem Sub.nil (w : World) (M : Nat) (c : C) (h : c.n = 0 ∧ c.c = 0) : Sub w M c .nil := ⟨[], ⟨by rw [h.1]; rfl, by rw [h.1]; exact Nat.zero_le _, Or.inl rfl⟩, rfl⟩
theorem Sub.keep {w w' : World} {M : Nat} {c : C} {l : Its} (h : Sub w M c l) (hk : ∀ g, M ≤ g → g < w.heap.size → w'.heap[g]? = w.heap[g]?) (hs : w.heap.size ≤ w'.heap.size) (hx : Kx w w') : Sub w' M c l := by
  obtain ⟨cs, h1, h2⟩ := h
  exact ⟨cs, h1.keep hk hs, h2.keep hk hs hx⟩
theorem Sub.low {w : World} {M M' : Nat} {c : C} {l : Its} (h : Sub w M c l) (hM : M' ≤ M) : Sub w M' c l := by
  obtain ⟨cs, h1, h2⟩ := h
  exact ⟨cs, h1.mono (fun g hg _ => Nat.le_trans hM hg), h2.mono (fun g hg _ => Nat.le_trans hM hg)⟩
theorem Sub.of {w : World} {M : Nat} {c c' : C} {l : Its} (h : Sub w M c l) (e : c'.p = c.p ∧ c'.n = c.n ∧ c'.c = c.c) : Sub w M c' l := by
  unfold Sub
  rw [e.1, e.2.1, e.2.2]
  exact h
/-- What an item's reading tells. -/
def IV (M : Nat) (w : World) (v : Value) (x : D × Its) : Prop := ∃ c : C, v = itV c ∧ c.d = x.1 ∧ IsO w c.pc x.1.ct ∧ Sub w M c x.2
/-- What a block's reading tells. -/
def LV (M : Nat) (w : World) (v : Value) (l : Its) : Prop := IsL w (fun g => M ≤ g) v l
theorem item_is (en : Nat) (inner : List Tk → Rs Its) (ts : List Tk) :
    ((hd en ts).t = wWhen → (∀ e, rx nb en [123] ts.tail = .error e → item nb en inner ts = .error e) ∧ ∀ x r, rx nb en [123] ts.tail = .ok (x, r) →
      (∀ e, inner r = .error e → item nb en inner ts = .error e) ∧ ∀ l r', inner r = .ok (l, r') → item nb en inner ts = .ok (({ D0 with kd := 4, at_ := (hd en ts).a, ct := some x }, l), r')) ∧
    (¬ (hd en ts).t = wWhen → ((hd en ts).t = wBytes → (∀ e, byts nb en ts.tail = .error e → item nb en inner ts = .error e) ∧ ∀ d r, byts nb en ts.tail = .ok (d, r) → item nb en inner ts = .ok (({ d with at_ := (hd en ts).a }, .nil), r)) ∧
      (¬ (hd en ts).t = wBytes → (∀ e, part nb en ts = .error e → item nb en inner ts = .error e) ∧ ∀ d r, part nb en ts = .ok (d, r) → item nb en inner ts = .ok (({ d with at_ := (hd en ts).a }, .nil), r))) := by
  unfold item
  refine ⟨fun h => ?_, fun h => ⟨fun h2 => ?_, fun h2 => ?_⟩⟩
  · rw [if_pos h]
    refine ⟨fun e he => by rw [he], fun x r hx => ?_⟩
    rw [hx]
    exact ⟨fun e he => by dsimp only; rw [he], fun l r' hl => by dsimp only; rw [hl]⟩
  · rw [if_neg h, if_pos h2]
    exact ⟨fun e he => by rw [he], fun d r hd => by rw [hd]⟩
  · rw [if_neg h, if_neg h2]
    exact ⟨fun e he => by rw [he], fun d r hd => by rw [hd]⟩
theorem byts_is (en : Nat) (ts : List Tk) : (∀ e, name en ts = .error e → byts nb en ts = .error e) ∧ ∀ t r1, name en ts = .ok (t, r1) →
    (∀ e, many nb en r1 = .error e → byts nb en ts = .error e) ∧ ∀ x r2, many nb en r1 = .ok (x, r2) →
    ((hd en r2).t = [59] → byts nb en ts = .ok ({ D0 with kd := 2, nm := t, ct := some x }, r2.tail)) ∧ (¬ (hd en r2).t = [59] → byts nb en ts = .error (3, (hd en r2).a)) := by
  unfold byts
  refine ⟨fun e h => by rw [h], fun t r1 h1 => ?_⟩
  rw [h1]
  dsimp only
  refine ⟨fun e h => by rw [h], fun x r2 h2 => ?_⟩
  rw [h2]
  dsimp only
  unfold want
  exact ⟨fun h => by rw [if_pos h], fun h => by rw [if_neg h]⟩
theorem st_other (w : World) (X : Nat) (c : C) (k : Nat) (hk : k < w.heap.size) (hne : k ≠ X) : (st13 w X c).heap[k]? = w.heap[k]? := by
  have one : ∀ (w : World) (j : Nat) (u : Value), k < w.heap.size → k < (w.setCell ⟨X, j, none⟩ u).heap.size ∧ (w.setCell ⟨X, j, none⟩ u).heap[k]? = w.heap[k]? := fun w j u hk => by
    have hg := grown_set w X j u
    exact ⟨Nat.lt_of_lt_of_le hk hg.size, hg.block k hk (fun e => by injection e with e; omega)⟩
  have two : ∀ (w w1 : World) (j : Nat) (u : Value), (k < w1.heap.size ∧ w1.heap[k]? = w.heap[k]?) → (k < (w1.setCell ⟨X, j, none⟩ u).heap.size ∧ (w1.setCell ⟨X, j, none⟩ u).heap[k]? = w.heap[k]?) := fun w w1 j u h => ⟨(one w1 j u h.1).1, (one w1 j u h.1).2.trans h.2⟩
  unfold st13
  exact (two _ _ _ _ (two _ _ _ _ (two _ _ _ _ (two _ _ _ _ (two _ _ _ _ (two _ _ _ _ (two _ _ _ _ (two _ _ _ _ (two _ _ _ _ (two _ _ _ _ (two _ _ _ _ (two _ _ _ _ (one w 0 _ hk))))))))))))).2
theorem st_rest (w : World) (X : Nat) (c : C) : (st13 w X c).os = w.os ∧ (st13 w X c).tape = w.tape ∧ (st13 w X c).output = w.output ∧ w.heap.size ≤ (st13 w X c).heap.size := by
  simp [st13, World.setCell]
end Go.Proofs.Ytpanodaecjlgaaa.tm
/- A reader of a template's tokens: item, walked. -/
namespace Go.Proofs.Ytpanodaecjlgaaa.tm
set_option linter.unusedVariables false
open Go.ChangeShapes Go.WideShapes Go.ChangeAt Go.RowKit Go.Shelf
open mem lx ex

theorem blk_end {en : Nat} {k : Nat} : blk nb en k [] = .error (3, en) := by
  cases k with
  | zero => rw [blk, if_neg (show ¬ (hd en ([] : List Tk)).t = [123] by show ¬ ([] : List UInt8) = [123]; decide)]; rfl
  | succ k => rw [blk, if_neg (show ¬ (hd en ([] : List Tk)).t = [123] by show ¬ ([] : List UInt8) = [123]; decide)]; rfl
end Go.Proofs.Ytpanodaecjlgaaa.tm
/- A reader of a template's tokens: rows of items grow. -/
namespace Go.Proofs.Ytpanodaecjlgaaa.tm
set_option linter.unusedVariables false
open Go.ChangeShapes Go.WideShapes Go.ChangeAt Go.RowKit Go.Shelf
open mem lx ex

theorem ir_where (w : World) (base : Nat) (v : Value) (l : List C) (z : C) (x : Addr) (hown : ir.Own w base v l) (hX : ∀ j u, (cl z)[j]? = some u → w.cell? (x.add j) = some u) (hn : l.length ≤ 20000) (v' : Value) (w' : World)
    (hr : (Builtin.append_ #[26, 26] 26 #[v, .slice (some x) 1 1]).run Try.prog w = .ok v' w') : v'.ownBlock = v.ownBlock ∨ v'.ownBlock = some w.heap.size := by
  obtain ⟨i, hi, hz, h1, h2⟩ := ir.infoE'
  have hlen : (cl z).length = 1 * i.size := by rw [h1]; rfl
  have hone : ∀ u ∈ cl z, u.oneCell' = true := fun u hu => ir.rowE_one [z] u (by rw [ir.rowE_cons]; simp [hu])
  rcases hown.2 with ⟨rfl, hl0⟩ | ⟨g, cap, cur, rfl, hbg, hg, hnc, hcm, hcs, htake⟩
  · have hr2 := run_append_nil (P := Try.prog) w 26 26 42 i (.agg #[.int .i64 0, .int .i64 0, .string ⟨#[]⟩, .string ⟨#[]⟩, .int .i64 0, .int .i64 0, .bool false, .bool false, .pointer none, .int .i64 0, .string ⟨#[]⟩, .string ⟨#[]⟩, .slice none 0 0]) Try.underlying26 hi hz x 1 1 (cl z) hlen hX (by omega) (by omega) (by rw [h2]; omega)
    rw [hr2] at hr
    injection hr with e1 _
    exact Or.inr (by rw [← e1]; rfl)
  · by_cases hroom : l.length + 1 ≤ cap
    · have hr2 := run_append_room (P := Try.prog) w 26 26 42 i Try.underlying26 hi g l.length cap cur hg x 1 1 (cl z) hlen hX hone hroom (by rw [h1, hcs, ir.cl_len]; omega)
      rw [hr2] at hr
      injection hr with e1 _
      exact Or.inl (by rw [← e1]; rfl)
    · have holds : ∀ j u, (ir.rowE l)[j]? = some u → w.cell? ((⟨g, 0, none⟩ : Addr).add j) = some u := World.ownsRow.cells hown (g := g) rfl
      have hr2 := run_append_grow (P := Try.prog) w 26 26 42 i (.agg #[.int .i64 0, .int .i64 0, .string ⟨#[]⟩, .string ⟨#[]⟩, .int .i64 0, .int .i64 0, .bool false, .bool false, .pointer none, .int .i64 0, .string ⟨#[]⟩, .string ⟨#[]⟩, .slice none 0 0]) Try.underlying26 hi hz ⟨g, 0, none⟩ l.length cap (ir.rowE l) (by rw [h1]; exact hown.1) holds x 1 1 (cl z) hlen hX (by omega) (by omega) (growslice_fits (by omega) (by rw [h2]; omega))
      rw [hr2] at hr
      injection hr with e1 _
      exact Or.inr (by rw [← e1]; rfl)
theorem sr_where (w : World) (base : Nat) (v : Value) (l : List CT) (z : CT) (x : Addr) (hown : sr.Own w base v l) (hX : ∀ j u, (clT z)[j]? = some u → w.cell? (x.add j) = some u) (hn : l.length ≤ 20000) (v' : Value) (w' : World)
    (hr : (Builtin.append_ #[22, 22] 22 #[v, .slice (some x) 1 1]).run Try.prog w = .ok v' w') : v'.ownBlock = v.ownBlock ∨ v'.ownBlock = some w.heap.size := by
  obtain ⟨i, hi, hz, h1, h2⟩ := sr.infoE'
  have hlen : (clT z).length = 1 * i.size := by rw [h1]; rfl
  have hone : ∀ u ∈ clT z, u.oneCell' = true := fun u hu => sr.rowE_one [z] u (by rw [sr.rowE_cons]; simp [hu])
  rcases hown.2 with ⟨rfl, hl0⟩ | ⟨g, cap, cur, rfl, hbg, hg, hnc, hcm, hcs, htake⟩
  · have hr2 := run_append_nil (P := Try.prog) w 22 22 28 i (.agg #[.string ⟨#[]⟩, .int .i64 0, .slice none 0 0]) Try.underlying22 hi hz x 1 1 (clT z) hlen hX (by omega) (by omega) (by rw [h2]; omega)
    rw [hr2] at hr
    injection hr with e1 _
    exact Or.inr (by rw [← e1]; rfl)
  · by_cases hroom : l.length + 1 ≤ cap
    · have hr2 := run_append_room (P := Try.prog) w 22 22 28 i Try.underlying22 hi g l.length cap cur hg x 1 1 (clT z) hlen hX hone hroom (by rw [h1, hcs, sr.cl_len]; omega)
      rw [hr2] at hr
      injection hr with e1 _
      exact Or.inl (by rw [← e1]; rfl)
    · have holds : ∀ j u, (sr.rowE l)[j]? = some u → w.cell? ((⟨g, 0, none⟩ : Addr).add j) = some u := World.ownsRow.cells hown (g := g) rfl
      have hr2 := run_append_grow (P := Try.prog) w 22 22 28 i (.agg #[.string ⟨#[]⟩, .int .i64 0, .slice none 0 0]) Try.underlying22 hi hz ⟨g, 0, none⟩ l.length cap (sr.rowE l) (by rw [h1]; exact hown.1) holds x 1 1 (clT z) hlen hX (by omega) (by omega) (growslice_fits (by omega) (by rw [h2]; omega))
      rw [hr2] at hr
      injection hr with e1 _
      exact Or.inr (by rw [← e1]; rfl)
/-- One list behind another one. -/
def Its.cat : Its → Its → Its
  | .nil, m => m
  | .cons d s t, m => .cons d s (t.cat m)
theorem Its.cat_app (l : Its) (d : D) (s m : Its) : (l.app d s).cat m = l.cat (.cons d s m) := by
  induction l with
  | nil => rfl
  | cons e u t _ ih => show Its.cons e u ((t.app d s).cat m) = Its.cons e u (t.cat (.cons d s m)); rw [ih]
theorem Its.cat_nil (l : Its) : l.cat .nil = l := by
  induction l with
  | nil => rfl
  | cons e u t _ ih => show Its.cons e u (t.cat .nil) = _; rw [ih]
theorem Its.app_len (l : Its) (d : D) (s : Its) : (l.app d s).len = l.len + 1 := by
  induction l with
  | nil => rfl
  | cons e u t _ ih => show (t.app d s).len + 1 = t.len + 1 + 1; rw [ih]
/-- What comes behind what is read already. -/
def pre (l : Its) : Rs Its → Rs Its
  | .error e => .error e
  | .ok (m, r) => .ok (l.cat m, r)
theorem loop_is (en : Nat) (inner : List Tk → Rs Its) (n : Nat) (ts : List Tk) (l : Its) :
    ((hd en ts).t = [125] → pre l (loop nb en inner n ts) = .ok (l, ts.tail)) ∧ (¬ (hd en ts).t = [125] → n = 0 → pre l (loop nb en inner n ts) = .error (4, (hd en ts).a)) ∧
    (¬ (hd en ts).t = [125] → ∀ m, n = m + 1 → (∀ e, item nb en inner ts = .error e → pre l (loop nb en inner n ts) = .error e) ∧ ∀ d s r, item nb en inner ts = .ok ((d, s), r) → pre l (loop nb en inner n ts) = pre (l.app d s) (loop nb en inner m r)) := by
  cases n with
  | zero =>
    rw [loop]
    refine ⟨fun h => ?_, fun h _ => by rw [if_neg h]; rfl, fun h m hm => by omega⟩
    rw [if_pos h]
    show Except.ok (l.cat .nil, ts.tail) = _
    rw [Its.cat_nil]
  | succ n =>
    rw [loop]
    refine ⟨fun h => ?_, fun h h0 => by omega, fun h m hm => ?_⟩
    · rw [if_pos h]
      show Except.ok (l.cat .nil, ts.tail) = _
      rw [Its.cat_nil]
    · obtain rfl : n = m := by omega
      rw [if_neg h]
      refine ⟨fun e he => by rw [he]; rfl, fun d s r hd => ?_⟩
      rw [hd]
      dsimp only
      cases loop nb en inner n r with
      | error e => rfl
      | ok lr =>
        obtain ⟨m, r'⟩ := lr
        show Except.ok (l.cat (.cons d s m), r') = Except.ok ((l.app d s).cat m, r')
        rw [Its.cat_app]
end Go.Proofs.Ytpanodaecjlgaaa.tm
/- A reader of a template's tokens: block. -/
namespace Go.Proofs.Ytpanodaecjlgaaa.tm
set_option linter.unusedVariables false
open Go.ChangeShapes Go.WideShapes Go.ChangeAt Go.RowKit Go.Shelf
open mem lx ex

def lenV (v : Value) : Nat := match v with | .slice _ n _ => n | _ => 0
end Go.Proofs.Ytpanodaecjlgaaa.tm
