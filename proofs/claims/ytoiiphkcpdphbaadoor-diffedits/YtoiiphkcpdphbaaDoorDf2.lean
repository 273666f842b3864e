/- MYERS's way, round by round (pure); a map of numbers of the call's own. -/
import Derived.Test.YtoiiphkcpdphbaaDoorDf1
namespace Go.Proofs.YtoiiphkcpdphbaaDoor.df
set_option linter.unusedVariables false
open Go.ChangeShapes Go.WideShapes Go.ChangeAt Go.RowKit Go.Maps
open mem
/-- All diagonals of the round before are told. -/
def Out (x y : List UInt8) (s : Int) (f : Int → Int) : Prop := 0 ≤ s ∧ s ≤ far x y ∧ ∀ k, Inr x.length y.length (s - 1) k → Good x y (s - 1) k (f k)
/-- And those of this one below k. -/
def Inn (x y : List UInt8) (s k : Int) (f : Int → Int) : Prop := 0 ≤ s ∧ s ≤ far x y ∧ (∀ k, Inr x.length y.length (s - 1) k → Good x y (s - 1) k (f k)) ∧ f (-s - 1) = -1 ∧ f (s + 1) = -1 ∧
  ∀ k', Inr x.length y.length s k' → k' < k → Good x y s k' (f k') ∧ (f k' < x.length ∨ f k' - k' < y.length)
theorem out_zero (x y : List UInt8) (f : Int → Int) : Out x y 0 f := ⟨Int.le_refl _, by omega, fun k h => by obtain ⟨c, h⟩ := h; omega⟩
/-- A number put. -/
def put (f : Int → Int) (c j : Int) : Int → Int := fun d => if d = c then j else f d
theorem out_inn {x y : List UInt8} {s : Int} {f : Int → Int} (h : Out x y s f) (lo : Int) (hlo : lo = max (-s) (s - 2 * y.length)) : Inn x y s lo (put (put f (-s - 1) (-1)) (s + 1) (-1)) := by
  obtain ⟨h0, h1, h2⟩ := h
  refine ⟨h0, h1, fun k hk => ?_, ?_, ?_, fun k' hk' hlt => ?_⟩
  · have e : put (put f (-s - 1) (-1)) (s + 1) (-1) k = f k := by
      obtain ⟨c, hc⟩ := hk
      unfold put
      rw [if_neg (by omega), if_neg (by omega)]
    rw [e]
    exact h2 k hk
  · unfold put; rw [if_neg (by omega), if_pos rfl]
  · unfold put; rw [if_pos rfl]
  · obtain ⟨c, hc⟩ := hk'
    omega
theorem inr_iff {n m s k : Int} : Inr n m s k ↔ (s + k) % 2 = 0 ∧ max (-s) (s - 2 * m) ≤ k ∧ k ≤ min s (2 * n - s) := by
  constructor
  · rintro ⟨c, hc⟩; omega
  · rintro h; exact ⟨(s + k) / 2, by omega⟩
theorem good_bd {x y : List UInt8} {s k v : Int} (h : Good x y s k v) : v ≤ s + x.length ∧ v - k ≤ s + y.length := by
  obtain ⟨h1, h2, h3, _⟩ := h
  have c1 := C_le_left x y v.toNat (v - k).toNat
  have c2 := C_le_right x y v.toNat (v - k).toNat
  have c3 : C x y v.toNat (v - k).toNat ≤ x.length := by
    unfold C
    refine Nat.le_trans (lcs_le_left _ _) ?_
    simp; omega
  have c4 : C x y v.toNat (v - k).toNat ≤ y.length := by
    unfold C
    refine Nat.le_trans (lcs_le_right _ _) ?_
    simp; omega
  unfold D at h3
  omega
theorem inn_p {x y : List UInt8} {s k : Int} {f : Int → Int} (h : Inn x y s k f) (hk : Inr x.length y.length s k) : (s = -k ∧ f (k - 1) = -1) ∨ Good x y (s - 1) (k - 1) (f (k - 1)) := by
  obtain ⟨h0, h1, h2, h3, h4, h5⟩ := h
  by_cases e : s = -k
  · left; exact ⟨e, by rw [← h3]; congr 1; omega⟩
  · right
    apply h2
    obtain ⟨c, hc⟩ := hk
    exact ⟨c - 1, by omega⟩
theorem inn_q {x y : List UInt8} {s k : Int} {f : Int → Int} (h : Inn x y s k f) (hk : Inr x.length y.length s k) : (s = k ∧ f (k + 1) = -1) ∨ Good x y (s - 1) (k + 1) (f (k + 1)) := by
  obtain ⟨h0, h1, h2, h3, h4, h5⟩ := h
  by_cases e : s = k
  · left; exact ⟨e, by rw [← h4, e]⟩
  · right
    apply h2
    obtain ⟨c, hc⟩ := hk
    exact ⟨c, by omega⟩
theorem inn_bd {x y : List UInt8} {s k : Int} {f : Int → Int} (h : Inn x y s k f) (hk : Inr x.length y.length s k) : -1 ≤ f (k - 1) ∧ f (k - 1) ≤ s + x.length ∧ -1 ≤ f (k + 1) ∧ f (k + 1) ≤ s + x.length ∧
    0 ≤ max (f (k - 1) + 1) (f (k + 1)) ∧ 0 ≤ max (f (k - 1) + 1) (f (k + 1)) - k ∧ max (f (k - 1) + 1) (f (k + 1)) - k ≤ s + y.length + 1 := by
  have hp := inn_p h hk
  have hq := inn_q h hk
  have h0 := h.1
  obtain ⟨c, hc⟩ := hk
  rcases hp with ⟨p1, p2⟩ | hp
  · rcases hq with ⟨q1, q2⟩ | hq
    · omega
    · have := good_bd hq; obtain ⟨g1, g2, _⟩ := hq; omega
  · rcases hq with ⟨q1, q2⟩ | hq
    · have := good_bd hp; obtain ⟨g1, g2, _⟩ := hp; omega
    · have := good_bd hp; have := good_bd hq; obtain ⟨g1, g2, _⟩ := hp; obtain ⟨g3, g4, _⟩ := hq; omega
theorem inn_good {x y : List UInt8} {s k v : Int} {f : Int → Int} (h : Inn x y s k f) (hk : Inr x.length y.length s k) (hv : v = max (f (k - 1) + 1) (f (k + 1))) (sm : Nat)
    (hm : ∀ t, t < sm → Eqb x y (v.toNat + t) ((v - k).toNat + t)) (he : ¬ Eqb x y (v.toNat + sm) ((v - k).toNat + sm)) : Good x y s k (v + sm) :=
  good_step x y s k _ _ v sm hk (inn_p h hk) (inn_q h hk) hv hm he
theorem inn_next {x y : List UInt8} {s k u : Int} {f : Int → Int} (h : Inn x y s k f) (hk : Inr x.length y.length s k) (hg : Good x y s k u) (hn : u < x.length ∨ u - k < y.length) : Inn x y s (k + 2) (put f k u) := by
  obtain ⟨h0, h1, h2, h3, h4, h5⟩ := h
  have hk2 := hk
  obtain ⟨c, hc⟩ := hk
  refine ⟨h0, h1, fun k' hk' => ?_, ?_, ?_, fun k' hk' hlt => ?_⟩
  · have e : put f k u k' = f k' := by
      obtain ⟨c', hc'⟩ := hk'
      unfold put; rw [if_neg (by omega)]
    rw [e]; exact h2 k' hk'
  · unfold put; rw [if_neg (by omega)]; exact h3
  · unfold put; rw [if_neg (by omega)]; exact h4
  · by_cases e : k' = k
    · subst e; unfold put; rw [if_pos rfl]; exact ⟨hg, hn⟩
    · have e2 : put f k u k' = f k' := by unfold put; rw [if_neg e]
      rw [e2]
      obtain ⟨c', hc'⟩ := hk'
      exact h5 k' ⟨c', hc'⟩ (by omega)
theorem inn_end {x y : List UInt8} {s k : Int} {f : Int → Int} (h : Inn x y s k f) (hk : min s (2 * x.length - s) < k) : Out x y (s + 1) f := by
  obtain ⟨h0, h1, h2, h3, h4, h5⟩ := h
  refine ⟨by omega, ?_, fun k' hk' => ?_⟩
  · rcases Int.lt_or_le s (far x y) with h | h
    · omega
    · exfalso
      have e : (far x y : Int) = s := by omega
      have hr := far_inr x y
      rw [e] at hr
      have hr2 := inr_iff.1 hr
      obtain ⟨g1, g2⟩ := h5 _ hr (by omega)
      have g3 := good_far x y _ (by rw [e]; exact g1)
      omega
  · rw [show s + 1 - 1 = s by omega] at hk' ⊢
    have hr2 := inr_iff.1 hk'
    exact (h5 k' hk' (by omega)).1
theorem inn_far {x y : List UInt8} {s k u : Int} {f : Int → Int} (h : Inn x y s k f) (hg : Good x y s k u) (h1 : (x.length : Int) ≤ u) (h2 : (y.length : Int) ≤ u - k) : s = far x y := by
  have := good_end x y s k u hg h1 h2
  have := h.2.1
  omega

theorem lawI : Keyed Tryd.prog 3 := int_keyed Tryd.underlying3
/-- A number as a key. -/
def key (n : Int) : Lit := .int .i64 n
theorem key_wf {n : Int} (h : -9000 ≤ n ∧ n ≤ 9000) : (Lit.int .i64 n).wf = true := WalkArith.wf_i64 (by omega)
theorem key_of {n : Int} (h : -9000 ≤ n ∧ n ≤ 9000) : keyOf Tryd.prog 3 (.int .i64 n) = some (key n) := keyOf_int_mk Tryd.underlying3 (key_wf h)
theorem isKey (z : Int) : WideAt.IsKeyLit (key z) := trivial
theorem key_inj {a b : Int} (h : a ≠ b) : key a ≠ key b := fun e => h (by unfold key at e; injection e)
/-- A map of the call's own that tells these numbers, where at most so many were put. -/
def Mp (w : World) (b : Nat) (f : Int → Int) (n : Nat) : Prop :=
  ∃ (D : DataW Unit) (c : Nat), c ≤ n ∧ w.ownsMap Tryd.prog 3 (plainElem Tryd.prog 3) b c D ∧ ∀ c, -9000 ≤ c ∧ c ≤ 9000 → D.atKey (key c) (.lit (.int .i64 0)) = .lit (.int .i64 (f c))
theorem Mp.step {w w' : World} {b n : Nat} {f : Int → Int} {row : Option Nat} (h : Mp w b f n) (hg : w.grownBy w' row) (hne : some b ≠ row) : Mp w' b f n := by
  obtain ⟨D, c, hc, h1, h2⟩ := h
  exact ⟨D, c, hc, h1.kept hg hne, h2⟩
theorem Mp.more {w : World} {b n m : Nat} {f : Int → Int} (h : Mp w b f n) (hm : n ≤ m) : Mp w b f m := by
  obtain ⟨D, c, hc, h1, h2⟩ := h
  exact ⟨D, c, by omega, h1, h2⟩
theorem Mp.drew {w w' : World} {b n : Nat} {f : Int → Int} (h : Mp w b f n) (hd : Dr w w') : Mp w' b f n := by
  obtain ⟨q, rfl⟩ := hd
  exact h.step (row := none) ⟨rfl, rfl, rfl, Nat.le_refl _, fun k hk _ => rfl⟩ (by simp)
theorem zero_int (w : World) : (zeroValue 3).run Tryd.prog w = .ok (.int .i64 0) w := by kernel_rfl
set_option maxRecDepth 10000 in
theorem Mp.look {w : World} {b n : Nat} {f : Int → Int} (h : Mp w b f n) (c : Int) (hc : -9000 ≤ c ∧ c ≤ 9000) :
    (Instr.lookup 54 (.map (some b)) (.int .i64 c) false).run Tryd.prog w = .ok (.int .i64 (f c)) w := by
  obtain ⟨D, c', hc', h1, h2⟩ := h
  obtain ⟨z, hrun, hz, _⟩ := h1.lookup_int lawI Tryd.underlying54 Tryd.underlying3 (zero_int w) (key_of hc)
  rw [h2 c hc] at hz
  have e4 : f c = z := by injection hz with e; injection e
  rw [hrun, e4]
set_option maxRecDepth 10000 in
theorem Mp.put {w : World} {b n : Nat} {f : Int → Int} (h : Mp w b f n) (c j : Int) (hc : -9000 ≤ c ∧ c ≤ 9000) (hn : n ≤ 100000000) (hj : -1 ≤ j ∧ j ≤ 1000000) :
    ∃ w', (Instr.mapUpdate 54 (.map (some b)) (.int .i64 c) (.int .i64 j)).run Tryd.prog w = .ok () w' ∧ Mp w' b (put f c j) (n + 1) ∧ w.grownBy w' (some b) := by
  obtain ⟨D, c', hc', h1, h2⟩ := h
  obtain ⟨w', hr, ho, hg⟩ := h1.update lawI Tryd.underlying54 (by unfold maxLen; omega) (key_of hc) (plainElem_int Tryd.underlying3 (a := j) (WalkArith.wf_i64 (by omega)))
  refine ⟨w', hr, ⟨_, c' + 1, by omega, ho, fun d hd => ?_⟩, hg⟩
  unfold df.put
  by_cases e : d = c
  · subst e
    rw [atKey_put_same h1.isMap (isKey d), if_pos rfl]
  · rw [atKey_put_other (key_inj e), if_neg e]
    exact h2 d hd
theorem Mp.made (w : World) : Mp (w.alloc (.map #[] 0)) w.heap.size (fun _ => 0) 0 :=
  ⟨_, 0, Nat.le_refl _, World.ownsMap_made w Tryd.prog 3 _, fun c _ => rfl⟩
end Go.Proofs.YtoiiphkcpdphbaaDoor.df
