/- Texts laid together: Er6, BlD, BlF, HZ. -/
import Derived.Test.YtpanodaecjlgaaaZ28
import Derived.Test.YtpanodaecjlgaaaZ11
import Derived.Test.YtpanodaecjlgaaaZ25
import Derived.Test.YtpanodaecjlgaaaZ26
import Derived.Test.YtpanodaecjlgaaaZ5
import Derived.Test.YtpanodaecjlgaaaZ1
import Derived.OrdersHeld
import Derived.Deep.RegionHeld3
/- The document's expression of a text. -/
namespace Go.Proofs.Ytpanodaecjlgaaa.ex
set_option linter.unusedVariables false
open Go.ChangeShapes Go.WideShapes Go.ChangeAt Go.RowKit
open mem lx

/-- What the document answers for a text. -/
def RPAns (s : ByteArray) (w : World) (e : Ending) (w' : World) : Prop :=
  Bl w w' ∧ match prs (L s) with
  | .ok x => ∃ v, e = .returned (.tuple #[v, flt 0 (-1)]) ∧ IsX w' v x
  | .error (c, p) => e = .returned (.tuple #[.pointer none, flt c (p : Int)]) ∧ c ≠ 0
theorem Ey.cell0 {w : World} {P : Nat} {ts : List Tk} {en : Nat} {c p : Int} (h : Ey w P ts en c p) : ∃ q k, w.cell? ⟨P, 0, none⟩ = some (.slice q ts.length k) := by
  obtain ⟨q, k, h1, _⟩ := h.ex
  exact ⟨q, k, by rw [cell_of h1]; rfl⟩
/-- The variable, told. -/
theorem Fl.told {w W : World} {M N : Nat} {c p : Int} (h : Fl w W M N c p) (a b : Int) : Bl w ((W.setCell ⟨M, 0, none⟩ (.int .i64 a)).setCell ⟨M, 1, none⟩ (.int .i64 b)) ∧ ((W.setCell ⟨M, 0, none⟩ (.int .i64 a)).setCell ⟨M, 1, none⟩ (.int .i64 b)).heap[M]? = some (.cells #[.int .i64 a, .int .i64 b] 32 (0, 0)) :=
  ⟨Gp.below h.bl ((Gp.set _).trans (Gp.set _)) h.ge.1, upd2 W M _ _ _ _ _ h.m⟩
theorem Fl.gp {w W W' : World} {M N P : Nat} {c p : Int} (h : Fl w W M N c p) (hg : Gp P W W') (hM : M ≠ P) (hN : N ≠ P) (hP : w.heap.size ≤ P) : Fl w W' M N c p :=
  ⟨Gp.below h.bl hg hP, by rw [hg.block M (lt_of_heap h.m) hM]; exact h.m, by rw [hg.block N (lt_of_heap h.n) hN]; exact h.n, h.ge⟩
theorem Fl.kx {w W : World} {M N : Nat} {c p : Int} (h : Fl w W M N c p) (a b : Int) : Kx W ((W.setCell ⟨M, 0, none⟩ (.int .i64 a)).setCell ⟨M, 1, none⟩ (.int .i64 b)) := fun k cs hk => by
  have hg : Gp M W ((W.setCell ⟨M, 0, none⟩ (.int .i64 a)).setCell ⟨M, 1, none⟩ (.int .i64 b)) := (Gp.set _).trans (Gp.set _)
  rw [hg.block k (lt_of_heap hk) (fun e => by rw [e, h.m] at hk; simp at hk)]
  exact hk
theorem Is_at (c p : Int) (w : World) : Calls Try.prog 8 #[.agg #[.int .i64 c, .int .i64 p]] w fun e w' => e = .returned (.bool (c == 0)) ∧ Bl w w' := by
  go_enter Try.func8, Try.ntmps8
  go_wp2
  go_ret
  exact ⟨rfl, (Bl.refl _).alloc _⟩
end Go.Proofs.Ytpanodaecjlgaaa.ex
/- The document's checker of templates: what a block asks, how far one has come. -/
namespace Go.Proofs.Ytpanodaecjlgaaa.tc
set_option linter.unusedVariables false
set_option linter.unusedSimpArgs false
open Go.ChangeShapes Go.WideShapes Go.ChangeAt Go.RowKit Go.Shelf Go.Maps
open mem lx ex tm

theorem zI_at {l : Its} : ∀ {j : Nat} {d : D} {s : Its}, l.ps[j]? = some (d, s) → 2 + szO d.ct + zI s ≤ zI l := by
  induction l with
  | nil => intro j d s h; cases h
  | cons a b t _ it =>
    intro j d s h
    rw [zI]
    cases j with
    | zero =>
      simp [Its.ps] at h
      obtain ⟨rfl, rfl⟩ := h
      omega
    | succ j =>
      have := it (j := j) (by simpa [Its.ps] using h)
      omega
theorem prT_z {s : List UInt8} {l : List Ty} (h : prT s = .ok l) (hs : s.length ≤ 3000) : ∀ t ∈ l, zI t.l ≤ s.length := by
  unfold prT at h
  split at h
  · cases h
  · rename_i h0
    have hch := lx_ch s _ 0 (Nat.le_refl _) (Nat.zero_le _)
    rw [List.drop_zero] at hch
    have hln := lx_len s _ 0 (Nat.le_refl _)
    have hT : TS (lx s 0).1 := ch_is hch
    have hP : TP s.length (lx s 0).1 := ⟨by omega, fun t ht => by have := ch_at hch t ht; omega⟩
    obtain ⟨k1, k2⟩ := typs_len 8 _ _ hT hP h
    intro t ht
    have h2 := zT_mem ht
    omega
theorem item_ne0 {earl names seen : List (List UInt8)} {d : D} {e : Int × Nat} (h : itemW earl names seen d = some e) : e.1 ≠ 0 := by
  unfold itemW at h
  split at h
  · injection h with h; rw [← h]; simp
  · split at h
    · injection h with h; rw [← h]; simp
    · obtain ⟨p, _, rfl⟩ := Option.map_eq_some_iff.1 h; simp
theorem rule_ne0 {ds : List D} {i : Nat} {d : D} {e : Int × Nat} (h : ruleW ds i d = some e) : e.1 ≠ 0 := by
  unfold ruleW at h
  split at h
  · cases h
  · split at h
    · split at h
      · injection h with h; rw [← h]; simp
      · split at h
        · injection h with h; rw [← h]; simp
        · split at h
          · injection h with h; rw [← h]; simp
          · split at h
            · injection h with h; rw [← h]; simp
            · cases h
    · injection h with h; rw [← h]; simp
theorem cyc_ne0 {ds : List D} {i : Nat} {d : D} {e : Int × Nat} (h : cycW ds i d = some e) : e.1 ≠ 0 := by
  unfold cycW at h
  split at h
  · injection h with h; rw [← h]; simp
  · cases h
theorem first_ne0 {g : Nat → D → Option (Int × Nat)} (hg : ∀ i d e, g i d = some e → e.1 ≠ 0) : ∀ (l : List D) (i : Nat) (e : Int × Nat), firstW g i l = some e → e.1 ≠ 0 := by
  intro l
  induction l with
  | nil => intro i e h; cases h
  | cons d r ih =>
    intro i e h
    rw [firstW] at h
    split at h
    · rename_i e2 h2
      injection h with h
      rw [← h]; exact hg _ _ _ h2
    · exact ih _ _ h
theorem rules_ne0 {ds : List D} {e : Int × Nat} (h : rulesW ds = some e) : e.1 ≠ 0 := by
  unfold rulesW at h
  split at h
  · rename_i e2 h2
    injection h with h
    rw [← h]; exact first_ne0 (fun _ _ _ => rule_ne0) _ _ _ h2
  · exact first_ne0 (fun _ _ _ => cyc_ne0) _ _ _ h
theorem chkI_ne0 {earl : List (List UInt8)} : ∀ (l : Its) (names seen : List (List UInt8)) (e : Int × Nat), chkI earl l names seen = .error e → e.1 ≠ 0 := by
  intro l
  induction l with
  | nil => intro names seen e h; cases h
  | cons d s t is it =>
    intro names seen e h
    rw [chkI] at h
    split at h
    · split at h
      · injection h with h; rw [← h]; simp
      · split at h
        · rename_i e2 h2
          injection h with h
          rw [← h]; exact is _ _ _ h2
        · split at h
          · rename_i e2 h2
            injection h with h
            rw [← h]; exact rules_ne0 h2
          · exact it _ _ _ h
    · split at h
      · rename_i e2 h2
        injection h with h
        rw [← h]; exact item_ne0 h2
      · exact it _ _ _ h
theorem chkB_ne0 {earl names seen : List (List UInt8)} {l : Its} {e : Int × Nat} (h : chkB earl l names seen = .error e) : e.1 ≠ 0 := by
  unfold chkB at h
  split at h
  · rename_i e2 h2
    injection h with h
    rw [← h]; exact chkI_ne0 _ _ _ _ h2
  · split at h
    · rename_i e2 h2
      injection h with h
      rw [← h]; exact rules_ne0 h2
    · cases h
theorem nm_ne {t : List UInt8} (h : NM t) : t ≠ [] := fun e => by have := h.2.1; rw [e] at this; revert this; decide
theorem wd_ru {d : D} (h : WD d) (hr : d.ru ≠ 0) : d.f1 ≠ [] ∧ (d.ru = 3 → d.l1 ≠ []) := by
  obtain ⟨wr, _⟩ := ru_wr h hr
  rcases wr with w | w | w
  · exact absurd w.1 hr
  · exact ⟨nm_ne w.2.1, fun h3 => by rcases w.1 with k | k <;> omega⟩
  · exact ⟨nm_ne w.2.1, fun _ => nm_ne w.2.2⟩
theorem okr_of {k : Nat} {l : Its} {w : World} {ok : Nat → Prop} {cs : List C} (hw : WI k l) (hr : Rep w ok l cs) : Okr cs := by
  have key : ∀ x ∈ cs, WD x.d := by
    intro x hx
    obtain ⟨j, hj⟩ := List.mem_iff_getElem?.1 hx
    obtain ⟨y, d, s, e1, e2, e3, _⟩ := hr.at j (by rw [← hr.len.1]; exact (List.getElem?_eq_some_iff.1 hj).1)
    rw [hj] at e1
    obtain rfl := Option.some.inj e1
    rw [e3]
    exact (hw.at j _ _ e2).1
  exact ⟨fun x hx h4 => (wd_ok (key x hx)).2.2.2.1 h4, fun x hx h3 => ⟨(wd_ru (key x hx) (by omega)).1, (wd_ru (key x hx) (by omega)).2 h3⟩⟩
theorem gp_below {B P : Nat} {w w' : World} (h : Gp P w w') (hP : B ≤ P) (hB : B ≤ w.heap.size) : Below B w w' :=
  ⟨h.os, h.tape, h.output, h.size, fun k hk => h.block k (by omega) (by omega)⟩
theorem vr_gp {w w' : World} {V P k : Nat} {v : Value} {t : TypeId} {S : List (List UInt8)} (h : Vr w V v t) (hg : Gp P w w') (hs : SetB w P S k) : Vr w' V v t := by
  unfold Vr at h ⊢
  refine (hg.block V (lt_of_heap h) (fun e => ?_)).trans h
  obtain ⟨es, clock, hb⟩ := hs.block
  rw [← e, h] at hb
  cases hb
/-- What looking at a block answers. -/
def DoneR (nb K : Nat) (w : World) (q : Except (Int × Nat) (List (List UInt8))) (e : Ending) (w' : World) : Prop := Gp nb w w' ∧ match q with
  | .ok n => e = .returned (flt 0 (-1)) ∧ SetB w' nb n K
  | .error (c, p) => e = .returned (flt c (p : Int))
theorem DoneR.of_err {nb K : Nat} {w w' : World} {q : Except (Int × Nat) (List (List UInt8))} {c : Int} {p : Nat} (hq : q = .error (c, p)) (hg : Gp nb w w') : DoneR nb K w q (.returned (flt c (p : Int))) w' := by
  rw [hq]; exact ⟨hg, rfl⟩
theorem DoneR.of_ok {nb K : Nat} {w w' : World} {q : Except (Int × Nat) (List (List UInt8))} {n : List (List UInt8)} (hq : q = .ok n) (hg : Gp nb w w') (hs : SetB w' nb n K) : DoneR nb K w q (.returned (flt 0 (-1))) w' := by
  rw [hq]; exact ⟨hg, rfl, hs⟩
/-- What a block asks. -/
structure BJ (k : Nat) (l : Its) (B tb nb : Nat) (earl names seen : List (List UInt8)) (ke kn n : Nat) (p : Option Addr) (c : Nat) (sp : Option Addr) (sc : Nat) (cs : List C) (w : World) : Prop where
  wi : WI k l
  len : l.len ≤ 16
  z : zI l ≤ 4000
  ts : SetB w tb earl ke
  ns : SetB w nb names kn
  sn : Sn w sp seen.reverse
  sc : seen.length ≤ sc
  bn : B ≤ nb
  bw : B ≤ w.heap.size
  ne : tb ≠ nb
  kn : kn + tot l ≤ 4000
  sl : seen.length + tot l ≤ 4000
  lie : ir.Lie w (fun g => g < B) p n c cs
  rep : Rep w (fun g => g < B) l cs
  n : n = l.len
def BlkR (k : Nat) : Prop := ∀ (l : Its) (B tb nb : Nat) (earl names seen : List (List UInt8)) (ke kn n : Nat) (p : Option Addr) (c : Nat) (sp : Option Addr) (sc : Nat) (cs : List C) (w : World), BJ k l B tb nb earl names seen ke kn n p c sp sc cs w →
  Calls Try.prog 22 #[.slice p n c, .map (some tb), .map (some nb), .slice sp seen.length sc] w fun e w' => DoneR nb (kn + tot l) w (chkB earl l names seen) e w'
/-- The Fault that is answered, as it lies. -/
def Rs (w : World) (R : Nat) (a b : Int) : Prop := w.heap[R]? = some (.cells #[.int .i64 a, .int .i64 b] 32 (0, 0))
theorem Rs.new (w : World) (a b : Int) : Rs (w.alloc (.cells #[.int .i64 a, .int .i64 b] 32)) w.heap.size a b := new_at w _
theorem Rs.lt {w : World} {R : Nat} {a b : Int} (h : Rs w R a b) : R < w.heap.size := lt_of_heap h
theorem Rs.c0 {w : World} {R : Nat} {a b : Int} (h : Rs w R a b) : w.cell? ⟨R, 0, none⟩ = some (.int .i64 a) := by rw [cell_of h]; rfl
theorem Rs.c1 {w : World} {R : Nat} {a b : Int} (h : Rs w R a b) : w.cell? ⟨R, 1, none⟩ = some (.int .i64 b) := by rw [cell_of h]; rfl
theorem Rs.z0 {w : World} {R : Nat} {a b : Int} (h : Rs w R a b) (j : Nat) : w.frozen? ⟨R, j, none⟩ = false := by simp [World.frozen?, show w.heap[R]? = _ from h]
theorem Rs.bl {w w' : World} {R : Nat} {a b : Int} (h : Rs w R a b) (hb : Bl w w') : Rs w' R a b := (Below.block hb R h.lt).trans h
theorem Rs.gp {w w' : World} {R P k : Nat} {a b : Int} {S : List (List UInt8)} (h : Rs w R a b) (hg : Gp P w w') (hs : SetB w P S k) : Rs w' R a b :=
  (hg.block R h.lt (fun e => by obtain ⟨es, clock, hb⟩ := hs.block; rw [← e, show w.heap[R]? = _ from h] at hb; cases hb)).trans h
theorem Rs.set {w : World} {R : Nat} {a b : Int} (h : Rs w R a b) (c d : Int) : Rs ((w.setCell ⟨R, 0, none⟩ (.int .i64 c)).setCell ⟨R, 1, none⟩ (.int .i64 d)) R c d := by
  unfold Rs at h ⊢
  simp [World.setCell, Array.getElem?_modify, h]
theorem Rs.away {w : World} {R V : Nat} {a b : Int} (h : Rs w R a b) (hne : V ≠ R) (v : Value) : Rs (w.setCell ⟨V, 0, none⟩ v) R a b := by
  unfold Rs at h ⊢
  simp [World.setCell, Array.getElem?_modify, h, hne]
/-- All that a block holds while it is looked at. -/
structure TC (tb nb V R : Nat) (earl : List (List UInt8)) (ke : Nat) (w wr : World) (names' seen' : List (List UInt8)) (kn' : Nat) : Prop where
  gp : Gp nb w wr
  ts : SetB wr tb earl ke
  ns : SetB wr nb names' kn'
  vr : ∃ sp sc, Vr wr V (.slice sp seen'.length sc) 70 ∧ seen'.length ≤ sc ∧ Sn wr sp seen'.reverse
  r : Rs wr R 0 0
  v : w.heap.size ≤ V
  rv : R = V + 1
  ne : tb ≠ nb
theorem TC.bl {tb nb V R : Nat} {earl : List (List UInt8)} {ke : Nat} {w wr w' : World} {names' seen' : List (List UInt8)} {kn' : Nat} (h : TC tb nb V R earl ke w wr names' seen' kn') (hb : Bl wr w') : TC tb nb V R earl ke w w' names' seen' kn' := by
  obtain ⟨sp, sc, h1, h2, h3⟩ := h.vr
  exact ⟨h.gp.trans (Gp.bl hb), h.ts.bl hb, h.ns.bl hb, ⟨sp, sc, h1.step hb, h2, h3.bl hb⟩, h.r.bl hb, h.v, h.rv, h.ne⟩
theorem TC.go {tb nb V R : Nat} {earl : List (List UInt8)} {ke : Nat} {w wr w' : World} {names' seen' n2 : List (List UInt8)} {kn' k2 : Nat} (h : TC tb nb V R earl ke w wr names' seen' kn') (hg : Gp nb wr w') (hn : SetB w' nb n2 k2) : TC tb nb V R earl ke w w' n2 seen' k2 := by
  obtain ⟨sp, sc, h1, h2, h3⟩ := h.vr
  exact ⟨h.gp.trans hg, h.ts.gp hg h.ne, hn, ⟨sp, sc, vr_gp h1 hg h.ns, h2, h3.gp hg h.ns⟩, h.r.gp hg h.ns, h.v, h.rv, h.ne⟩
/-- The answer's cells, as they are set. -/
theorem TC.err {tb nb V R K : Nat} {earl : List (List UInt8)} {ke : Nat} {w wr : World} {names' seen' : List (List UInt8)} {kn' : Nat} (h : TC tb nb V R earl ke w wr names' seen' kn') {q : Except (Int × Nat) (List (List UInt8))} {c : Int} {p : Nat} (hq : q = .error (c, p)) :
    Rs ((wr.setCell ⟨R, 0, none⟩ (.int .i64 c)).setCell ⟨R, 1, none⟩ (.int .i64 (p : Int))) R c p ∧ DoneR nb K w q (.returned (flt c (p : Int))) ((wr.setCell ⟨R, 0, none⟩ (.int .i64 c)).setCell ⟨R, 1, none⟩ (.int .i64 (p : Int))) :=
  ⟨h.r.set _ _, DoneR.of_err hq ((h.gp.setNew (by have := h.v; have := h.rv; omega) _).setNew (by have := h.v; have := h.rv; omega) _)⟩
/-- How far the items are looked at. -/
structure T1 (l : Its) (tb nb V R : Nat) (earl names seen : List (List UInt8)) (ke kn : Nat) (w wr : World) (j : Nat) (names' seen' : List (List UInt8)) (kn' : Nat) : Prop where
  c : TC tb nb V R earl ke w wr names' seen' kn'
  eq : chkI earl l names seen = chkI earl (l.dr j) names' seen'
  kn : kn' + tot (l.dr j) ≤ kn + tot l
  sl : seen'.length + tot (l.dr j) ≤ seen.length + tot l
/-- How far rules are looked at. -/
structure T3 (g : Nat → D → Option (Int × Nat)) (l : Its) (tb nb V R : Nat) (earl : List (List UInt8)) (ke : Nat) (w wr : World) (names' seen' : List (List UInt8)) (kn' : Nat) (j : Nat) : Prop where
  c : TC tb nb V R earl ke w wr names' seen' kn'
  eq : firstW g 0 l.ds = firstW g j (l.ds.drop j)
theorem T3.on {g : Nat → D → Option (Int × Nat)} {l : Its} {tb nb V R : Nat} {earl : List (List UInt8)} {ke : Nat} {w wr w' : World} {names' seen' : List (List UInt8)} {kn' : Nat} {j : Nat} (h : T3 g l tb nb V R earl ke w wr names' seen' kn' j) (hb : Bl wr w') {d : D} (hd : l.ds[j]? = some d) (hg : g j d = none) : T3 g l tb nb V R earl ke w w' names' seen' kn' (j + 1) :=
  ⟨h.c.bl hb, h.eq.trans ((firstW_step g l.ds j d hd).2 hg)⟩
theorem within_at (n lo hi : Int) (w : World) : Calls Try.prog 41 #[.int .i64 n, .int .i64 lo, .int .i64 hi] w fun e w' => e = .returned (.bool (decide (lo ≤ n) && decide (n ≤ hi))) ∧ w' = w := by
  by_cases h1 : lo ≤ n
  · by_cases h2 : n ≤ hi
    · go_enter Try.func41, Try.ntmps41
      go_wp2
      go_ret
      exact ⟨by simp [h1, h2], rfl⟩
    · go_enter Try.func41, Try.ntmps41
      go_wp2
      go_ret
      exact ⟨by simp [h1, h2], rfl⟩
  · go_enter Try.func41, Try.ntmps41
    go_wp2
    go_ret
    exact ⟨by rw [decide_eq_false (by omega : ¬ lo ≤ n)]; rfl, rfl⟩
theorem misO_rev (seen : List (List UInt8)) (o : Option Ex) : firstN seen.reverse (nmsO o) = misO seen o := by
  rw [misO_nms]
  exact firstN_same (by simp) _
end Go.Proofs.Ytpanodaecjlgaaa.tc
/- The document's checker of templates: whether the names in an expression are seen. -/
namespace Go.Proofs.Ytpanodaecjlgaaa.tc
set_option linter.unusedVariables false
open Go.ChangeShapes Go.WideShapes Go.ChangeAt Go.RowKit Go.Shelf Go.Maps
open mem lx ex tm

/-- What has answers. -/
def hasV (o : Option Nat) : Value := match o with
  | some p => flt 5 (p : Int)
  | none => flt 0 (-1)
theorem names_o (pc : Option Addr) (o : Option Ex) (w : World) (hx : IsO w pc o) (hs : szO o ≤ 5000) : Calls Try.prog 39 #[.pointer pc] w fun e w' => NA w w (nmsO o) e w' := by
  rcases isO_lt hx with ⟨rfl, rfl⟩ | ⟨x, rfl, hxx⟩
  · refine (names_nil w).mono ?_
    rintro e w' ⟨rfl, rfl⟩
    exact NA.of (Bl.refl _) (qp.Q.nil _ _) trivial
  · exact names_x x _ w w (Bl.refl _) hxx hs
theorem mem_take {L : List (List UInt8)} {k : Nat} {t u : List UInt8} (h : L[k]? = some u) : (t ∈ L.take (k + 1)) ↔ (t ∈ L.take k ∨ u = t) := by
  rw [List.take_add_one, h]
  simp [eq_comm]
set_option maxRecDepth 10000 in
set_option maxHeartbeats 4000000 in
theorem has_at (V : Nat) (L : List (List UInt8)) (sp : Option Addr) (sc : Nat) (pc : Option Addr) (o : Option Ex) (w : World) (hV : Vr w V (.slice sp L.length sc) 70) (hS : Sn w sp L) (hx : IsO w pc o) (hs : szO o ≤ 5000) (hL : L.length ≤ 5000) :
    Calls Try.prog 38 #[.pointer pc, .pointer (some ⟨V, 0, none⟩)] w fun e w' => e = .returned (hasV (firstN L (nmsO o))) ∧ Bl w w' := by
  have hnl : (nmsO o).length ≤ 5000 := by
    cases o with
    | none => exact Nat.zero_le _
    | some x => exact Nat.le_trans (nms_sz x) hs
  obtain ⟨ns, hns⟩ : ∃ ns, ns = nmsO o := ⟨_, rfl⟩
  rw [← hns] at hnl ⊢
  obtain ⟨m, hm⟩ : ∃ m, m = L.length := ⟨_, rfl⟩
  obtain ⟨w1, hw1⟩ : ∃ w1, w1 = w.alloc (.cells #[.int .i64 0, .int .i64 0] 32) := ⟨_, rfl⟩
  obtain ⟨R, hR⟩ : ∃ R, R = w.heap.size := ⟨_, rfl⟩
  have hb1 : Bl w w1 := by rw [hw1]; exact (Bl.refl _).alloc _
  have hr1 : Rs w1 R 0 0 := by rw [hw1, hR]; exact Rs.new w 0 0
  have H0 : Hid (Vr w1 V (.slice sp m sc) 70 ∧ Sn w1 sp L ∧ m = L.length ∧ Bl w w1 ∧ Rs w1 R 0 0 ∧ w.heap.size ≤ R) := ⟨by rw [hm]; exact hV.step hb1, hS.bl hb1, hm, hb1, hr1, by rw [hR]; exact Nat.le_refl _⟩
  have cN := names_o pc o w1 (hx.keep (Kx.bl hb1)) hs
  rw [← hns] at cN
  rw [← hm] at hL
  clear hV hS hx hs hns hm hb1 hr1
  go_enter Try.func38, Try.ntmps38
  go_upto_region 1 with fail
  rw [← hw1, ← hR]
  clear hw1 hR
  go_wp2_with fail
  refine cN.mono ?_
  rintro e w2 ⟨p, c, az, rfl, hb2, hq2, hn2⟩
  obtain ⟨n, hn⟩ : ∃ n, n = ns.length := ⟨_, rfl⟩
  have H2 : Hid (Bl w1 w2 ∧ qp.Q w2 w1.heap.size (.slice p n c) az ∧ NmL w1 az ns ∧ n = ns.length) := ⟨hb2, by rw [hn]; exact hq2, hn2, hn⟩
  rw [← hn] at hnl ⊢
  clear hb2 hq2 hn2 hn cN
  go_wp2_with fail
  go_loopw [12] (fun i wr => ∃ j : Nat, j ≤ n ∧ i = .int .i64 (j : Int) ∧ Hid (Bl w2 wr ∧ firstN L ns = firstN L (ns.drop j))) (fun i _ => n - (intOf i).toNat)
  case atStart => exact ⟨0, Nat.zero_le _, rfl, Bl.refl _, rfl⟩
  case round =>
    obtain ⟨j, hj, rfl, HB⟩ := hrel
    rename World => w4
    by_cases hjn : j < n
    · have d1 : decide ((j : Int) < (n : Int)) = true := decide_eq_true (by omega)
      have i0 : (0 : Int) ≤ (j : Int) := by omega
      have i1 : (j : Int) < (n : Int) := by omega
      obtain ⟨e, he⟩ : ∃ e, ns[j]? = some e := ⟨_, List.getElem?_eq_getElem (by have := H2.out.2.2.2; omega)⟩
      obtain ⟨b, hb, hcb⟩ := H2.out.2.2.1.at he
      obtain ⟨X, rfl, _, hcx⟩ := (H2.out.2.1.bl HB.out.1).at hb
      have hcb' := Kx.bl (H2.out.1.trans HB.out.1) _ _ hcb
      have hbs := lt_of_heap hcb'
      obtain ⟨o1, o2⟩ := firstN_step L ns j e he
      have HE : Hid (w4.heap[b]? = some (cellsX 2 e.1 0 e.2 [] (.pointer none) (.pointer none)) ∧ (e.2 ∈ L → firstN L (ns.drop j) = firstN L (ns.drop (j + 1))) ∧ (e.2 ∉ L → firstN L (ns.drop j) = some e.1)) := ⟨hcb', o1, o2⟩
      have v0 := (H0.out.1.step (H2.out.1.trans HB.out.1)).cell
      have hVs := (H0.out.1.step (H2.out.1.trans HB.out.1)).lt
      clear hb hcb hcb' o1 o2 he
      go_wp2_with fail
      go_loopw [6, 18] (fun b i wr => ∃ k : Nat, k ≤ m ∧ i = .int .i64 (k : Int) ∧ b = .bool (decide (e.2 ∈ L.take k)) ∧ Hid (Bl w4 wr)) (fun _ i _ => m - (intOf i).toNat)
      case atStart => exact ⟨0, Nat.zero_le _, rfl, by simp, Bl.refl _⟩
      case round =>
        obtain ⟨k, hk, rfl, rfl, HC⟩ := hrel
        by_cases hkm : k < m
        · have d2 : decide ((k : Int) < (m : Int)) = true := decide_eq_true (by omega)
          have k0 : (0 : Int) ≤ (k : Int) := by omega
          have k1 : (k : Int) < (m : Int) := by omega
          obtain ⟨t, ht⟩ : ∃ t, L[k]? = some t := ⟨_, List.getElem?_eq_getElem (by have := H0.out.2.2.1; omega)⟩
          obtain ⟨g, rfl, hgs, hcg⟩ := (H0.out.2.1.bl ((H2.out.1.trans HB.out.1).trans HC.out)).at ht
          have n3 : wr.cell? ⟨b, 3, none⟩ = some (.string (tx e.2)) := at_bl HC.out (by rw [cell_of HE.out.1]; rfl)
          have hbq : b < wr.heap.size := Nat.lt_of_lt_of_le hbs HC.out.size
          have HM : Hid ((e.2 ∈ L.take (k + 1)) ↔ (e.2 ∈ L.take k ∨ t = e.2)) := mem_take ht
          have q1 := tl_tx t
          have q2 := tl_tx e.2
          obtain ⟨S, hS⟩ : ∃ S, S = tx t := ⟨_, rfl⟩
          obtain ⟨T, hT⟩ : ∃ T, T = tx e.2 := ⟨_, rfl⟩
          rw [← hS] at hcg q1
          rw [← hT] at n3 q2
          clear ht hS hT
          by_cases hin : e.2 ∈ L.take k
          · rw [decide_eq_true hin]
            have HN : Hid (e.2 ∈ L.take (k + 1)) := HM.out.2 (Or.inl hin)
            clear hin q1 q2
            go_wp2
            go_roundw
            case rel => exact ⟨k + 1, by omega, by go_num, by rw [decide_eq_true HN.out], HC.out⟩
            case measure => simp [intOf]; omega
          · rw [decide_eq_false hin]
            by_cases hst : t = e.2
            · have hq : (S.toList == T.toList) = true := by rw [q1, q2, hst, beq_self_eq_true]
              have HN : Hid (e.2 ∈ L.take (k + 1)) := HM.out.2 (Or.inr hst)
              clear hin q1 q2 hst
              go_wp2
              go_roundw
              case rel => exact ⟨k + 1, by omega, by go_num, by rw [decide_eq_true HN.out], HC.out⟩
              case measure => simp [intOf]; omega
            · have hq : (S.toList == T.toList) = false := by rw [q1, q2, beq_eq_false_iff_ne]; exact hst
              have HN : Hid (e.2 ∉ L.take (k + 1)) := fun hc => (HM.out.1 hc).elim hin hst
              clear hin q1 q2 hst
              go_wp2
              go_roundw
              case rel => exact ⟨k + 1, by omega, by go_num, by rw [decide_eq_false HN.out], HC.out⟩
              case measure => simp [intOf]; omega
        · obtain rfl : m = k := by omega
          have hLm : L.take m = L := by rw [H0.out.2.2.1, List.take_length]
          rw [hLm]
          have n1 : wr.cell? ⟨b, 1, none⟩ = some (.int .i64 (e.1 : Int)) := at_bl HC.out (by rw [cell_of HE.out.1]; rfl)
          have hbq : b < wr.heap.size := Nat.lt_of_lt_of_le hbs HC.out.size
          have d2 : decide ((m : Int) < (m : Int)) = false := decide_eq_false (by omega)
          by_cases hin : e.2 ∈ L
          · rw [decide_eq_true hin]
            have HN : Hid (firstN L ns = firstN L (ns.drop (j + 1))) := HB.out.2.trans (HE.out.2.1 hin)
            clear hin hLm
            go_wp2
            go_roundw
            case rel => exact ⟨j + 1, by omega, by go_num, HB.out.1.trans HC.out, HN.out⟩
            case measure => simp [intOf]; omega
          · rw [decide_eq_false hin]
            have HN : Hid (firstN L ns = some e.1) := HB.out.2.trans (HE.out.2.2 hin)
            clear hin hLm
            have hrq : Rs wr R 0 0 := H0.out.2.2.2.2.1.bl ((H2.out.1.trans HB.out.1).trans HC.out)
            have r0 := hrq.c0
            have r1 := hrq.c1
            have z0 := hrq.z0 0
            have z1 := hrq.z0 1
            have hRs := hrq.lt
            have HF : Hid (Rs wr R 0 0 ∧ Bl w wr ∧ w.heap.size ≤ R) := ⟨hrq, H0.out.2.2.2.1.trans ((H2.out.1.trans HB.out.1).trans HC.out), H0.out.2.2.2.2.2⟩
            clear hrq
            go_wp2
            rw [HN.out]
            exact bodyPost_ret (v := flt 5 (e.1 : Int)) (results_cell_row rfl _ _ R 32 #[.int .i64 5, .int .i64 (e.1 : Int)] (0, 0) _ rfl (HF.out.1.set _ _) Try.underlying32 rfl infoF) rfl ⟨rfl, (HF.out.2.1.setCell HF.out.2.2 _).setCell HF.out.2.2 _⟩
    · obtain rfl : n = j := by omega
      have HN : Hid (firstN L ns = none) := by
        show firstN L ns = none
        rw [HB.out.2, H2.out.2.2.2, List.drop_length]
        rfl
      have d1 : decide ((n : Int) < (n : Int)) = false := decide_eq_false (by omega)
      go_wp2_with fail
      refine (Good_at _).mono ?_
      rintro e w9 ⟨rfl, hb9⟩
      have hbb := (H2.out.1.trans HB.out.1).trans hb9
      have hrq : Rs w9 R 0 0 := H0.out.2.2.2.2.1.bl hbb
      have r0 := hrq.c0
      have r1 := hrq.c1
      have z0 := hrq.z0 0
      have z1 := hrq.z0 1
      have hRs := hrq.lt
      have HF : Hid (Rs w9 R 0 0 ∧ Bl w w9 ∧ w.heap.size ≤ R) := ⟨hrq, H0.out.2.2.2.1.trans hbb, H0.out.2.2.2.2.2⟩
      clear hb9 hbb hrq
      unfold flt
      go_wp2
      exact bodyPost_ret (v := flt 0 (-1)) (results_cell_row rfl _ _ R 32 #[.int .i64 0, .int .i64 (-1)] (0, 0) _ rfl (HF.out.1.set _ _) Try.underlying32 rfl infoF) rfl ⟨by rw [HN.out]; rfl, (HF.out.2.1.setCell HF.out.2.2 _).setCell HF.out.2.2 _⟩
end Go.Proofs.Ytpanodaecjlgaaa.tc
/- A region whose last operation is a store: what the others read may be taken first, though the store writes it. -/
namespace Go.Proofs.Ytpanodaecjlgaaa.tc
set_option linter.unusedVariables false
open Go Go.RowKit
open mem

section
variable {P : Program} {md : Region.Mode} {ops : Array Oper} {Q : Exit → Act → World → Prop} {S : World → Prop} {z : Nat}
/-- Whatever comes up next; behind all but number z the condition holds. -/
def wpZ (z : Nat) (P : Program) (md : Region.Mode) (ops : Array Oper) (Q : Exit → Act → World → Prop) (S : World → Prop) : Nat → Array Bool → Act → World → Prop
  | 0, l, a, w => Region.ready md ops l = [] ∧ Q .normal a w
  | f + 1, l, a, w => (Region.ready md ops l = [] → Q .normal a w) ∧ ∀ i ∈ Region.ready md ops l, wpOp P ops Q i (fun a' w' => (i ≠ z → S w') ∧ wpZ z P md ops Q S f (l.setIfInBounds i true) a' w') a w
theorem wpAny_of_wpZ : ∀ (f : Nat) (l : Array Bool) (a : Act) (w : World), wpZ z P md ops Q S f l a w → wpAny P md ops Q f l a w
  | 0, _, _, _, h => h
  | f + 1, _, _, _, h => ⟨h.1, fun i hi => wpOp_mono (fun a' w' h' => wpAny_of_wpZ f _ a' w' h'.2) (h.2 i hi)⟩
/-- Number z waits for number i. -/
def waitsFor (md : Region.Mode) (ops : Array Oper) (z i : Nat) : Bool := match ops[z]? with
  | some o => o.after.any (fun e => Region.binds md e && e.on == i)
  | none => false
theorem not_ready {i : Nat} {l : Array Bool} (hw : waitsFor md ops z i = true) (hi : l.getD i true = false) : z ∉ Region.ready md ops l := by
  intro hz
  obtain ⟨_, o, ho, hall⟩ := mem_ready.1 hz
  unfold waitsFor at hw
  rw [ho] at hw
  dsimp only at hw
  obtain ⟨k, hk, he⟩ := Array.any_eq_true.1 hw
  rw [Bool.and_eq_true, beq_iff_eq] at he
  have h1 := hall _ (Array.getElem_mem hk) he.1
  rw [he.2] at h1
  rcases Nat.lt_or_ge i l.size with h | h
  · simp [h] at hi h1
    rw [hi] at h1
    cases h1
  · simp [Array.getElem?_eq_none h] at h1
theorem wpZ_first {i : Nat} {oi : Oper} {v : Value} (hi : ops[i]? = some oi) (hsel : ∀ (j : Nat) (o : Oper) cs b, ops[j]? = some o → o.op ≠ .select cs b)
    (hQ : ∀ c a w, Q (.panic c) (a.put oi.dst v) w → Q (.panic c) a w) (hz : waitsFor md ops z i = true) : ∀ (f : Nat) (l : Array Bool) (a : Act) (w : World),
      (∀ j oj, ops[j]? = some oj → j ≠ i → l.getD j true = false → (∀ e ∈ oj.after, Region.binds md e = true → e.on ≠ i) → oi.apart ops oj = true) →
      i ∈ Region.ready md ops l → YieldsIf P ops S oi v a → S w → wpZ z P md ops Q S f (l.setIfInBounds i true) (a.put oi.dst v) w → wpZ z P md ops Q S (f + 1) l a w := by
  have own : ∀ (f : Nat) (l : Array Bool) (a : Act) (w : World), YieldsIf P ops S oi v a → S w → wpZ z P md ops Q S f (l.setIfInBounds i true) (a.put oi.dst v) w → wpOp P ops Q i (fun a' w' => (i ≠ z → S w') ∧ wpZ z P md ops Q S f (l.setIfInBounds i true) a' w') a w :=
    fun f l a w hy hS H => hy.wpOp hi hS ⟨fun _ => hS, H⟩
  intro f
  induction f with
  | zero =>
    intro l a w _ hr hy hS H
    refine ⟨fun h => (by rw [h] at hr; cases hr), fun j hj => ?_⟩
    rcases Nat.decEq j i with hji | hji
    · have := ready_mono hj hji
      rw [H.1] at this
      cases this
    · subst hji
      exact own _ _ _ _ hy hS H
  | succ f ih =>
    intro l a w hfree hr hy hS H
    refine ⟨fun h => (by rw [h] at hr; cases hr), fun j hj => ?_⟩
    rcases Nat.decEq j i with hji | hji
    · have hun := (mem_ready.1 hr).1
      have hjz : j ≠ z := fun e => not_ready hz hun (by rw [← e]; exact hj)
      obtain ⟨hjun, oj, hoj, hall⟩ := mem_ready.1 hj
      have hno : ∀ e ∈ oj.after, Region.binds md e = true → e.on ≠ i := fun e he hb heq => by
        have h1 := hall e he hb
        rw [heq] at h1
        rcases Nat.lt_or_ge i l.size with h | h
        · simp [h] at hun h1
          rw [hun] at h1
          cases h1
        · simp [Array.getElem?_eq_none h] at h1
      refine wpOp_mono (fun a' w' h3 => ?_) (wpOp_putIf hoj (hfree j oj hoj hji hjun hno) (fun cs b => hsel i oi cs b hi) (fun cs b => hsel j oj cs b hoj) hQ hy (H.2 j (ready_mono hj hji)))
      have hS' : S w' := h3.2.1 hjz
      refine ⟨fun _ => hS', ih _ a' w' (fun k ok hk hki hun' hno' => hfree k ok hk hki ?_ hno') (ready_mono hr (Ne.symm hji)) h3.1 hS' ?_⟩
      · rcases Nat.decEq j k with hjk | hjk
        · rw [getD_set_ne true hjk] at hun'; exact hun'
        · rw [← hjk]; exact hjun
      · rw [Array.setIfInBounds_comm _ _ hji]
        exact h3.2.2
    · subst hji
      exact own _ _ _ _ hy hS H
theorem wpZ_take {i : Nat} {oi : Oper} {v : Value} {f : Nat} {l : Array Bool} {a : Act} {w : World} (hi : ops[i]? = some oi) (hs : Region.noSelect ops = true) (hf : Region.free md ops l i = true)
    (hr : (Region.ready md ops l).contains i = true) (hz : waitsFor md ops z i = true) (hQ : ∀ c a w, Q (.panic c) (a.put oi.dst v) w → Q (.panic c) a w) (hS : S w) (hy : YieldsIf P ops S oi v a)
    (h : wpZ z P md ops Q S f (l.setIfInBounds i true) (a.put oi.dst v) w) : wpZ z P md ops Q S (f + 1) l a w :=
  wpZ_first hi (Region.noSelect_spec hs) hQ hz f l a w (Region.free_spec hi hf) (by simpa using hr) hy hS h
theorem wpZ_one {i : Nat} {o : Oper} {f : Nat} {l : Array Bool} {a : Act} {w : World} (hr : Region.ready md ops l = [i]) (hi : ops[i]? = some o)
    (h : ∀ K : Act → World → Prop, Hid (∀ a' w', (i ≠ z → S w') → wpZ z P md ops Q S f (l.setIfInBounds i true) a' w' → K a' w') → if Region.wanted o (yielded ops a.tmps) = true then Oper.wp P o a w K Q else K (a.put o.dst undef) w) : wpZ z P md ops Q S (f + 1) l a w := by
  refine ⟨fun h0 => (by rw [hr] at h0; cases h0), fun k hk => ?_⟩
  rw [hr, List.mem_singleton] at hk
  subst hk
  have h2 := h (fun a' w' => (k ≠ z → S w') ∧ wpZ z P md ops Q S f (l.setIfInBounds k true) a' w') (fun a' w' h1 h3 => ⟨h1, h3⟩)
  unfold wpOp
  rw [hi]
  dsimp only
  split
  · rename_i hw
    rw [if_pos hw] at h2
    exact Or.inl h2
  · rename_i hw
    rw [if_neg hw] at h2
    exact h2
theorem wpZ_done {l : Array Bool} {a : Act} {w : World} (hr : Region.ready md ops l = []) (h : Q .normal a w) : ∀ f, wpZ z P md ops Q S f l a w
  | 0 => ⟨hr, h⟩
  | _ + 1 => ⟨fun _ => h, fun i hi => by rw [hr] at hi; cases hi⟩
theorem wp_region_Z (z : Nat) (S : World → Prop) {id : Nat} {a : Act} {w : World} (hm : P.follows .mixedOrders = true)
    (h : wpZ z P .any ops Q S ops.size (Array.replicate ops.size false) a w.drew) : (Code.region id ops true).wp P Q a w :=
  wp_region_any hm (wpAny_of_wpZ _ _ _ _ h)
end
end Go.Proofs.Ytpanodaecjlgaaa.tc
