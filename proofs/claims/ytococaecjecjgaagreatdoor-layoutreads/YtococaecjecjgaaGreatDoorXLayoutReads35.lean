/- Texts laid together: BlD, BlF, BlG, BlH, TrP. -/
import Derived.Test.YtococaecjecjgaaGreatDoorXLayoutReads34
import Derived.Test.YtococaecjecjgaaGreatDoorXLayoutReads26
import Derived.Test.YtococaecjecjgaaGreatDoorXLayoutReads27
import Derived.Test.YtococaecjecjgaaGreatDoorXLayoutReads30
import Derived.Test.YtococaecjecjgaaGreatDoorXLayoutReads14
import Derived.Test.YtococaecjecjgaaGreatDoorXLayoutReads9
import Derived.Lib.IndexMore
namespace Go.Proofs.YtococaecjecjgaaGreatDoor.tc
set_option linter.unusedVariables false
set_option linter.unusedSimpArgs false
open Go.ChangeShapes Go.WideShapes Go.ChangeAt Go.RowKit Go.Shelf Go.Maps
open mem lx ex tm

theorem zI_at {l : Its} : ∀ {j : Nat} {d : D} {s : Its}, l.ps[j]? = some (d, s) → 2 + szO d.ct + zI s ≤ zI l := by
  induction l with
  | nil => intro j d s h; cases h
  | cons a b t _ it =>
    intro j d s h
    rw [zI]
    cases j with
    | zero =>
      simp [Its.ps] at h
      obtain ⟨rfl, rfl⟩ := h
      omega
    | succ j =>
      have := it (j := j) (by simpa [Its.ps] using h)
      omega
theorem prT_z {s : List UInt8} {l : List Ty} (h : prT s = .ok l) (hs : s.length ≤ 3000) : ∀ t ∈ l, zI t.l ≤ s.length := by
  unfold prT at h
  split at h
  · cases h
  · rename_i h0
    have hch := lx_ch s _ 0 (Nat.le_refl _) (Nat.zero_le _)
    rw [List.drop_zero] at hch
    have hln := lx_len s _ 0 (Nat.le_refl _)
    have hT : TS (lx s 0).1 := ch_is hch
    have hP : TP s.length (lx s 0).1 := ⟨by omega, fun t ht => by have := ch_at hch t ht; omega⟩
    obtain ⟨k1, k2⟩ := typs_len 8 _ _ hT hP h
    intro t ht
    have h2 := zT_mem ht
    omega
theorem item_ne0 {earl names seen : List (List UInt8)} {d : D} {e : Int × Nat} (h : itemW earl names seen d = some e) : e.1 ≠ 0 := by
  unfold itemW at h
  split at h
  · injection h with h; rw [← h]; simp
  · split at h
    · injection h with h; rw [← h]; simp
    · obtain ⟨p, _, rfl⟩ := Option.map_eq_some_iff.1 h; simp
theorem rule_ne0 {ds : List D} {i : Nat} {d : D} {e : Int × Nat} (h : ruleW ds i d = some e) : e.1 ≠ 0 := by
  unfold ruleW at h
  split at h
  · cases h
  · split at h
    · split at h
      · injection h with h; rw [← h]; simp
      · split at h
        · injection h with h; rw [← h]; simp
        · split at h
          · injection h with h; rw [← h]; simp
          · split at h
            · injection h with h; rw [← h]; simp
            · cases h
    · injection h with h; rw [← h]; simp
theorem cyc_ne0 {ds : List D} {i : Nat} {d : D} {e : Int × Nat} (h : cycW ds i d = some e) : e.1 ≠ 0 := by
  unfold cycW at h
  split at h
  · injection h with h; rw [← h]; simp
  · cases h
theorem first_ne0 {g : Nat → D → Option (Int × Nat)} (hg : ∀ i d e, g i d = some e → e.1 ≠ 0) : ∀ (l : List D) (i : Nat) (e : Int × Nat), firstW g i l = some e → e.1 ≠ 0 := by
  intro l
  induction l with
  | nil => intro i e h; cases h
  | cons d r ih =>
    intro i e h
    rw [firstW] at h
    split at h
    · rename_i e2 h2
      injection h with h
      rw [← h]; exact hg _ _ _ h2
    · exact ih _ _ h
theorem rules_ne0 {ds : List D} {e : Int × Nat} (h : rulesW ds = some e) : e.1 ≠ 0 := by
  unfold rulesW at h
  split at h
  · rename_i e2 h2
    injection h with h
    rw [← h]; exact first_ne0 (fun _ _ _ => rule_ne0) _ _ _ h2
  · exact first_ne0 (fun _ _ _ => cyc_ne0) _ _ _ h
theorem chkI_ne0 {earl : List (List UInt8)} : ∀ (l : Its) (names seen : List (List UInt8)) (e : Int × Nat), chkI earl l names seen = .error e → e.1 ≠ 0 := by
  intro l
  induction l with
  | nil => intro names seen e h; cases h
  | cons d s t is it =>
    intro names seen e h
    rw [chkI] at h
    split at h
    · split at h
      · injection h with h; rw [← h]; simp
      · split at h
        · rename_i e2 h2
          injection h with h
          rw [← h]; exact is _ _ _ h2
        · split at h
          · rename_i e2 h2
            injection h with h
            rw [← h]; exact rules_ne0 h2
          · exact it _ _ _ h
    · split at h
      · rename_i e2 h2
        injection h with h
        rw [← h]; exact item_ne0 h2
      · exact it _ _ _ h
theorem chkB_ne0 {earl names seen : List (List UInt8)} {l : Its} {e : Int × Nat} (h : chkB earl l names seen = .error e) : e.1 ≠ 0 := by
  unfold chkB at h
  split at h
  · rename_i e2 h2
    injection h with h
    rw [← h]; exact chkI_ne0 _ _ _ _ h2
  · split at h
    · rename_i e2 h2
      injection h with h
      rw [← h]; exact rules_ne0 h2
    · cases h
theorem nm_ne {t : List UInt8} (h : NM t) : t ≠ [] := fun e => by have := h.2.1; rw [e] at this; revert this; decide
theorem wd_ru {d : D} (h : WD d) (hr : d.ru ≠ 0) : d.f1 ≠ [] ∧ (d.ru = 3 → d.l1 ≠ []) := by
  obtain ⟨wr, _⟩ := ru_wr h hr
  rcases wr with w | w | w
  · exact absurd w.1 hr
  · exact ⟨nm_ne w.2.1, fun h3 => by rcases w.1 with k | k <;> omega⟩
  · exact ⟨nm_ne w.2.1, fun _ => nm_ne w.2.2⟩
theorem okr_of {k : Nat} {l : Its} {w : World} {ok : Nat → Prop} {cs : List C} (hw : WI k l) (hr : Rep w ok l cs) : Okr cs := by
  have key : ∀ x ∈ cs, WD x.d := by
    intro x hx
    obtain ⟨j, hj⟩ := List.mem_iff_getElem?.1 hx
    obtain ⟨y, d, s, e1, e2, e3, _⟩ := hr.at j (by rw [← hr.len.1]; exact (List.getElem?_eq_some_iff.1 hj).1)
    rw [hj] at e1
    obtain rfl := Option.some.inj e1
    rw [e3]
    exact (hw.at j _ _ e2).1
  exact ⟨fun x hx h4 => (wd_ok (key x hx)).2.2.2.1 h4, fun x hx h3 => ⟨(wd_ru (key x hx) (by omega)).1, (wd_ru (key x hx) (by omega)).2 h3⟩⟩
theorem gp_below {B P : Nat} {w w' : World} (h : Gp P w w') (hP : B ≤ P) (hB : B ≤ w.heap.size) : Below B w w' :=
  ⟨h.os, h.tape, h.output, h.size, fun k hk => h.block k (by omega) (by omega)⟩
theorem vr_gp {w w' : World} {V P k : Nat} {v : Value} {t : TypeId} {S : List (List UInt8)} (h : Vr w V v t) (hg : Gp P w w') (hs : SetB w P S k) : Vr w' V v t := by
  unfold Vr at h ⊢
  refine (hg.block V (lt_of_heap h) (fun e => ?_)).trans h
  obtain ⟨es, clock, hb⟩ := hs.block
  rw [← e, h] at hb
  cases hb
def DoneR (nb K : Nat) (w : World) (q : Except (Int × Nat) (List (List UInt8))) (e : Ending) (w' : World) : Prop := Gp nb w w' ∧ match q with
  | .ok n => e = .returned (flt 0 (-1)) ∧ SetB w' nb n K
  | .error (c, p) => e = .returned (flt c (p : Int))
theorem DoneR.of_err {nb K : Nat} {w w' : World} {q : Except (Int × Nat) (List (List UInt8))} {c : Int} {p : Nat} (hq : q = .error (c, p)) (hg : Gp nb w w') : DoneR nb K w q (.returned (flt c (p : Int))) w' := by
  rw [hq]; exact ⟨hg, rfl⟩
theorem DoneR.of_ok {nb K : Nat} {w w' : World} {q : Except (Int × Nat) (List (List UInt8))} {n : List (List UInt8)} (hq : q = .ok n) (hg : Gp nb w w') (hs : SetB w' nb n K) : DoneR nb K w q (.returned (flt 0 (-1))) w' := by
  rw [hq]; exact ⟨hg, rfl, hs⟩
structure BJ (k : Nat) (l : Its) (B tb nb : Nat) (earl names seen : List (List UInt8)) (ke kn n : Nat) (p : Option Addr) (c : Nat) (sp : Option Addr) (sc : Nat) (cs : List C) (w : World) : Prop where
  wi : WI k l
  len : l.len ≤ 16
  z : zI l ≤ 4000
  ts : SetB w tb earl ke
  ns : SetB w nb names kn
  sn : Sn w sp seen.reverse
  sc : seen.length ≤ sc
  bn : B ≤ nb
  bw : B ≤ w.heap.size
  ne : tb ≠ nb
  kn : kn + tot l ≤ 4000
  sl : seen.length + tot l ≤ 4000
  lie : ir.Lie w (fun g => g < B) p n c cs
  rep : Rep w (fun g => g < B) l cs
  n : n = l.len
def BlkR (k : Nat) : Prop := ∀ (l : Its) (B tb nb : Nat) (earl names seen : List (List UInt8)) (ke kn n : Nat) (p : Option Addr) (c : Nat) (sp : Option Addr) (sc : Nat) (cs : List C) (w : World), BJ k l B tb nb earl names seen ke kn n p c sp sc cs w →
  Calls Tryz.prog 44 #[.slice p n c, .map (some tb), .map (some nb), .slice sp seen.length sc] w fun e w' => DoneR nb (kn + tot l) w (chkB earl l names seen) e w'
def Rs (w : World) (R : Nat) (a b : Int) : Prop := w.heap[R]? = some (.cells #[.int .i64 a, .int .i64 b] 30 (0, 0))
theorem Rs.new (w : World) (a b : Int) : Rs (w.alloc (.cells #[.int .i64 a, .int .i64 b] 30)) w.heap.size a b := new_at w _
theorem Rs.lt {w : World} {R : Nat} {a b : Int} (h : Rs w R a b) : R < w.heap.size := lt_of_heap h
theorem Rs.c0 {w : World} {R : Nat} {a b : Int} (h : Rs w R a b) : w.cell? ⟨R, 0, none⟩ = some (.int .i64 a) := by rw [cell_of h]; rfl
theorem Rs.c1 {w : World} {R : Nat} {a b : Int} (h : Rs w R a b) : w.cell? ⟨R, 1, none⟩ = some (.int .i64 b) := by rw [cell_of h]; rfl
theorem Rs.z0 {w : World} {R : Nat} {a b : Int} (h : Rs w R a b) (j : Nat) : w.frozen? ⟨R, j, none⟩ = false := by simp [World.frozen?, show w.heap[R]? = _ from h]
theorem Rs.bl {w w' : World} {R : Nat} {a b : Int} (h : Rs w R a b) (hb : Bl w w') : Rs w' R a b := (Below.block hb R h.lt).trans h
theorem Rs.gp {w w' : World} {R P k : Nat} {a b : Int} {S : List (List UInt8)} (h : Rs w R a b) (hg : Gp P w w') (hs : SetB w P S k) : Rs w' R a b :=
  (hg.block R h.lt (fun e => by obtain ⟨es, clock, hb⟩ := hs.block; rw [← e, show w.heap[R]? = _ from h] at hb; cases hb)).trans h
theorem Rs.set {w : World} {R : Nat} {a b : Int} (h : Rs w R a b) (c d : Int) : Rs ((w.setCell ⟨R, 0, none⟩ (.int .i64 c)).setCell ⟨R, 1, none⟩ (.int .i64 d)) R c d := by
  unfold Rs at h ⊢
  simp [World.setCell, Array.getElem?_modify, h]
theorem Rs.away {w : World} {R V : Nat} {a b : Int} (h : Rs w R a b) (hne : V ≠ R) (v : Value) : Rs (w.setCell ⟨V, 0, none⟩ v) R a b := by
  unfold Rs at h ⊢
  simp [World.setCell, Array.getElem?_modify, h, hne]
structure TC (tb nb V R : Nat) (earl : List (List UInt8)) (ke : Nat) (w wr : World) (names' seen' : List (List UInt8)) (kn' : Nat) : Prop where
  gp : Gp nb w wr
  ts : SetB wr tb earl ke
  ns : SetB wr nb names' kn'
  vr : ∃ sp sc, Vr wr V (.slice sp seen'.length sc) 148 ∧ seen'.length ≤ sc ∧ Sn wr sp seen'.reverse
  r : Rs wr R 0 0
  v : w.heap.size ≤ V
  rv : R = V + 1
  ne : tb ≠ nb
theorem TC.bl {tb nb V R : Nat} {earl : List (List UInt8)} {ke : Nat} {w wr w' : World} {names' seen' : List (List UInt8)} {kn' : Nat} (h : TC tb nb V R earl ke w wr names' seen' kn') (hb : Bl wr w') : TC tb nb V R earl ke w w' names' seen' kn' := by
  obtain ⟨sp, sc, h1, h2, h3⟩ := h.vr
  exact ⟨h.gp.trans (Gp.bl hb), h.ts.bl hb, h.ns.bl hb, ⟨sp, sc, h1.step hb, h2, h3.bl hb⟩, h.r.bl hb, h.v, h.rv, h.ne⟩
theorem TC.go {tb nb V R : Nat} {earl : List (List UInt8)} {ke : Nat} {w wr w' : World} {names' seen' n2 : List (List UInt8)} {kn' k2 : Nat} (h : TC tb nb V R earl ke w wr names' seen' kn') (hg : Gp nb wr w') (hn : SetB w' nb n2 k2) : TC tb nb V R earl ke w w' n2 seen' k2 := by
  obtain ⟨sp, sc, h1, h2, h3⟩ := h.vr
  exact ⟨h.gp.trans hg, h.ts.gp hg h.ne, hn, ⟨sp, sc, vr_gp h1 hg h.ns, h2, h3.gp hg h.ns⟩, h.r.gp hg h.ns, h.v, h.rv, h.ne⟩
theorem TC.err {tb nb V R K : Nat} {earl : List (List UInt8)} {ke : Nat} {w wr : World} {names' seen' : List (List UInt8)} {kn' : Nat} (h : TC tb nb V R earl ke w wr names' seen' kn') {q : Except (Int × Nat) (List (List UInt8))} {c : Int} {p : Nat} (hq : q = .error (c, p)) :
    Rs ((wr.setCell ⟨R, 0, none⟩ (.int .i64 c)).setCell ⟨R, 1, none⟩ (.int .i64 (p : Int))) R c p ∧ DoneR nb K w q (.returned (flt c (p : Int))) ((wr.setCell ⟨R, 0, none⟩ (.int .i64 c)).setCell ⟨R, 1, none⟩ (.int .i64 (p : Int))) :=
  ⟨h.r.set _ _, DoneR.of_err hq ((h.gp.setNew (by have := h.v; have := h.rv; omega) _).setNew (by have := h.v; have := h.rv; omega) _)⟩
structure T1 (l : Its) (tb nb V R : Nat) (earl names seen : List (List UInt8)) (ke kn : Nat) (w wr : World) (j : Nat) (names' seen' : List (List UInt8)) (kn' : Nat) : Prop where
  c : TC tb nb V R earl ke w wr names' seen' kn'
  eq : chkI earl l names seen = chkI earl (l.dr j) names' seen'
  kn : kn' + tot (l.dr j) ≤ kn + tot l
  sl : seen'.length + tot (l.dr j) ≤ seen.length + tot l
structure T3 (g : Nat → D → Option (Int × Nat)) (l : Its) (tb nb V R : Nat) (earl : List (List UInt8)) (ke : Nat) (w wr : World) (names' seen' : List (List UInt8)) (kn' : Nat) (j : Nat) : Prop where
  c : TC tb nb V R earl ke w wr names' seen' kn'
  eq : firstW g 0 l.ds = firstW g j (l.ds.drop j)
theorem T3.on {g : Nat → D → Option (Int × Nat)} {l : Its} {tb nb V R : Nat} {earl : List (List UInt8)} {ke : Nat} {w wr w' : World} {names' seen' : List (List UInt8)} {kn' : Nat} {j : Nat} (h : T3 g l tb nb V R earl ke w wr names' seen' kn' j) (hb : Bl wr w') {d : D} (hd : l.ds[j]? = some d) (hg : g j d = none) : T3 g l tb nb V R earl ke w w' names' seen' kn' (j + 1) :=
  ⟨h.c.bl hb, h.eq.trans ((firstW_step g l.ds j d hd).2 hg)⟩
theorem within_at (n lo hi : Int) (w : World) : Calls Tryz.prog 77 #[.int .i64 n, .int .i64 lo, .int .i64 hi] w fun e w' => e = .returned (.bool (decide (lo ≤ n) && decide (n ≤ hi))) ∧ w' = w := by
  by_cases h1 : lo ≤ n
  · by_cases h2 : n ≤ hi
    · go_enter Tryz.func77, Tryz.ntmps77
      go_wp2
      go_ret
      exact ⟨by simp [h1, h2], rfl⟩
    · go_enter Tryz.func77, Tryz.ntmps77
      go_wp2
      go_ret
      exact ⟨by simp [h1, h2], rfl⟩
  · go_enter Tryz.func77, Tryz.ntmps77
    go_wp2
    go_ret
    exact ⟨by rw [decide_eq_false (by omega : ¬ lo ≤ n)]; rfl, rfl⟩
theorem misO_rev (seen : List (List UInt8)) (o : Option Ex) : firstN seen.reverse (nmsO o) = misO seen o := by
  rw [misO_nms]
  exact firstN_same (by simp) _
end Go.Proofs.YtococaecjecjgaaGreatDoor.tc
namespace Go.Proofs.YtococaecjecjgaaGreatDoor.tc
set_option linter.unusedVariables false
open Go.ChangeShapes Go.WideShapes Go.ChangeAt Go.RowKit Go.Shelf Go.Maps
open mem lx ex tm

def hasV (o : Option Nat) : Value := match o with
  | some p => flt 5 (p : Int)
  | none => flt 0 (-1)
theorem names_o (pc : Option Addr) (o : Option Ex) (w : World) (hx : IsO w pc o) (hs : szO o ≤ 5000) : Calls Tryz.prog 75 #[.pointer pc] w fun e w' => NA w w (nmsO o) e w' := by
  rcases isO_lt hx with ⟨rfl, rfl⟩ | ⟨x, rfl, hxx⟩
  · refine (names_nil w).mono ?_
    rintro e w' ⟨rfl, rfl⟩
    exact NA.of (Bl.refl _) (qp.Q.nil _ _) trivial
  · exact names_x x _ w w (Bl.refl _) hxx hs
theorem mem_take {L : List (List UInt8)} {k : Nat} {t u : List UInt8} (h : L[k]? = some u) : (t ∈ L.take (k + 1)) ↔ (t ∈ L.take k ∨ u = t) := by
  rw [List.take_add_one, h]
  simp [eq_comm]
set_option maxRecDepth 10000 in
set_option maxHeartbeats 4000000 in
theorem has_at (V : Nat) (L : List (List UInt8)) (sp : Option Addr) (sc : Nat) (pc : Option Addr) (o : Option Ex) (w : World) (hV : Vr w V (.slice sp L.length sc) 148) (hS : Sn w sp L) (hx : IsO w pc o) (hs : szO o ≤ 5000) (hL : L.length ≤ 5000) :
    Calls Tryz.prog 74 #[.pointer pc, .pointer (some ⟨V, 0, none⟩)] w fun e w' => e = .returned (hasV (firstN L (nmsO o))) ∧ Bl w w' := by
  have hnl : (nmsO o).length ≤ 5000 := by
    cases o with
    | none => exact Nat.zero_le _
    | some x => exact Nat.le_trans (nms_sz x) hs
  obtain ⟨ns, hns⟩ : ∃ ns, ns = nmsO o := ⟨_, rfl⟩
  rw [← hns] at hnl ⊢
  obtain ⟨m, hm⟩ : ∃ m, m = L.length := ⟨_, rfl⟩
  obtain ⟨w1, hw1⟩ : ∃ w1, w1 = w.alloc (.cells #[.int .i64 0, .int .i64 0] 30) := ⟨_, rfl⟩
  obtain ⟨R, hR⟩ : ∃ R, R = w.heap.size := ⟨_, rfl⟩
  have hb1 : Bl w w1 := by rw [hw1]; exact (Bl.refl _).alloc _
  have hr1 : Rs w1 R 0 0 := by rw [hw1, hR]; exact Rs.new w 0 0
  have H0 : Hid (Vr w1 V (.slice sp m sc) 148 ∧ Sn w1 sp L ∧ m = L.length ∧ Bl w w1 ∧ Rs w1 R 0 0 ∧ w.heap.size ≤ R) := ⟨by rw [hm]; exact hV.step hb1, hS.bl hb1, hm, hb1, hr1, by rw [hR]; exact Nat.le_refl _⟩
  have cN := names_o pc o w1 (hx.keep (Kx.bl hb1)) hs
  rw [← hns] at cN
  rw [← hm] at hL
  clear hV hS hx hs hns hm hb1 hr1
  go_enter Tryz.func74, Tryz.ntmps74
  go_upto_region 1 with fail
  rw [← hw1, ← hR]
  clear hw1 hR
  go_wp2_with fail
  refine cN.mono ?_
  rintro e w2 ⟨p, c, az, rfl, hb2, hq2, hn2⟩
  obtain ⟨n, hn⟩ : ∃ n, n = ns.length := ⟨_, rfl⟩
  have H2 : Hid (Bl w1 w2 ∧ qp.Q w2 w1.heap.size (.slice p n c) az ∧ NmL w1 az ns ∧ n = ns.length) := ⟨hb2, by rw [hn]; exact hq2, hn2, hn⟩
  rw [← hn] at hnl ⊢
  clear hb2 hq2 hn2 hn cN
  go_wp2_with fail
  go_loopw [12] (fun i wr => ∃ j : Nat, j ≤ n ∧ i = .int .i64 (j : Int) ∧ Hid (Bl w2 wr ∧ firstN L ns = firstN L (ns.drop j))) (fun i _ => n - (intOf i).toNat)
  case atStart => exact ⟨0, Nat.zero_le _, rfl, Bl.refl _, rfl⟩
  case round =>
    obtain ⟨j, hj, rfl, HB⟩ := hrel
    rename World => w4
    by_cases hjn : j < n
    · have d1 : decide ((j : Int) < (n : Int)) = true := decide_eq_true (by omega)
      have i0 : (0 : Int) ≤ (j : Int) := by omega
      have i1 : (j : Int) < (n : Int) := by omega
      obtain ⟨e, he⟩ : ∃ e, ns[j]? = some e := ⟨_, List.getElem?_eq_getElem (by have := H2.out.2.2.2; omega)⟩
      obtain ⟨b, hb, hcb⟩ := H2.out.2.2.1.at he
      obtain ⟨X, rfl, _, hcx⟩ := (H2.out.2.1.bl HB.out.1).at hb
      have hcb' := Kx.bl (H2.out.1.trans HB.out.1) _ _ hcb
      have hbs := lt_of_heap hcb'
      obtain ⟨o1, o2⟩ := firstN_step L ns j e he
      have HE : Hid (w4.heap[b]? = some (cellsX 2 e.1 0 e.2 [] (.pointer none) (.pointer none)) ∧ (e.2 ∈ L → firstN L (ns.drop j) = firstN L (ns.drop (j + 1))) ∧ (e.2 ∉ L → firstN L (ns.drop j) = some e.1)) := ⟨hcb', o1, o2⟩
      have v0 := (H0.out.1.step (H2.out.1.trans HB.out.1)).cell
      have hVs := (H0.out.1.step (H2.out.1.trans HB.out.1)).lt
      clear hb hcb hcb' o1 o2 he
      go_wp2_with fail
      go_loopw [6, 18] (fun b i wr => ∃ k : Nat, k ≤ m ∧ i = .int .i64 (k : Int) ∧ b = .bool (decide (e.2 ∈ L.take k)) ∧ Hid (Bl w4 wr)) (fun _ i _ => m - (intOf i).toNat)
      case atStart => exact ⟨0, Nat.zero_le _, rfl, by simp, Bl.refl _⟩
      case round =>
        obtain ⟨k, hk, rfl, rfl, HC⟩ := hrel
        by_cases hkm : k < m
        · have d2 : decide ((k : Int) < (m : Int)) = true := decide_eq_true (by omega)
          have k0 : (0 : Int) ≤ (k : Int) := by omega
          have k1 : (k : Int) < (m : Int) := by omega
          obtain ⟨t, ht⟩ : ∃ t, L[k]? = some t := ⟨_, List.getElem?_eq_getElem (by have := H0.out.2.2.1; omega)⟩
          obtain ⟨g, rfl, hgs, hcg⟩ := (H0.out.2.1.bl ((H2.out.1.trans HB.out.1).trans HC.out)).at ht
          have n3 : wr.cell? ⟨b, 3, none⟩ = some (.string (tx e.2)) := at_bl HC.out (by rw [cell_of HE.out.1]; rfl)
          have hbq : b < wr.heap.size := Nat.lt_of_lt_of_le hbs HC.out.size
          have HM : Hid ((e.2 ∈ L.take (k + 1)) ↔ (e.2 ∈ L.take k ∨ t = e.2)) := mem_take ht
          have q1 := tl_tx t
          have q2 := tl_tx e.2
          obtain ⟨S, hS⟩ : ∃ S, S = tx t := ⟨_, rfl⟩
          obtain ⟨T, hT⟩ : ∃ T, T = tx e.2 := ⟨_, rfl⟩
          rw [← hS] at hcg q1
          rw [← hT] at n3 q2
          clear ht hS hT
          by_cases hin : e.2 ∈ L.take k
          · rw [decide_eq_true hin]
            have HN : Hid (e.2 ∈ L.take (k + 1)) := HM.out.2 (Or.inl hin)
            clear hin q1 q2
            go_wp2
            go_roundw
            case rel => exact ⟨k + 1, by omega, by go_num, by rw [decide_eq_true HN.out], HC.out⟩
            case measure => simp [intOf]; omega
          · rw [decide_eq_false hin]
            by_cases hst : t = e.2
            · have hq : (S.toList == T.toList) = true := by rw [q1, q2, hst, beq_self_eq_true]
              have HN : Hid (e.2 ∈ L.take (k + 1)) := HM.out.2 (Or.inr hst)
              clear hin q1 q2 hst
              go_wp2
              go_roundw
              case rel => exact ⟨k + 1, by omega, by go_num, by rw [decide_eq_true HN.out], HC.out⟩
              case measure => simp [intOf]; omega
            · have hq : (S.toList == T.toList) = false := by rw [q1, q2, beq_eq_false_iff_ne]; exact hst
              have HN : Hid (e.2 ∉ L.take (k + 1)) := fun hc => (HM.out.1 hc).elim hin hst
              clear hin q1 q2 hst
              go_wp2
              go_roundw
              case rel => exact ⟨k + 1, by omega, by go_num, by rw [decide_eq_false HN.out], HC.out⟩
              case measure => simp [intOf]; omega
        · obtain rfl : m = k := by omega
          have hLm : L.take m = L := by rw [H0.out.2.2.1, List.take_length]
          rw [hLm]
          have n1 : wr.cell? ⟨b, 1, none⟩ = some (.int .i64 (e.1 : Int)) := at_bl HC.out (by rw [cell_of HE.out.1]; rfl)
          have hbq : b < wr.heap.size := Nat.lt_of_lt_of_le hbs HC.out.size
          have d2 : decide ((m : Int) < (m : Int)) = false := decide_eq_false (by omega)
          by_cases hin : e.2 ∈ L
          · rw [decide_eq_true hin]
            have HN : Hid (firstN L ns = firstN L (ns.drop (j + 1))) := HB.out.2.trans (HE.out.2.1 hin)
            clear hin hLm
            go_wp2
            go_roundw
            case rel => exact ⟨j + 1, by omega, by go_num, HB.out.1.trans HC.out, HN.out⟩
            case measure => simp [intOf]; omega
          · rw [decide_eq_false hin]
            have HN : Hid (firstN L ns = some e.1) := HB.out.2.trans (HE.out.2.2 hin)
            clear hin hLm
            have hrq : Rs wr R 0 0 := H0.out.2.2.2.2.1.bl ((H2.out.1.trans HB.out.1).trans HC.out)
            have r0 := hrq.c0
            have r1 := hrq.c1
            have z0 := hrq.z0 0
            have z1 := hrq.z0 1
            have hRs := hrq.lt
            have HF : Hid (Rs wr R 0 0 ∧ Bl w wr ∧ w.heap.size ≤ R) := ⟨hrq, H0.out.2.2.2.1.trans ((H2.out.1.trans HB.out.1).trans HC.out), H0.out.2.2.2.2.2⟩
            clear hrq
            go_wp2
            rw [HN.out]
            exact bodyPost_ret (v := flt 5 (e.1 : Int)) (results_cell_row rfl _ _ R 30 #[.int .i64 5, .int .i64 (e.1 : Int)] (0, 0) _ rfl (HF.out.1.set _ _) Tryz.underlying30 rfl infoF) rfl ⟨rfl, (HF.out.2.1.setCell HF.out.2.2 _).setCell HF.out.2.2 _⟩
    · obtain rfl : n = j := by omega
      have HN : Hid (firstN L ns = none) := by
        show firstN L ns = none
        rw [HB.out.2, H2.out.2.2.2, List.drop_length]
        rfl
      have d1 : decide ((n : Int) < (n : Int)) = false := decide_eq_false (by omega)
      go_wp2_with fail
      refine (Good_at _).mono ?_
      rintro e w9 ⟨rfl, hb9⟩
      have hbb := (H2.out.1.trans HB.out.1).trans hb9
      have hrq : Rs w9 R 0 0 := H0.out.2.2.2.2.1.bl hbb
      have r0 := hrq.c0
      have r1 := hrq.c1
      have z0 := hrq.z0 0
      have z1 := hrq.z0 1
      have hRs := hrq.lt
      have HF : Hid (Rs w9 R 0 0 ∧ Bl w w9 ∧ w.heap.size ≤ R) := ⟨hrq, H0.out.2.2.2.1.trans hbb, H0.out.2.2.2.2.2⟩
      clear hb9 hbb hrq
      unfold flt
      go_wp2
      exact bodyPost_ret (v := flt 0 (-1)) (results_cell_row rfl _ _ R 30 #[.int .i64 0, .int .i64 (-1)] (0, 0) _ rfl (HF.out.1.set _ _) Tryz.underlying30 rfl infoF) rfl ⟨by rw [HN.out]; rfl, (HF.out.2.1.setCell HF.out.2.2 _).setCell HF.out.2.2 _⟩
end Go.Proofs.YtococaecjecjgaaGreatDoor.tc
namespace Go.Proofs.YtococaecjecjgaaGreatDoor.tc
set_option linter.unusedVariables false
open Go.ChangeShapes Go.WideShapes Go.ChangeAt Go.RowKit Go.Shelf Go.Maps
open mem lx ex tm

theorem fl_cl {w w' : World} {c p : Int} (hb : Bl (w.alloc (.cells #[.int .i64 c, .int .i64 p] 30)) w') : w'.cell? ⟨w.heap.size, 0, none⟩ = some (.int .i64 c) ∧ w'.cell? ⟨w.heap.size, 1, none⟩ = some (.int .i64 p) ∧ Bl w w' ∧ w.heap.size < w'.heap.size :=
  ⟨at_bl hb (by rw [cell_of (new_at w _)]; rfl), at_bl hb (by rw [cell_of (new_at w _)]; rfl), ((Bl.refl w).alloc _).trans hb, Nat.lt_of_lt_of_le (lt_of_heap (new_at w _)) hb.size⟩
theorem itemW_ways (earl names seen : List (List UInt8)) (d : D) : (d.nm ∈ names → itemW earl names seen d = some (9, d.at_)) ∧ (d.nm ∉ names → (d.kd = 3 ∧ d.ty ∉ earl → itemW earl names seen d = some (7, d.at_)) ∧ (¬ (d.kd = 3 ∧ d.ty ∉ earl) → (∀ p, misO seen d.ct = some p → itemW earl names seen d = some (5, p)) ∧ (misO seen d.ct = none → itemW earl names seen d = none))) := by
  unfold itemW
  refine ⟨fun h => by rw [if_pos h], fun h => ⟨fun h2 => by rw [if_neg h, if_pos h2], fun h2 => ⟨fun p hp => by rw [if_neg h, if_neg h2, hp]; rfl, fun hp => by rw [if_neg h, if_neg h2, hp]; rfl⟩⟩⟩
def rw2 (ds : List D) (i : Nat) (d : D) : Option Nat → Option Nat → Option (Int × Nat)
  | some a, some b =>
    if d.ru = 2 ∧ (ds[a]?.map (·.mn)) ≠ some true then some (13, d.at_)
    else if d.ru = 3 ∧ (d.wd ≠ 4 ∨ d.sg = true) then some (13, d.at_)
    else if b < a then some (10, d.at_)
    else if a ≤ i ∧ i ≤ b then some (6, d.at_)
    else none
  | _, _ => some (7, d.at_)
theorem rw2_l (ds : List D) (i : Nat) (d : D) (eb : Option Nat) : rw2 ds i d none eb = some (7, d.at_) := by cases eb <;> rfl
theorem rw2_r (ds : List D) (i : Nat) (d : D) (ea : Option Nat) : rw2 ds i d ea none = some (7, d.at_) := by cases ea <;> rfl
theorem ruleW_ends {ds : List D} {i : Nat} {d : D} {ea eb : Option Nat} (hr : d.ru ≠ 0) (ha : ea = nmd ds d.f1) (hb : eb = if d.ru = 3 then nmd ds d.l1 else ea) : ruleW ds i d = rw2 ds i d ea eb := by
  have hE : ends ds d = (ea, eb) := by unfold ends; rw [hb, ha]
  unfold ruleW
  rw [if_neg hr, hE]
  cases ea <;> cases eb <;> rfl
set_option linter.unusedSimpArgs false in
set_option maxRecDepth 10000 in
set_option maxHeartbeats 16000000 in
theorem block_r (k : Nat) (hrec : ∀ k', k' < k → BlkR k') : BlkR k := by
  intro l B tb nb earl names seen ke kn n p c sp sc cs w h0
  have hn16 : n ≤ 16 := by rw [h0.n]; exact h0.len
  have H0 : Hid (BJ k l B tb nb earl names seen ke kn n p c sp sc cs w) := h0
  obtain ⟨q, hq⟩ : ∃ q, q = chkB earl l names seen := ⟨_, rfl⟩
  rw [← hq]
  have HQ : Hid (q = chkB earl l names seen) := hq
  obtain ⟨w1, hw1⟩ : ∃ w1, w1 = (w.alloc (.cells #[.slice sp seen.length sc] 148)).alloc (.cells #[.int .i64 0, .int .i64 0] 30) := ⟨_, rfl⟩
  obtain ⟨V, hV⟩ : ∃ V, V = w.heap.size := ⟨_, rfl⟩
  obtain ⟨R, hR⟩ : ∃ R, R = V + 1 := ⟨_, rfl⟩
  have hb1 : Bl w w1 := by rw [hw1]; exact ((Bl.refl _).alloc _).alloc _
  have hv1 : Vr w1 V (.slice sp seen.length sc) 148 := by rw [hw1, hV]; exact (Vr.new w _ _).step ((Bl.refl _).alloc _)
  have hr1 : Rs w1 R 0 0 := by
    have := Rs.new (w.alloc (.cells #[.slice sp seen.length sc] 148)) 0 0
    rw [hw1, hR, hV]
    simpa using this
  have H1 : Hid (T1 l tb nb V R earl names seen ke kn w w1 0 names seen kn) := ⟨⟨Gp.bl hb1, h0.ts.bl hb1, h0.ns.bl hb1, ⟨sp, sc, hv1, h0.sc, h0.sn.bl hb1⟩, hr1, by rw [hV]; exact Nat.le_refl _, hR, h0.ne⟩, by cases l <;> rfl, by cases l <;> exact Nat.le_refl _, by cases l <;> exact Nat.le_refl _⟩
  clear h0 hq hb1 hv1 hr1
  have hmf : ∀ (fn : Fn) (first cap : Array Value) (w : World), (Instr.makeFunc fn first cap).run Tryz.prog w = .ok (.func fn first cap) w := fun _ _ _ _ => rfl
  go_enter Tryz.func44, Tryz.ntmps44
  go_upto_region 1 with fail
  rw [← hw1, ← hV, ← hR]
  clear hw1 hV hR
  go_upto_region 3 with fail
  go_loopw [23] (fun i wr => ∃ (j : Nat) (names' seen' : List (List UInt8)) (kn' : Nat), j ≤ n ∧ i = .int .i64 (j : Int) ∧ Hid (T1 l tb nb V R earl names seen ke kn w wr j names' seen' kn')) (fun i _ => n - (intOf i).toNat)
  case atStart => exact ⟨0, names, seen, kn, by omega, rfl, H1.out⟩
  case round =>
    clear H1
    obtain ⟨j, names', seen', kn', hj, rfl, HB⟩ := hrel
    by_cases hjn : j < n
    · obtain ⟨x, d, s, e1, e2, e3, e4, cs2, e5, e6⟩ := H0.out.rep.at j (by rw [← H0.out.n]; exact hjn)
      subst e3
      have hBL : Below B w wr := gp_below HB.out.c.gp H0.out.bn H0.out.bw
      obtain ⟨X, hX, _, g0', g⟩ := lie_at (lie_low H0.out.lie hBL) j x e1
      subst hX
      have g0 : wr.cell? (X.add (j * 13)) = some (.int .i64 (x.d.kd : Int)) := g0'
      clear g0'
      have g1 := g 1 _ rfl
      have g2 := g 2 _ rfl
      have g3 := g 3 _ rfl
      have g4 := g 4 _ rfl
      have g5 := g 5 _ rfl
      have g6 := g 6 _ rfl
      have g7 := g 7 _ rfl
      have g8 := g 8 _ rfl
      have g9 := g 9 _ rfl
      have g10 := g 10 _ rfl
      have g11 := g 11 _ rfl
      have g12 := g 12 _ rfl
      have d1 : decide ((j : Int) < (n : Int)) = true := decide_eq_true (by omega)
      have i0 : (0 : Int) ≤ (j : Int) := by omega
      have i1 : (j : Int) < (n : Int) := by omega
      obtain ⟨w3, hw3⟩ : ∃ w3, w3 = wr.alloc (.cells (cl x).toArray 60) := ⟨_, rfl⟩
      obtain ⟨M, hM⟩ : ∃ M, M = wr.heap.size := ⟨_, rfl⟩
      have hv3 : Iv w3 M x := ⟨by rw [hw3, hM]; exact new_at _ _⟩
      have hbl3 : Bl wr w3 := by rw [hw3]; exact (Bl.refl _).alloc _
      have hkx : Kx w wr := Kx.gpB HB.out.c.gp H0.out.ns
      obtain ⟨u1, u2, u3⟩ := H0.out.wi.at j _ _ e2
      obtain ⟨v1, v2, v3, v4, v5⟩ := wd_ok u1
      have hz := zI_at e2
      obtain ⟨o1, o2⟩ := chkI_step earl e2 names' seen'
      have hts := tot_step e2
      have H3 : Hid (TC tb nb V R earl ke w w3 names' seen' kn' ∧ Iv w3 M x ∧ IsO w3 x.pc x.d.ct) := ⟨HB.out.c.bl hbl3, hv3, (e4.keep hkx).keep (Kx.bl hbl3)⟩
      have HE : Hid (l.ps[j]? = some (x.d, s) ∧ tot (l.dr j) = 1 + tot s + tot (l.dr (j + 1)) ∧ ir.Lie w (fun g => g < B) x.p x.n x.c cs2 ∧ Rep w (fun g => g < B) s cs2 ∧ 2 + szO x.d.ct + zI s ≤ zI l) := ⟨e2, hts, e5, e6, hz⟩
      clear e1 e2 e4 e5 e6 hts hkx hbl3 hv3 hz hBL
      go_upto_region 5 with fail
      change Code.wp _ _ _ _ (wr.alloc (.cells (cl x).toArray 60))
      rw [← hw3, ← hM]
      clear hw3 hM g0 g1 g2 g3 g4 g5 g6 g7 g8 g9 g10 g11 g12 g
      obtain ⟨a0, a1, a2, a3, a4, a5, a6, a7, a8, a9, a10, a11, a12⟩ := H3.out.2.1.facts
      have hMs := H3.out.2.1.lt
      by_cases h4 : x.d.kd = 4
      · obtain ⟨o3, o4⟩ := o1 h4
        obtain ⟨z1, z2, z3⟩ := u3 h4
        rw [h4] at a0
        have HT := H3
        have HR : Hid (0 < k ∧ s.len ≤ 16 ∧ WI (k - 1) s ∧ x.d.kd = 4) := ⟨z1, z2, z3, h4⟩
        have HO : Hid ((∀ p, misO seen' x.d.ct = some p → chkI earl (l.dr j) names' seen' = .error (5, p)) ∧ (misO seen' x.d.ct = none → (∀ e, chkB earl s names' seen' = .error e → chkI earl (l.dr j) names' seen' = .error e) ∧ ∀ n2, chkB earl s names' seen' = .ok n2 → chkI earl (l.dr j) names' seen' = chkI earl (l.dr (j + 1)) n2 seen')) := ⟨o3, o4⟩
        clear o1 o2 o3 o4 z1 z2 z3 u1 u2 u3 v1 v2 v3 v4 v5 h4
        obtain ⟨sp', sc', hVr, hsc, hSn⟩ := HT.out.1.vr
        have cH := has_at V seen'.reverse sp' sc' x.pc x.d.ct _ (by rw [List.length_reverse]; exact hVr) hSn HT.out.2.2 (by have := HE.out.2.2.2.2; have := H0.out.z; omega) (by rw [List.length_reverse]; have := HB.out.sl; have := H0.out.sl; omega)
        rw [misO_rev] at cH
        obtain ⟨mo, hmo⟩ : ∃ mo, mo = misO seen' x.d.ct := ⟨_, rfl⟩
        rw [← hmo] at cH
        have HMO : Hid (mo = misO seen' x.d.ct) := hmo
        clear hVr hsc hSn hmo
        go_wp2_with fail
        refine cH.mono ?_
        rintro e w6 ⟨rfl, hb6⟩
        clear cH a0 a1 a2 a3 a4 a5 a6 a7 a8 a9 a10 a11 a12
        have H6 : Hid (TC tb nb V R earl ke w w6 names' seen' kn' ∧ Iv w6 M x) := ⟨HT.out.1.bl hb6, HT.out.2.1.bl hb6⟩
        cases mo with
        | some p0 =>
          have cI := Is_at 5 (p0 : Int)
          rw [show hasV (some p0) = .agg #[.int .i64 5, .int .i64 (p0 : Int)] from rfl]
          clear hb6
          go_wp2_with fail
          refine (cI _).mono ?_
          rintro e w7 ⟨rfl, hb7⟩
          obtain ⟨c0, c1, hb67, hs7⟩ := fl_cl hb7
          have H7 : Hid (TC tb nb V R earl ke w w7 names' seen' _) := H6.out.1.bl hb67
          clear hb7 hb67 cI
          obtain ⟨hset, hfin⟩ := TC.err (K := (kn + tot l)) (q := q) H7.out (c := 5) (p := p0) (by rw [HQ.out]; exact chkB_err (HB.out.eq.trans (HO.out.1 _ HMO.out.symm)))
          have r0 := (H7.out).r.c0
          have r1 := (H7.out).r.c1
          have y0 := (H7.out).r.z0 0
          have y1 := (H7.out).r.z0 1
          have hRs := (H7.out).r.lt
          have HFIN : Hid (_ ∧ _) := ⟨hset, hfin⟩
          clear hset hfin
          go_wp2
          exact bodyPost_ret (v := flt 5 (p0 : Int)) (results_cell_row rfl _ _ R 30 #[.int .i64 5, .int .i64 (p0 : Int)] (0, 0) _ rfl HFIN.out.1 Tryz.underlying30 rfl infoF) rfl HFIN.out.2
        | none =>
          have cI := Is_at 0 (-1)
          rw [show hasV none = .agg #[.int .i64 0, .int .i64 (-1)] from rfl]
          clear hb6
          go_wp2_with fail
          refine (cI _).mono ?_
          rintro e w7 ⟨rfl, hb7⟩
          obtain ⟨c0, c1, hb67, hs7⟩ := fl_cl hb7
          have H7 : Hid (TC tb nb V R earl ke w w7 names' seen' _ ∧ Iv w7 M x) := ⟨H6.out.1.bl hb67, H6.out.2.bl hb67⟩
          obtain ⟨a0, a1, a2, a3, a4, a5, a6, a7, a8, a9, a10, a11, a12⟩ := H7.out.2.facts
          have hMs := H7.out.2.lt
          clear hb7 hb67 cI
          rw [HR.out.2.2.2] at a0
          obtain ⟨o5, o6⟩ := HO.out.2 HMO.out.symm
          obtain ⟨sp', sc', hVr, hsc, hSn⟩ := H7.out.1.vr
          have hen : x.n = s.len := by rw [HE.out.2.2.1.1]; exact HE.out.2.2.2.1.len.1
          have hBL7 : Below B w w7 := gp_below H7.out.1.gp H0.out.bn H0.out.bw
          have cR := hrec (k - 1) (by have := HR.out.1; omega) s B tb nb earl names' seen' ke kn' x.n x.p x.c sp' sc' cs2 w7
            ⟨HR.out.2.2.1, HR.out.2.1, by have := HE.out.2.2.2.2; have := H0.out.z; omega, H7.out.1.ts, H7.out.1.ns, hSn, hsc, H0.out.bn, Nat.le_trans H0.out.bw hBL7.size, H7.out.1.ne, by have h1 := HB.out.kn; have h2 := HE.out.2.1; have h3 := H0.out.kn; omega, by have h1 := HB.out.sl; have h2 := HE.out.2.1; have h3 := H0.out.sl; omega, lie_low HE.out.2.2.1 hBL7, HE.out.2.2.2.1.low hBL7 (Kx.gpB H7.out.1.gp H0.out.ns), hen⟩
          have v0 := hVr.cell
          have hVs := hVr.lt
          have HO2 : Hid ((∀ e, chkB earl s names' seen' = .error e → chkI earl (l.dr j) names' seen' = .error e) ∧ ∀ n2, chkB earl s names' seen' = .ok n2 → chkI earl (l.dr j) names' seen' = chkI earl (l.dr (j + 1)) n2 seen') := ⟨o5, o6⟩
          clear o5 o6 hVr hsc hSn hen hBL7
          go_wp2_with fail
          refine cR.mono ?_
          rintro e w8 ⟨hg8, hans⟩
          clear cR v0 hVs a0 a1 a2 a3 a4 a5 a6 a7 a8 a9 a10 a11 a12 c0 c1
          have hM8 : Iv w8 M x := H7.out.2.gp hg8 (fun e => by
            obtain ⟨es, clock, hb⟩ := H7.out.1.ns.block
            have := H7.out.2.h
            rw [e, hb] at this
            cases this)
          cases hcB : chkB earl s names' seen' with
          | error cp =>
            obtain ⟨cc, pp⟩ := cp
            have hne := chkB_ne0 hcB
            rw [hcB] at hans
            obtain rfl := hans
            have cI := Is_at cc (pp : Int)
            have hc0 : (cc == 0) = false := by rw [beq_eq_false_iff_ne]; exact hne
            unfold flt
            go_wp2_with fail
            refine (cI _).mono ?_
            rintro e w9 ⟨rfl, hb9⟩
            obtain ⟨c0, c1, hb89, hs9⟩ := fl_cl hb9
            obtain ⟨spz, scz, hVz, hscz, hSz⟩ := H7.out.1.vr
            have H9 : Hid (Rs w9 R 0 0 ∧ Gp nb w w9 ∧ w.heap.size ≤ R ∧ q = .error (cc, pp)) := ⟨(H7.out.1.r.gp hg8 H7.out.1.ns).bl hb89, (H7.out.1.gp.trans hg8).trans (Gp.bl hb89), by have := H7.out.1.v; have := H7.out.1.rv; omega, by rw [HQ.out]; exact chkB_err (HB.out.eq.trans (HO2.out.1 _ hcB))⟩
            have r0 := H9.out.1.c0
            have r1 := H9.out.1.c1
            have y0 := H9.out.1.z0 0
            have y1 := H9.out.1.z0 1
            have hRs := H9.out.1.lt
            clear hb9 hb89 cI hg8 hM8 hVz hscz hSz hcB hne
            go_wp2
            exact bodyPost_ret (v := flt cc (pp : Int)) (results_cell_row rfl _ _ R 30 #[.int .i64 cc, .int .i64 (pp : Int)] (0, 0) _ rfl (H9.out.1.set _ _) Tryz.underlying30 rfl infoF) rfl (DoneR.of_err H9.out.2.2.2 ((H9.out.2.1.setNew H9.out.2.2.1 _).setNew H9.out.2.2.1 _))
          | ok n2 =>
            rw [hcB] at hans
            obtain ⟨rfl, hn8⟩ := hans
            have cI := Is_at 0 (-1)
            unfold flt
            go_wp2_with fail
            refine (cI _).mono ?_
            rintro e w9 ⟨rfl, hb9⟩
            obtain ⟨c0, c1, hb89, hs9⟩ := fl_cl hb9
            have H9 : Hid (T1 l tb nb V R earl names seen ke kn w w9 (j + 1) n2 seen' (kn' + tot s)) := ⟨(H7.out.1.go hg8 hn8).bl hb89, HB.out.eq.trans (HO2.out.2 _ hcB), by have h1 := HB.out.kn; have h2 := HE.out.2.1; omega, by have h1 := HB.out.sl; have h2 := HE.out.2.1; omega⟩
            have hM9 := hM8.bl hb89
            obtain ⟨a0, a1, a2, a3, a4, a5, a6, a7, a8, a9, a10, a11, a12⟩ := hM9.facts
            rw [HR.out.2.2.2] at a0
            have hMs9 := hM9.lt
            clear hb9 hb89 cI hg8 hM8 hM9 hn8 hcB
            go_wp2
            go_roundw
            case rel => exact ⟨j + 1, n2, seen', _, by omega, by go_num, H9.out⟩
            case measure => simp [intOf]; omega
      · obtain ⟨o3, o4⟩ := o2 h4
        have h4' : ¬ ((x.d.kd : Int) = 4) := by omega
        have k4 : ((x.d.kd : Int) != 4) = true := by rw [bne_iff_ne]; exact h4'
        have hlk := H3.out.1.ns.look x.d.nm v2
        obtain ⟨i1', i2'⟩ := itemW_ways earl names' seen' x.d
        have HO : Hid ((∀ e, itemW earl names' seen' x.d = some e → chkI earl (l.dr j) names' seen' = .error e) ∧ (itemW earl names' seen' x.d = none → chkI earl (l.dr j) names' seen' = chkI earl (l.dr (j + 1)) (x.d.nm :: names') (seenN seen' x.d))) := ⟨o3, o4⟩
        clear o1 o2 o3 o4 u1 u2 u3 v1 v4 v5
        by_cases hin : x.d.nm ∈ names'
        · rw [decide_eq_true hin] at hlk
          have hiw := i1' hin
          obtain ⟨hset, hfin⟩ := TC.err (K := (kn + tot l)) (q := q) H3.out.1 (c := 9) (p := x.d.at_) (by rw [HQ.out]; exact chkB_err (HB.out.eq.trans (HO.out.1 _ hiw)))
          have r0 := (H3.out.1).r.c0
          have r1 := (H3.out.1).r.c1
          have y0 := (H3.out.1).r.z0 0
          have y1 := (H3.out.1).r.z0 1
          have hRs := (H3.out.1).r.lt
          have HFIN : Hid (_ ∧ _) := ⟨hset, hfin⟩
          clear hset hfin
          go_wp2
          exact bodyPost_ret (v := flt 9 (x.d.at_ : Int)) (results_cell_row rfl _ _ R 30 #[.int .i64 9, .int .i64 (x.d.at_ : Int)] (0, 0) _ rfl HFIN.out.1 Tryz.underlying30 rfl infoF) rfl HFIN.out.2
        · rw [decide_eq_false hin] at hlk
          obtain ⟨i3, i4⟩ := i2' hin
          obtain ⟨w5, hw5, hn5, hg5⟩ := H3.out.1.ns.put x.d.nm v2 (by have := HB.out.kn; have := H0.out.kn; omega)
          have hgp5 := grown_gp hg5
          have H5 : Hid (TC tb nb V R earl ke w w5 (x.d.nm :: names') seen' (kn' + 1) ∧ Iv w5 M x ∧ IsO w5 x.pc x.d.ct) := ⟨H3.out.1.go hgp5 hn5, H3.out.2.1.gp hgp5 (fun e => by
              obtain ⟨es, clock, hb⟩ := H3.out.1.ns.block
              have := H3.out.2.1.h
              rw [e, hb] at this
              cases this), H3.out.2.2.keep (Kx.gpB hgp5 H3.out.1.ns)⟩
          have hlt := H5.out.1.ts.look x.d.ty v3
          have HI : Hid ((x.d.kd = 3 ∧ x.d.ty ∉ earl → itemW earl names' seen' x.d = some (7, x.d.at_)) ∧ (¬ (x.d.kd = 3 ∧ x.d.ty ∉ earl) → (∀ p, misO seen' x.d.ct = some p → itemW earl names' seen' x.d = some (5, p)) ∧ (misO seen' x.d.ct = none → itemW earl names' seen' x.d = none))) := ⟨i3, i4⟩
          clear i1' i2' i3 i4 hin hn5 hg5 hgp5 v2 v3
          obtain ⟨b0, b1, b2, b3, b4, b5, b6, b7, b8, b9, b10, b11, b12⟩ := H5.out.2.1.facts
          have hMs5 := H5.out.2.1.lt
          have HT := H5
          by_cases h3 : x.d.kd = 3
          · by_cases hty : x.d.ty ∈ earl
            · rw [decide_eq_true hty] at hlt
              rw [h3] at a0 b0
              have HW : Hid ((∀ p, misO seen' x.d.ct = some p → itemW earl names' seen' x.d = some (5, p)) ∧ (misO seen' x.d.ct = none → itemW earl names' seen' x.d = none)) := HI.out.2 (fun hc => hc.2 hty)
              have hSN : Hid (seenN seen' x.d = seen' ∧ x.d.kd = 3) := ⟨by unfold seenN; rw [if_neg (fun hc => by omega)], h3⟩
              clear hty h4 h4' k4 h3
              obtain ⟨sp', sc', hVr, hsc, hSn⟩ := HT.out.1.vr
              have cH := has_at V seen'.reverse sp' sc' x.pc x.d.ct _ (by rw [List.length_reverse]; exact hVr) hSn HT.out.2.2 (by have := HE.out.2.2.2.2; have := H0.out.z; omega) (by rw [List.length_reverse]; have := HB.out.sl; have := H0.out.sl; omega)
              rw [misO_rev] at cH
              obtain ⟨mo, hmo⟩ : ∃ mo, mo = misO seen' x.d.ct := ⟨_, rfl⟩
              rw [← hmo] at cH
              have HMO : Hid (mo = misO seen' x.d.ct) := hmo
              clear hVr hsc hSn hmo
              go_wp2_with fail
              refine cH.mono ?_
              rintro e w6 ⟨rfl, hb6⟩
              clear cH a0 a1 a2 a3 a4 a5 a6 a7 a8 a9 a10 a11 a12 b0 b1 b2 b3 b4 b5 b6 b7 b8 b9 b10 b11 b12 hlk hw5 hlt
              have H6 : Hid (TC tb nb V R earl ke w w6 (x.d.nm :: names') seen' (kn' + 1) ∧ Iv w6 M x) := ⟨HT.out.1.bl hb6, HT.out.2.1.bl hb6⟩
              cases mo with
              | some p0 =>
                have cI := Is_at 5 (p0 : Int)
                rw [show hasV (some p0) = .agg #[.int .i64 5, .int .i64 (p0 : Int)] from rfl]
                clear hb6
                go_wp2_with fail
                refine (cI _).mono ?_
                rintro e w7 ⟨rfl, hb7⟩
                obtain ⟨c0, c1, hb67, hs7⟩ := fl_cl hb7
                have H7 : Hid (TC tb nb V R earl ke w w7 (x.d.nm :: names') seen' _) := H6.out.1.bl hb67
                clear hb7 hb67 cI
                obtain ⟨hset, hfin⟩ := TC.err (K := (kn + tot l)) (q := q) H7.out (c := 5) (p := p0) (by rw [HQ.out]; exact chkB_err (HB.out.eq.trans (HO.out.1 _ (HW.out.1 _ HMO.out.symm))))
                have r0 := (H7.out).r.c0
                have r1 := (H7.out).r.c1
                have y0 := (H7.out).r.z0 0
                have y1 := (H7.out).r.z0 1
                have hRs := (H7.out).r.lt
                have HFIN : Hid (_ ∧ _) := ⟨hset, hfin⟩
                clear hset hfin
                go_wp2
                exact bodyPost_ret (v := flt 5 (p0 : Int)) (results_cell_row rfl _ _ R 30 #[.int .i64 5, .int .i64 (p0 : Int)] (0, 0) _ rfl HFIN.out.1 Tryz.underlying30 rfl infoF) rfl HFIN.out.2
              | none =>
                have cI := Is_at 0 (-1)
                rw [show hasV none = .agg #[.int .i64 0, .int .i64 (-1)] from rfl]
                clear hb6
                go_wp2_with fail
                refine (cI _).mono ?_
                rintro e w7 ⟨rfl, hb7⟩
                obtain ⟨c0, c1, hb67, hs7⟩ := fl_cl hb7
                have H7 : Hid (TC tb nb V R earl ke w w7 (x.d.nm :: names') seen' _ ∧ Iv w7 M x) := ⟨H6.out.1.bl hb67, H6.out.2.bl hb67⟩
                obtain ⟨a0, a1, a2, a3, a4, a5, a6, a7, a8, a9, a10, a11, a12⟩ := H7.out.2.facts
                have hMs := H7.out.2.lt
                clear hb7 hb67 cI
                rw [hSN.out.2] at a0
                have H9 : Hid (T1 l tb nb V R earl names seen ke kn w w7 (j + 1) (x.d.nm :: names') seen' (kn' + 1)) := ⟨H7.out.1, HB.out.eq.trans (by rw [HO.out.2 (HW.out.2 HMO.out.symm), hSN.out.1]), by have h1 := HB.out.kn; have h2 := HE.out.2.1; omega, by have h1 := HB.out.sl; have h2 := HE.out.2.1; omega⟩
                go_wp2
                go_roundw
                case rel => exact ⟨j + 1, x.d.nm :: names', seen', _, by omega, by go_num, H9.out⟩
                case measure => simp [intOf]; omega
            · rw [decide_eq_false hty] at hlt
              have hiw := HI.out.1 ⟨h3, hty⟩
              rw [h3] at a0 b0
              clear h4 h4' k4 h3 hty
              obtain ⟨hset, hfin⟩ := TC.err (K := (kn + tot l)) (q := q) H5.out.1 (c := 7) (p := x.d.at_) (by rw [HQ.out]; exact chkB_err (HB.out.eq.trans (HO.out.1 _ hiw)))
              have r0 := (H5.out.1).r.c0
              have r1 := (H5.out.1).r.c1
              have y0 := (H5.out.1).r.z0 0
              have y1 := (H5.out.1).r.z0 1
              have hRs := (H5.out.1).r.lt
              have HFIN : Hid (_ ∧ _) := ⟨hset, hfin⟩
              clear hset hfin
              go_wp2
              exact bodyPost_ret (v := flt 7 (x.d.at_ : Int)) (results_cell_row rfl _ _ R 30 #[.int .i64 7, .int .i64 (x.d.at_ : Int)] (0, 0) _ rfl HFIN.out.1 Tryz.underlying30 rfl infoF) rfl HFIN.out.2
          · have h3' : ¬ ((x.d.kd : Int) = 3) := by omega
            have HW : Hid ((∀ p, misO seen' x.d.ct = some p → itemW earl names' seen' x.d = some (5, p)) ∧ (misO seen' x.d.ct = none → itemW earl names' seen' x.d = none)) := HI.out.2 (fun hc => h3 hc.1)
            have HK : Hid (x.d.kd ≠ 4 ∧ x.d.kd ≠ 3) := ⟨h4, h3⟩
            clear h4 h3
            obtain ⟨sp', sc', hVr, hsc, hSn⟩ := HT.out.1.vr
            have cH := has_at V seen'.reverse sp' sc' x.pc x.d.ct _ (by rw [List.length_reverse]; exact hVr) hSn HT.out.2.2 (by have := HE.out.2.2.2.2; have := H0.out.z; omega) (by rw [List.length_reverse]; have := HB.out.sl; have := H0.out.sl; omega)
            rw [misO_rev] at cH
            obtain ⟨mo, hmo⟩ : ∃ mo, mo = misO seen' x.d.ct := ⟨_, rfl⟩
            rw [← hmo] at cH
            have HMO : Hid (mo = misO seen' x.d.ct) := hmo
            clear hVr hsc hSn hmo
            go_wp2_with fail
            refine cH.mono ?_
            rintro e w6 ⟨rfl, hb6⟩
            clear cH a0 a1 a2 a3 a4 a5 a6 a7 a8 a9 a10 a11 a12 b0 b1 b2 b3 b4 b5 b6 b7 b8 b9 b10 b11 b12 hlk hw5 hlt
            have H6 : Hid (TC tb nb V R earl ke w w6 (x.d.nm :: names') seen' (kn' + 1) ∧ Iv w6 M x) := ⟨HT.out.1.bl hb6, HT.out.2.1.bl hb6⟩
            cases mo with
            | some p0 =>
              have cI := Is_at 5 (p0 : Int)
              rw [show hasV (some p0) = .agg #[.int .i64 5, .int .i64 (p0 : Int)] from rfl]
              clear hb6
              go_wp2_with fail
              refine (cI _).mono ?_
              rintro e w7 ⟨rfl, hb7⟩
              obtain ⟨c0, c1, hb67, hs7⟩ := fl_cl hb7
              have H7 : Hid (TC tb nb V R earl ke w w7 (x.d.nm :: names') seen' _) := H6.out.1.bl hb67
              clear hb7 hb67 cI
              obtain ⟨hset, hfin⟩ := TC.err (K := (kn + tot l)) (q := q) H7.out (c := 5) (p := p0) (by rw [HQ.out]; exact chkB_err (HB.out.eq.trans (HO.out.1 _ (HW.out.1 _ HMO.out.symm))))
              have r0 := (H7.out).r.c0
              have r1 := (H7.out).r.c1
              have y0 := (H7.out).r.z0 0
              have y1 := (H7.out).r.z0 1
              have hRs := (H7.out).r.lt
              have HFIN : Hid (_ ∧ _) := ⟨hset, hfin⟩
              clear hset hfin
              go_wp2
              exact bodyPost_ret (v := flt 5 (p0 : Int)) (results_cell_row rfl _ _ R 30 #[.int .i64 5, .int .i64 (p0 : Int)] (0, 0) _ rfl HFIN.out.1 Tryz.underlying30 rfl infoF) rfl HFIN.out.2
            | none =>
              have cI := Is_at 0 (-1)
              rw [show hasV none = .agg #[.int .i64 0, .int .i64 (-1)] from rfl]
              clear hb6
              go_wp2_with fail
              refine (cI _).mono ?_
              rintro e w7 ⟨rfl, hb7⟩
              obtain ⟨c0, c1, hb67, hs7⟩ := fl_cl hb7
              have H7 : Hid (TC tb nb V R earl ke w w7 (x.d.nm :: names') seen' _ ∧ Iv w7 M x) := ⟨H6.out.1.bl hb67, H6.out.2.bl hb67⟩
              obtain ⟨a0, a1, a2, a3, a4, a5, a6, a7, a8, a9, a10, a11, a12⟩ := H7.out.2.facts
              have hMs := H7.out.2.lt
              clear hb7 hb67 cI
              clear c0 c1
              by_cases h1 : x.d.kd = 1
              · rw [h1] at a0
                cases hm : x.d.mn with
                | true =>
                  rw [hm] at a7
                  have hSN : Hid (seenN seen' x.d = seen') := by show seenN seen' x.d = seen'; unfold seenN; rw [if_neg (fun hc => by rw [hm] at hc; cases hc.2)]
                  have H9 : Hid (T1 l tb nb V R earl names seen ke kn w w7 (j + 1) (x.d.nm :: names') seen' (kn' + 1)) := ⟨H7.out.1, HB.out.eq.trans (by rw [HO.out.2 (HW.out.2 HMO.out.symm), hSN.out]), by have h1 := HB.out.kn; have h2 := HE.out.2.1; omega, by have h1 := HB.out.sl; have h2 := HE.out.2.1; omega⟩
                  clear hm h1 h4' h3'
                  go_wp2
                  go_roundw
                  case rel => exact ⟨j + 1, x.d.nm :: names', seen', _, by omega, by go_num, H9.out⟩
                  case measure => simp [intOf]; omega
                | false =>
                  rw [hm] at a7
                  have hSN : Hid (seenN seen' x.d = x.d.nm :: seen') := by show seenN seen' x.d = _; unfold seenN; rw [if_pos ⟨h1, hm⟩]
                  obtain ⟨sp', sc', hVr, hsc, hSn⟩ := H7.out.1.vr
                  have hsl : seen'.length ≤ 5000 := by have := HB.out.sl; have := H0.out.sl; omega
                  obtain ⟨m, hmm⟩ : ∃ m, m = seen'.length := ⟨_, rfl⟩
                  rw [← hmm] at hVr hsc hsl
                  have v0 := hVr.cell
                  have v1 := hVr.frozen
                  have HMV : Hid (M ≠ V) := fun e => by
                    have h1 := H7.out.2.h
                    unfold Vr at hVr
                    rw [e, hVr] at h1
                    simp [tm.cl] at h1
                  have hVs := hVr.lt
                  obtain ⟨SN, hSNe⟩ : ∃ SN, SN = tx x.d.nm := ⟨_, rfl⟩
                  have hbd : Bl w7 w7.drew := (Bl.refl _).drew
                  obtain ⟨wx, hwx⟩ : ∃ wx, wx = (w7.alloc (.cells #[.string SN] 9)).drew := ⟨_, rfl⟩
                  have hbx : Bl w7 wx := by rw [hwx]; exact ((Bl.refl _).alloc _).drew
                  have hcx : wx.cell? ⟨w7.heap.size, 0, none⟩ = some (.string (tx x.d.nm)) := by rw [← hSNe, hwx]; exact (cell_of (new_at w7 (.cells #[.string SN] 9)) 0).trans rfl
                  obtain ⟨g, c8, w8, hr8, hc8, hs8, hb8⟩ := (hSn.bl hbx).app w7.heap.size x.d.nm hcx (by rw [List.length_reverse]; omega)
                  rw [List.length_reverse, ← hmm] at hr8 hc8
                  rw [hwx] at hr8
                  have HA : Hid _ := hr8
                  have hb78 : Bl w7 w8 := hbx.trans hb8
                  have hV8 := hVr.step hb78
                  have u0 := hV8.cell
                  have u1 := hV8.frozen
                  have u2 : w8.cell? ⟨M, 2, none⟩ = some (.string (tx x.d.nm)) := at_bl hb78 a2
                  have hVs8 := hV8.lt
                  have H9 : Hid (T1 l tb nb V R earl names seen ke kn w (w8.setCell ⟨V, 0, none⟩ (.slice (some ⟨g, 0, none⟩) (m + 1) c8)) (j + 1) (x.d.nm :: names') (x.d.nm :: seen') (kn' + 1)) := by
                    have hT := H7.out.1.bl hb78
                    have hgv : w8.grownBy (w8.setCell ⟨V, 0, none⟩ (.slice (some ⟨g, 0, none⟩) (m + 1) c8)) (some V) := grown_set _ _ _ _
                    have hnb : ∀ b S k, SetB w8 b S k → b ≠ V := fun b S k hs e => by
                      obtain ⟨es, clock, hb⟩ := hs.block
                      have := hV8
                      unfold Vr at this
                      rw [← e, hb] at this
                      cases this
                    refine ⟨⟨hT.gp.setNew hT.v _, hT.ts.step hgv (fun e => hnb _ _ _ hT.ts (by injection e with e; exact e.symm)), hT.ns.step hgv (fun e => hnb _ _ _ hT.ns (by injection e with e; exact e.symm)), ⟨some ⟨g, 0, none⟩, c8, by rw [List.length_cons, ← hmm]; exact hV8.set _, by rw [List.length_cons, ← hmm]; exact hc8, ?_⟩, hT.r.away (by have := hT.rv; omega) _, hT.v, hT.rv, hT.ne⟩, HB.out.eq.trans (by rw [HO.out.2 (HW.out.2 HMO.out.symm), hSN.out]), by have h1 := HB.out.kn; have h2 := HE.out.2.1; omega, by rw [List.length_cons]; have h1 := HB.out.sl; have h2 := HE.out.2.1; omega⟩
                    rw [List.reverse_cons]
                    refine hs8.keep (fun g' cs' hg' => ?_)
                    rw [hgv.block g' (lt_of_heap hg') (fun e => ?_)]
                    · exact hg'
                    · injection e with e
                      have := hV8
                      unfold Vr at this
                      rw [← e, hg'] at this
                      simp at this
                  rw [← hSNe] at a2 u2
                  clear hm h1 h4' h3' hVr hmm hwx hbx hcx hr8 hc8 hs8 hb8 hV8 hbd hSNe hSn
                  go_upto_region 19 with fail
                  have u3 : (w8.setCell ⟨V, 0, none⟩ (.slice (some ⟨g, 0, none⟩) (m + 1) c8)).cell? ⟨M, 2, none⟩ = some (.string SN) := by
                    rw [World.cell?_of_block (w := w8) (a := ⟨M, 2, none⟩) ((grown_set w8 V 0 _).block M (Nat.lt_of_lt_of_le hMs hb78.size) (fun e => HMV.out (by injection e)))]
                    exact u2
                  have hMs8 : M < w8.heap.size := Nat.lt_of_lt_of_le hMs hb78.size
                  clear hb78
                  have s0 : w7.drew.cell? ⟨V, 0, none⟩ = some (.slice sp' m sc') := v0
                  have s1 : w7.drew.cell? ⟨M, 2, none⟩ = some (.string SN) := a2
                  refine wp_region_Z 10 (fun wS => wS.cell? ⟨V, 0, none⟩ = some (.slice sp' m sc') ∧ wS.cell? ⟨M, 2, none⟩ = some (.string SN)) (by kernel_rfl) ?_
                  refine wpZ_take (i := 0) (oi := _) (v := (.slice sp' m sc')) rfl (by kernel_rfl) (by kernel_rfl) (by kernel_rfl) (by kernel_rfl) (fun _ _ _ h => h) ⟨s0, s1⟩ (Or.inl ⟨by rfl, fun wS hW => ?_⟩) ?_
                  · dsimp only at hW
                    obtain ⟨hW0, hW1⟩ := hW
                    go_simp
                  simp only [Act.put, List.setIfInBounds_toArray, List.set_cons_zero, List.set_cons_succ]
                  refine wpZ_take (i := 1) (oi := _) (v := (.slice sp' m sc')) rfl (by kernel_rfl) (by kernel_rfl) (by kernel_rfl) (by kernel_rfl) (fun _ _ _ h => h) ⟨s0, s1⟩ (Or.inl ⟨by rfl, fun wS hW => ?_⟩) ?_
                  · dsimp only at hW
                    obtain ⟨hW0, hW1⟩ := hW
                    go_simp
                  simp only [Act.put, List.setIfInBounds_toArray, List.set_cons_zero, List.set_cons_succ]
                  refine wpZ_take (i := 2) (oi := _) (v := (.int .i64 (m : Int))) rfl (by kernel_rfl) (by kernel_rfl) (by kernel_rfl) (by kernel_rfl) (fun _ _ _ h => h) ⟨s0, s1⟩ (Or.inl ⟨by rfl, fun wS hW => ?_⟩) ?_
                  · dsimp only at hW
                    obtain ⟨hW0, hW1⟩ := hW
                    go_simp
                  simp only [Act.put, List.setIfInBounds_toArray, List.set_cons_zero, List.set_cons_succ]
                  refine wpZ_take (i := 3) (oi := _) (v := (.slice sp' m sc')) rfl (by kernel_rfl) (by kernel_rfl) (by kernel_rfl) (by kernel_rfl) (fun _ _ _ h => h) ⟨s0, s1⟩ (Or.inl ⟨by rfl, fun wS hW => ?_⟩) ?_
                  · dsimp only at hW
                    obtain ⟨hW0, hW1⟩ := hW
                    go_simp
                  simp only [Act.put, List.setIfInBounds_toArray, List.set_cons_zero, List.set_cons_succ]
                  refine wpZ_take (i := 4) (oi := _) (v := (.int .i64 (m : Int))) rfl (by kernel_rfl) (by kernel_rfl) (by kernel_rfl) (by kernel_rfl) (fun _ _ _ h => h) ⟨s0, s1⟩ (Or.inl ⟨by rfl, fun wS hW => ?_⟩) ?_
                  · dsimp only at hW
                    obtain ⟨hW0, hW1⟩ := hW
                    go_simp
                  simp only [Act.put, List.setIfInBounds_toArray, List.set_cons_zero, List.set_cons_succ]
                  refine wpZ_take (i := 5) (oi := _) (v := (.slice sp' m m)) rfl (by kernel_rfl) (by kernel_rfl) (by kernel_rfl) (by kernel_rfl) (fun _ _ _ h => h) ⟨s0, s1⟩ (Or.inl ⟨by rfl, fun wS hW => ?_⟩) ?_
                  · dsimp only at hW
                    obtain ⟨hW0, hW1⟩ := hW
                    go_simp
                  simp only [Act.put, List.setIfInBounds_toArray, List.set_cons_zero, List.set_cons_succ]
                  refine wpZ_take (i := 6) (oi := _) (v := (.pointer (some ⟨M, 2, none⟩))) rfl (by kernel_rfl) (by kernel_rfl) (by kernel_rfl) (by kernel_rfl) (fun _ _ _ h => h) ⟨s0, s1⟩ (Or.inl ⟨by rfl, fun wS hW => ?_⟩) ?_
                  · dsimp only at hW
                    obtain ⟨hW0, hW1⟩ := hW
                    go_simp
                  simp only [Act.put, List.setIfInBounds_toArray, List.set_cons_zero, List.set_cons_succ]
                  refine wpZ_take (i := 7) (oi := _) (v := (.string SN)) rfl (by kernel_rfl) (by kernel_rfl) (by kernel_rfl) (by kernel_rfl) (fun _ _ _ h => h) ⟨s0, s1⟩ (Or.inl ⟨by rfl, fun wS hW => ?_⟩) ?_
                  · dsimp only at hW
                    obtain ⟨hW0, hW1⟩ := hW
                    go_simp
                  simp only [Act.put, List.setIfInBounds_toArray, List.set_cons_zero, List.set_cons_succ]
                  refine wpZ_one (i := 8) (o := _) (by kernel_rfl) rfl (fun K hK => ?_)
                  go_simp
                  refine hK.out _ _ (fun _ => ⟨?_, ?_⟩) ?_
                  · first | assumption | exact at_bl ((Bl.refl _).alloc _) (by assumption)
                  · first | assumption | exact at_bl ((Bl.refl _).alloc _) (by assumption)
                  clear hK K
                  try simp only [Act.put, List.setIfInBounds_toArray, List.set_cons_zero, List.set_cons_succ]
                  refine wpZ_one (i := 9) (o := _) (by kernel_rfl) rfl (fun K hK => ?_)
                  refine step_append_run rfl (.tmp 87) (.tmp 90) 148 148 rfl (.slice sp' m m) (.slice (some ⟨w7.heap.size, 0, none⟩) 1 1) rfl rfl (.slice (some ⟨g, 0, none⟩) (m + 1) c8) w8 ?hr ?_
                  case hr => first | with_reducible exact HA.out | exact HA.out
                  refine hK.out _ _ (fun _ => ⟨u0, u2⟩) ?_
                  clear hK K
                  try simp only [Act.put, List.setIfInBounds_toArray, List.set_cons_zero, List.set_cons_succ]
                  refine wpZ_one (i := 10) (o := _) (by kernel_rfl) rfl (fun K hK => ?_)
                  go_simp
                  refine hK.out _ _ (fun h => absurd rfl h) ?_
                  clear hK K
                  try simp only [Act.put, List.setIfInBounds_toArray, List.set_cons_zero, List.set_cons_succ]
                  refine wpZ_done (by kernel_rfl) ?_ _
                  go_wp2
                  go_roundw
                  case rel => exact ⟨j + 1, x.d.nm :: names', x.d.nm :: seen', _, by omega, by go_num, H9.out⟩
                  case measure => simp [intOf]; omega
              · have h1' : ¬ ((x.d.kd : Int) = 1) := by omega
                have hSN : Hid (seenN seen' x.d = seen') := by show seenN seen' x.d = seen'; unfold seenN; rw [if_neg (fun hc => h1 hc.1)]
                have H9 : Hid (T1 l tb nb V R earl names seen ke kn w w7 (j + 1) (x.d.nm :: names') seen' (kn' + 1)) := ⟨H7.out.1, HB.out.eq.trans (by rw [HO.out.2 (HW.out.2 HMO.out.symm), hSN.out]), by have h1 := HB.out.kn; have h2 := HE.out.2.1; omega, by have h1 := HB.out.sl; have h2 := HE.out.2.1; omega⟩
                clear h1
                go_wp2
                go_roundw
                case rel => exact ⟨j + 1, x.d.nm :: names', seen', _, by omega, by go_num, H9.out⟩
                case measure => simp [intOf]; omega
    · obtain rfl : n = j := by omega
      have HN : Hid (chkI earl l names seen = .ok names' ∧ kn' ≤ kn + tot l) := by
        have h := HB.out.eq
        rw [H0.out.n, chkI_end] at h
        exact ⟨h, by have := HB.out.kn; omega⟩
      have H3 : Hid (T3 (ruleW l.ds) l tb nb V R earl ke w wr names' seen' kn' 0) := ⟨HB.out.c, rfl⟩
      clear HB hj hjn
      go_upto_region 22 with fail
      go_loopw [95] (fun i wr => ∃ (j : Nat), j ≤ n ∧ i = .int .i64 (j : Int) ∧ Hid (T3 (ruleW l.ds) l tb nb V R earl ke w wr names' seen' kn' j)) (fun i _ => n - (intOf i).toNat)
      case atStart => exact ⟨0, by omega, rfl, H3.out⟩
      case round =>
        clear H3
        obtain ⟨j, hj, rfl, HB⟩ := hrel
        by_cases hjn : j < n
        · obtain ⟨x, d, s, e1, e2, e3, e4, cs2, e5, e6⟩ := H0.out.rep.at j (by rw [← H0.out.n]; exact hjn)
          subst e3
          have hBL : Below B w wr := gp_below HB.out.c.gp H0.out.bn H0.out.bw
          obtain ⟨X, hX, _, g0', g⟩ := lie_at (lie_low H0.out.lie hBL) j x e1
          subst hX
          have g0 : wr.cell? (X.add (j * 13)) = some (.int .i64 (x.d.kd : Int)) := g0'
          clear g0'
          have g1 := g 1 _ rfl
          have g2 := g 2 _ rfl
          have g3 := g 3 _ rfl
          have g4 := g 4 _ rfl
          have g5 := g 5 _ rfl
          have g6 := g 6 _ rfl
          have g7 := g 7 _ rfl
          have g8 := g 8 _ rfl
          have g9 := g 9 _ rfl
          have g10 := g 10 _ rfl
          have g11 := g 11 _ rfl
          have g12 := g 12 _ rfl
          have d1 : decide ((j : Int) < (n : Int)) = true := decide_eq_true (by omega)
          have i0 : (0 : Int) ≤ (j : Int) := by omega
          have i1 : (j : Int) < (n : Int) := by omega
          obtain ⟨w3, hw3⟩ : ∃ w3, w3 = wr.alloc (.cells (cl x).toArray 60) := ⟨_, rfl⟩
          obtain ⟨M, hM⟩ : ∃ M, M = wr.heap.size := ⟨_, rfl⟩
          have hv3 : Iv w3 M x := ⟨by rw [hw3, hM]; exact new_at _ _⟩
          have hbl3 : Bl wr w3 := by rw [hw3]; exact (Bl.refl _).alloc _
          have hd : l.ds[j]? = some x.d := by rw [← ps_ds, List.getElem?_map, e2]; rfl
          have hds : cs.map C.d = l.ds := H0.out.rep.len.2
          have hWD := (H0.out.wi.at j _ _ e2).1
          have hOk := okr_of H0.out.wi H0.out.rep
          have hls := lie_low H0.out.lie (gp_below (HB.out.c.bl hbl3).gp H0.out.bn H0.out.bw)
          have hnc : n = cs.length := hls.1
          have H3 : Hid (TC tb nb V R earl ke w w3 names' seen' kn' ∧ l.ds[j]? = some x.d ∧ Iv w3 M x ∧ Bl wr w3) := ⟨HB.out.c.bl hbl3, hd, hv3, hbl3⟩
          have hMs := hv3.lt
          obtain ⟨a0, a1, a2, a3, a4, a5, a6, a7, a8, a9, a10, a11, a12⟩ := hv3.facts
          by_cases r0 : x.d.ru = 0
          · have H5 : Hid (T3 (ruleW l.ds) l tb nb V R earl ke w w3 names' seen' kn' (j + 1)) := HB.out.on hbl3 hd (by unfold ruleW; rw [if_pos r0])
            rw [r0] at a9
            clear e1 e2 e4 e5 e6 hd hbl3 hv3 hls hds r0 hBL hWD hOk hnc
            go_upto_region 24 with fail
            change Code.wp _ _ _ _ (wr.alloc (.cells (cl x).toArray 60))
            rw [← hw3, ← hM]
            clear hw3 hM g0 g1 g2 g3 g4 g5 g6 g7 g8 g9 g10 g11 g12 g
            go_wp2
            go_roundw
            case rel => exact ⟨j + 1, by omega, by go_num, H5.out⟩
            case measure => simp [intOf]; omega
          · obtain ⟨f1n, l1n⟩ := wd_ru hWD r0
            have r0' : ¬ ((x.d.ru : Int) = 0) := by omega
            obtain ⟨ea, hea⟩ : ∃ ea, ea = nmd l.ds x.d.f1 := ⟨_, rfl⟩
            have cE := which_at x.d.f1 cs _ (some X) n c w3 hls (by omega) f1n hOk.nm
            rw [hds, ← hea] at cE
            have HL : Hid (ir.Lie w3 (fun g => g < B) (some X) n c cs ∧ cs.map C.d = l.ds ∧ n = cs.length ∧ (∀ x ∈ cs, x.d.kd = 4 → x.d.nm = []) ∧ x.d.ru ≠ 0) := ⟨hls, hds, hnc, hOk.nm, r0⟩
            have HEA : Hid (ea = nmd l.ds x.d.f1 ∧ (x.d.ru = 3 → x.d.l1 ≠ [])) := ⟨hea, l1n⟩
            clear e1 e2 e4 e5 e6 hd hbl3 hv3 hls hds r0 hBL hWD hOk hnc hea f1n l1n
            go_upto_region 24 with fail
            change Code.wp _ _ _ _ (wr.alloc (.cells (cl x).toArray 60))
            rw [← hw3, ← hM]
            clear hw3 hM g0 g1 g2 g3 g4 g5 g6 g7 g8 g9 g10 g11 g12 g
            go_wp2_with fail
            refine cE.mono ?_
            rintro e w4 ⟨rfl, hb4⟩
            clear cE a0 a1 a2 a3 a4 a5 a6 a7 a8 a9 a10 a11 a12
            have H4 : Hid (Bl w3 w4 ∧ Iv w4 M x) := ⟨hb4, H3.out.2.2.1.bl hb4⟩
            obtain ⟨a0, a1, a2, a3, a4, a5, a6, a7, a8, a9, a10, a11, a12⟩ := H4.out.2.facts
            have hMs4 := H4.out.2.lt
            clear hb4
            by_cases r3 : x.d.ru = 3
            · rw [r3] at a9
              obtain ⟨eb, heb⟩ : ∃ eb, eb = nmd l.ds x.d.l1 := ⟨_, rfl⟩
              have cL := which_at x.d.l1 cs _ (some X) n c w4 (lie_bl HL.out.1 H4.out.1) (by omega) (HEA.out.2 r3) HL.out.2.2.2.1
              rw [HL.out.2.1, ← heb] at cL
              have hRW := ruleW_ends (i := j) HL.out.2.2.2.2 HEA.out.1 (eb := eb) (by rw [if_pos r3]; exact heb)
              have HRU : Hid (x.d.ru = 3) := r3
              clear r3 heb
              go_wp2_with fail
              refine cL.mono ?_
              rintro e w5 ⟨rfl, hb5⟩
              clear cL a0 a1 a2 a3 a4 a5 a6 a7 a8 a9 a10 a11 a12
              have H5 : Hid (TC tb nb V R earl ke w w5 names' seen' kn' ∧ Iv w5 M x ∧ Bl wr w5) := ⟨H3.out.1.bl (H4.out.1.trans hb5), H4.out.2.bl hb5, H3.out.2.2.2.trans (H4.out.1.trans hb5)⟩
              obtain ⟨a0, a1, a2, a3, a4, a5, a6, a7, a8, a9, a10, a11, a12⟩ := H5.out.2.1.facts
              rw [HRU.out] at a9
              have hMs5 := H5.out.2.1.lt
              clear hb5
              cases ea with
              | none =>
                have hi : idx (none : Option Nat) = -1 := rfl
                rw [rw2_l] at hRW
                have hW : Hid (ruleW l.ds j x.d = some (7, x.d.at_)) := by
                  show ruleW l.ds j x.d = _
                  rw [hRW]
                clear hRW
                obtain ⟨hset, hfin⟩ := TC.err (K := (kn + tot l)) (q := q) H5.out.1 (c := 7) (p := x.d.at_) (by rw [HQ.out]; exact (chkB_is HN.out.1).1 _ (HB.out.eq.trans ((firstW_step _ _ _ _ H3.out.2.1).1 _ hW.out)))
                have r0 := (H5.out.1).r.c0
                have r1 := (H5.out.1).r.c1
                have y0 := (H5.out.1).r.z0 0
                have y1 := (H5.out.1).r.z0 1
                have hRs := (H5.out.1).r.lt
                have HFIN : Hid (_ ∧ _) := ⟨hset, hfin⟩
                clear hset hfin
                go_wp2
                exact bodyPost_ret (v := flt 7 (x.d.at_ : Int)) (results_cell_row rfl _ _ R 30 #[.int .i64 7, .int .i64 (x.d.at_ : Int)] (0, 0) _ rfl HFIN.out.1 Tryz.underlying30 rfl infoF) rfl HFIN.out.2
              | some a =>
                have hi2 : idx (some a) = (a : Int) := rfl
                have ha0 : ¬ ((a : Int) < 0) := by omega
                cases eb with
                | none =>
                  have hi : idx (none : Option Nat) = -1 := rfl
                  rw [rw2_r] at hRW
                  have hW : Hid (ruleW l.ds j x.d = some (7, x.d.at_)) := by
                    show ruleW l.ds j x.d = _
                    rw [hRW]
                  clear hRW
                  obtain ⟨hset, hfin⟩ := TC.err (K := (kn + tot l)) (q := q) H5.out.1 (c := 7) (p := x.d.at_) (by rw [HQ.out]; exact (chkB_is HN.out.1).1 _ (HB.out.eq.trans ((firstW_step _ _ _ _ H3.out.2.1).1 _ hW.out)))
                  have r0 := (H5.out.1).r.c0
                  have r1 := (H5.out.1).r.c1
                  have y0 := (H5.out.1).r.z0 0
                  have y1 := (H5.out.1).r.z0 1
                  have hRs := (H5.out.1).r.lt
                  have HFIN : Hid (_ ∧ _) := ⟨hset, hfin⟩
                  clear hset hfin
                  go_wp2
                  exact bodyPost_ret (v := flt 7 (x.d.at_ : Int)) (results_cell_row rfl _ _ R 30 #[.int .i64 7, .int .i64 (x.d.at_ : Int)] (0, 0) _ rfl HFIN.out.1 Tryz.underlying30 rfl infoF) rfl HFIN.out.2
                | some b =>
                  have hi3 : idx (some b) = (b : Int) := rfl
                  have hb0 : ¬ ((b : Int) < 0) := by omega
                  simp only [rw2] at hRW
                  by_cases hwd : x.d.wd = 4
                  · rw [hwd] at a4
                    cases hs : x.d.sg with
                    | true =>
                      rw [hs] at a6
                      have hW : Hid (ruleW l.ds j x.d = some (13, x.d.at_)) := by
                        show ruleW l.ds j x.d = _
                        rw [hRW]
                        rw [if_neg (fun hc => by have := HRU.out; omega), if_pos ⟨HRU.out, Or.inr hs⟩]
                      clear hRW
                      obtain ⟨hset, hfin⟩ := TC.err (K := (kn + tot l)) (q := q) H5.out.1 (c := 13) (p := x.d.at_) (by rw [HQ.out]; exact (chkB_is HN.out.1).1 _ (HB.out.eq.trans ((firstW_step _ _ _ _ H3.out.2.1).1 _ hW.out)))
                      have r0 := (H5.out.1).r.c0
                      have r1 := (H5.out.1).r.c1
                      have y0 := (H5.out.1).r.z0 0
                      have y1 := (H5.out.1).r.z0 1
                      have hRs := (H5.out.1).r.lt
                      have HFIN : Hid (_ ∧ _) := ⟨hset, hfin⟩
                      clear hset hfin
                      go_wp2
                      exact bodyPost_ret (v := flt 13 (x.d.at_ : Int)) (results_cell_row rfl _ _ R 30 #[.int .i64 13, .int .i64 (x.d.at_ : Int)] (0, 0) _ rfl HFIN.out.1 Tryz.underlying30 rfl infoF) rfl HFIN.out.2
                    | false =>
                      rw [hs] at a6
                      by_cases hba : b < a
                      · have hba' : (b : Int) < (a : Int) := by omega
                        have hW : Hid (ruleW l.ds j x.d = some (10, x.d.at_)) := by
                          show ruleW l.ds j x.d = _
                          rw [hRW]
                          rw [if_neg (fun hc => by have := HRU.out; omega), if_neg (fun hc => by rcases hc.2 with h | h; exact h hwd; rw [hs] at h; cases h)]
                          rw [if_pos hba]
                        clear hRW
                        obtain ⟨hset, hfin⟩ := TC.err (K := (kn + tot l)) (q := q) H5.out.1 (c := 10) (p := x.d.at_) (by rw [HQ.out]; exact (chkB_is HN.out.1).1 _ (HB.out.eq.trans ((firstW_step _ _ _ _ H3.out.2.1).1 _ hW.out)))
                        have r0 := (H5.out.1).r.c0
                        have r1 := (H5.out.1).r.c1
                        have y0 := (H5.out.1).r.z0 0
                        have y1 := (H5.out.1).r.z0 1
                        have hRs := (H5.out.1).r.lt
                        have HFIN : Hid (_ ∧ _) := ⟨hset, hfin⟩
                        clear hset hfin
                        go_wp2
                        exact bodyPost_ret (v := flt 10 (x.d.at_ : Int)) (results_cell_row rfl _ _ R 30 #[.int .i64 10, .int .i64 (x.d.at_ : Int)] (0, 0) _ rfl HFIN.out.1 Tryz.underlying30 rfl infoF) rfl HFIN.out.2
                      · have hba' : ¬ ((b : Int) < (a : Int)) := by omega
                        by_cases hai : a ≤ j ∧ j ≤ b
                        · have hwi : (decide ((a : Int) ≤ (j : Int)) && decide ((j : Int) ≤ (b : Int))) = true := by rw [decide_eq_true (by omega), decide_eq_true (by omega)]; rfl
                          have cW := within_at (j : Int) (a : Int) (b : Int)
                          rw [hwi] at cW
                          clear hwi
                          have hW : Hid (ruleW l.ds j x.d = some (6, x.d.at_)) := by
                            show ruleW l.ds j x.d = _
                            rw [hRW]
                            rw [if_neg (fun hc => by have := HRU.out; omega), if_neg (fun hc => by rcases hc.2 with h | h; exact h hwd; rw [hs] at h; cases h)]
                            rw [if_neg (by omega : ¬ b < a), if_pos hai]
                          clear hRW
                          clear hai
                          go_wp2_with fail
                          refine (cW _).mono ?_
                          rintro e w6 ⟨rfl, rfl⟩
                          clear cW
                          obtain ⟨hset, hfin⟩ := TC.err (K := (kn + tot l)) (q := q) H5.out.1 (c := 6) (p := x.d.at_) (by rw [HQ.out]; exact (chkB_is HN.out.1).1 _ (HB.out.eq.trans ((firstW_step _ _ _ _ H3.out.2.1).1 _ hW.out)))
                          have r0 := (H5.out.1).r.c0
                          have r1 := (H5.out.1).r.c1
                          have y0 := (H5.out.1).r.z0 0
                          have y1 := (H5.out.1).r.z0 1
                          have hRs := (H5.out.1).r.lt
                          have HFIN : Hid (_ ∧ _) := ⟨hset, hfin⟩
                          clear hset hfin
                          go_wp2
                          exact bodyPost_ret (v := flt 6 (x.d.at_ : Int)) (results_cell_row rfl _ _ R 30 #[.int .i64 6, .int .i64 (x.d.at_ : Int)] (0, 0) _ rfl HFIN.out.1 Tryz.underlying30 rfl infoF) rfl HFIN.out.2
                        · have hwi : (decide ((a : Int) ≤ (j : Int)) && decide ((j : Int) ≤ (b : Int))) = false := by
                            rw [Bool.eq_false_iff]
                            intro hc
                            rw [Bool.and_eq_true, decide_eq_true_eq, decide_eq_true_eq] at hc
                            exact hai ⟨by omega, by omega⟩
                          have cW := within_at (j : Int) (a : Int) (b : Int)
                          rw [hwi] at cW
                          clear hwi
                          have hW : Hid (ruleW l.ds j x.d = none) := by
                            show ruleW l.ds j x.d = _
                            rw [hRW]
                            rw [if_neg (fun hc => by have := HRU.out; omega), if_neg (fun hc => by rcases hc.2 with h | h; exact h hwd; rw [hs] at h; cases h)]
                            rw [if_neg (by omega : ¬ b < a), if_neg hai]
                          have H9 : Hid (T3 (ruleW l.ds) l tb nb V R earl ke w w5 names' seen' kn' (j + 1)) := HB.out.on H5.out.2.2 H3.out.2.1 hW.out
                          clear hRW
                          clear hai
                          go_wp2_with fail
                          refine (cW _).mono ?_
                          rintro e w6 ⟨rfl, rfl⟩
                          clear cW
                          go_wp2
                          go_roundw
                          case rel => exact ⟨j + 1, by omega, by go_num, H9.out⟩
                          case measure => simp [intOf]; omega
                  · have hwd' : ¬ ((x.d.wd : Int) = 4) := by omega
                    have hwd2 : ((x.d.wd : Int) != 4) = true := by rw [bne_iff_ne]; exact hwd'
                    have hW : Hid (ruleW l.ds j x.d = some (13, x.d.at_)) := by
                      show ruleW l.ds j x.d = _
                      rw [hRW]
                      rw [if_neg (fun hc => by have := HRU.out; omega), if_pos ⟨HRU.out, Or.inl hwd⟩]
                    clear hRW
                    obtain ⟨hset, hfin⟩ := TC.err (K := (kn + tot l)) (q := q) H5.out.1 (c := 13) (p := x.d.at_) (by rw [HQ.out]; exact (chkB_is HN.out.1).1 _ (HB.out.eq.trans ((firstW_step _ _ _ _ H3.out.2.1).1 _ hW.out)))
                    have r0 := (H5.out.1).r.c0
                    have r1 := (H5.out.1).r.c1
                    have y0 := (H5.out.1).r.z0 0
                    have y1 := (H5.out.1).r.z0 1
                    have hRs := (H5.out.1).r.lt
                    have HFIN : Hid (_ ∧ _) := ⟨hset, hfin⟩
                    clear hset hfin
                    go_wp2
                    exact bodyPost_ret (v := flt 13 (x.d.at_ : Int)) (results_cell_row rfl _ _ R 30 #[.int .i64 13, .int .i64 (x.d.at_ : Int)] (0, 0) _ rfl HFIN.out.1 Tryz.underlying30 rfl infoF) rfl HFIN.out.2
            · have r3' : ¬ ((x.d.ru : Int) = 3) := by omega
              have hRW := ruleW_ends (i := j) HL.out.2.2.2.2 HEA.out.1 (eb := ea) (by rw [if_neg r3])
              obtain ⟨w5, hw5⟩ : ∃ w5, w5 = w4 := ⟨_, rfl⟩
              have H5 : Hid (TC tb nb V R earl ke w w4 names' seen' kn' ∧ Iv w4 M x ∧ Bl wr w4) := ⟨H3.out.1.bl H4.out.1, H4.out.2, H3.out.2.2.2.trans H4.out.1⟩
              clear w5 hw5
              cases ea with
              | none =>
                have hi : idx (none : Option Nat) = -1 := rfl
                rw [rw2_l] at hRW
                clear r3
                have hW : Hid (ruleW l.ds j x.d = some (7, x.d.at_)) := by
                  show ruleW l.ds j x.d = _
                  rw [hRW]
                clear hRW
                obtain ⟨hset, hfin⟩ := TC.err (K := (kn + tot l)) (q := q) H5.out.1 (c := 7) (p := x.d.at_) (by rw [HQ.out]; exact (chkB_is HN.out.1).1 _ (HB.out.eq.trans ((firstW_step _ _ _ _ H3.out.2.1).1 _ hW.out)))
                have r0 := (H5.out.1).r.c0
                have r1 := (H5.out.1).r.c1
                have y0 := (H5.out.1).r.z0 0
                have y1 := (H5.out.1).r.z0 1
                have hRs := (H5.out.1).r.lt
                have HFIN : Hid (_ ∧ _) := ⟨hset, hfin⟩
                clear hset hfin
                go_wp2
                exact bodyPost_ret (v := flt 7 (x.d.at_ : Int)) (results_cell_row rfl _ _ R 30 #[.int .i64 7, .int .i64 (x.d.at_ : Int)] (0, 0) _ rfl HFIN.out.1 Tryz.underlying30 rfl infoF) rfl HFIN.out.2
              | some a =>
                have hi2 : idx (some a) = (a : Int) := rfl
                have ha0 : ¬ ((a : Int) < 0) := by omega
                simp only [rw2] at hRW
                by_cases r2 : x.d.ru = 2
                · have hal : a < n := by
                    have := nmd_lt HEA.out.1.symm
                    rw [← HL.out.2.1, List.length_map, ← HL.out.2.2.1] at this
                    exact this
                  have ha1 : (0 : Int) ≤ (a : Int) := by omega
                  have ha2 : (a : Int) < (n : Int) := by omega
                  obtain ⟨y, hy⟩ : ∃ y, cs[a]? = some y := ⟨_, List.getElem?_eq_getElem (by have := HL.out.2.2.1; omega)⟩
                  obtain ⟨Y, hY, _, _, gy⟩ := lie_at (lie_bl HL.out.1 H4.out.1) a y hy
                  injection hY with hY
                  subst hY
                  have y7 := gy 7 _ rfl
                  have HY : Hid ((l.ds[a]?.map (·.mn)) = some y.d.mn) := by
                    show (l.ds[a]?.map (·.mn)) = some y.d.mn
                    rw [← HL.out.2.1, List.getElem?_map, hy]; rfl
                  rw [r2] at a9
                  clear hy gy hal
                  cases hm : y.d.mn with
                  | false =>
                    rw [hm] at y7
                    have hW : Hid (ruleW l.ds j x.d = some (13, x.d.at_)) := by
                      show ruleW l.ds j x.d = _
                      rw [hRW]
                      rw [if_pos ⟨r2, by rw [HY.out, hm]; decide⟩]
                    clear hRW
                    obtain ⟨hset, hfin⟩ := TC.err (K := (kn + tot l)) (q := q) H5.out.1 (c := 13) (p := x.d.at_) (by rw [HQ.out]; exact (chkB_is HN.out.1).1 _ (HB.out.eq.trans ((firstW_step _ _ _ _ H3.out.2.1).1 _ hW.out)))
                    have r0 := (H5.out.1).r.c0
                    have r1 := (H5.out.1).r.c1
                    have y0 := (H5.out.1).r.z0 0
                    have y1 := (H5.out.1).r.z0 1
                    have hRs := (H5.out.1).r.lt
                    have HFIN : Hid (_ ∧ _) := ⟨hset, hfin⟩
                    clear hset hfin
                    go_wp2
                    exact bodyPost_ret (v := flt 13 (x.d.at_ : Int)) (results_cell_row rfl _ _ R 30 #[.int .i64 13, .int .i64 (x.d.at_ : Int)] (0, 0) _ rfl HFIN.out.1 Tryz.underlying30 rfl infoF) rfl HFIN.out.2
                  | true =>
                    rw [hm] at y7
                    have hba' : ¬ ((a : Int) < (a : Int)) := by omega
                    by_cases hai : a ≤ j ∧ j ≤ a
                    · have hwi : (decide ((a : Int) ≤ (j : Int)) && decide ((j : Int) ≤ (a : Int))) = true := by rw [decide_eq_true (by omega), decide_eq_true (by omega)]; rfl
                      have cW := within_at (j : Int) (a : Int) (a : Int)
                      rw [hwi] at cW
                      clear hwi
                      have hW : Hid (ruleW l.ds j x.d = some (6, x.d.at_)) := by
                        show ruleW l.ds j x.d = _
                        rw [hRW]
                        rw [if_neg (fun hc => hc.2 (by rw [HY.out, hm])), if_neg (fun hc => by omega)]
                        rw [if_neg (by omega : ¬ a < a), if_pos hai]
                      clear hRW
                      clear hai
                      go_wp2_with fail
                      refine (cW _).mono ?_
                      rintro e w6 ⟨rfl, rfl⟩
                      clear cW
                      obtain ⟨hset, hfin⟩ := TC.err (K := (kn + tot l)) (q := q) H5.out.1 (c := 6) (p := x.d.at_) (by rw [HQ.out]; exact (chkB_is HN.out.1).1 _ (HB.out.eq.trans ((firstW_step _ _ _ _ H3.out.2.1).1 _ hW.out)))
                      have r0 := (H5.out.1).r.c0
                      have r1 := (H5.out.1).r.c1
                      have y0 := (H5.out.1).r.z0 0
                      have y1 := (H5.out.1).r.z0 1
                      have hRs := (H5.out.1).r.lt
                      have HFIN : Hid (_ ∧ _) := ⟨hset, hfin⟩
                      clear hset hfin
                      go_wp2
                      exact bodyPost_ret (v := flt 6 (x.d.at_ : Int)) (results_cell_row rfl _ _ R 30 #[.int .i64 6, .int .i64 (x.d.at_ : Int)] (0, 0) _ rfl HFIN.out.1 Tryz.underlying30 rfl infoF) rfl HFIN.out.2
                    · have hwi : (decide ((a : Int) ≤ (j : Int)) && decide ((j : Int) ≤ (a : Int))) = false := by
                        rw [Bool.eq_false_iff]
                        intro hc
                        rw [Bool.and_eq_true, decide_eq_true_eq, decide_eq_true_eq] at hc
                        exact hai ⟨by omega, by omega⟩
                      have cW := within_at (j : Int) (a : Int) (a : Int)
                      rw [hwi] at cW
                      clear hwi
                      have hW : Hid (ruleW l.ds j x.d = none) := by
                        show ruleW l.ds j x.d = _
                        rw [hRW]
                        rw [if_neg (fun hc => hc.2 (by rw [HY.out, hm])), if_neg (fun hc => by omega)]
                        rw [if_neg (by omega : ¬ a < a), if_neg hai]
                      have H9 : Hid (T3 (ruleW l.ds) l tb nb V R earl ke w w4 names' seen' kn' (j + 1)) := HB.out.on H5.out.2.2 H3.out.2.1 hW.out
                      clear hRW
                      clear hai
                      go_wp2_with fail
                      refine (cW _).mono ?_
                      rintro e w6 ⟨rfl, rfl⟩
                      clear cW
                      go_wp2
                      go_roundw
                      case rel => exact ⟨j + 1, by omega, by go_num, H9.out⟩
                      case measure => simp [intOf]; omega
                · have r2' : ¬ ((x.d.ru : Int) = 2) := by omega
                  have hba' : ¬ ((a : Int) < (a : Int)) := by omega
                  by_cases hai : a ≤ j ∧ j ≤ a
                  · have hwi : (decide ((a : Int) ≤ (j : Int)) && decide ((j : Int) ≤ (a : Int))) = true := by rw [decide_eq_true (by omega), decide_eq_true (by omega)]; rfl
                    have cW := within_at (j : Int) (a : Int) (a : Int)
                    rw [hwi] at cW
                    clear hwi
                    have hW : Hid (ruleW l.ds j x.d = some (6, x.d.at_)) := by
                      show ruleW l.ds j x.d = _
                      rw [hRW]
                      rw [if_neg (fun hc => r2 hc.1), if_neg (fun hc => r3 hc.1)]
                      rw [if_neg (by omega : ¬ a < a), if_pos hai]
                    clear hRW
                    clear hai
                    go_wp2_with fail
                    refine (cW _).mono ?_
                    rintro e w6 ⟨rfl, rfl⟩
                    clear cW
                    obtain ⟨hset, hfin⟩ := TC.err (K := (kn + tot l)) (q := q) H5.out.1 (c := 6) (p := x.d.at_) (by rw [HQ.out]; exact (chkB_is HN.out.1).1 _ (HB.out.eq.trans ((firstW_step _ _ _ _ H3.out.2.1).1 _ hW.out)))
                    have r0 := (H5.out.1).r.c0
                    have r1 := (H5.out.1).r.c1
                    have y0 := (H5.out.1).r.z0 0
                    have y1 := (H5.out.1).r.z0 1
                    have hRs := (H5.out.1).r.lt
                    have HFIN : Hid (_ ∧ _) := ⟨hset, hfin⟩
                    clear hset hfin
                    go_wp2
                    exact bodyPost_ret (v := flt 6 (x.d.at_ : Int)) (results_cell_row rfl _ _ R 30 #[.int .i64 6, .int .i64 (x.d.at_ : Int)] (0, 0) _ rfl HFIN.out.1 Tryz.underlying30 rfl infoF) rfl HFIN.out.2
                  · have hwi : (decide ((a : Int) ≤ (j : Int)) && decide ((j : Int) ≤ (a : Int))) = false := by
                      rw [Bool.eq_false_iff]
                      intro hc
                      rw [Bool.and_eq_true, decide_eq_true_eq, decide_eq_true_eq] at hc
                      exact hai ⟨by omega, by omega⟩
                    have cW := within_at (j : Int) (a : Int) (a : Int)
                    rw [hwi] at cW
                    clear hwi
                    have hW : Hid (ruleW l.ds j x.d = none) := by
                      show ruleW l.ds j x.d = _
                      rw [hRW]
                      rw [if_neg (fun hc => r2 hc.1), if_neg (fun hc => r3 hc.1)]
                      rw [if_neg (by omega : ¬ a < a), if_neg hai]
                    have H9 : Hid (T3 (ruleW l.ds) l tb nb V R earl ke w w4 names' seen' kn' (j + 1)) := HB.out.on H5.out.2.2 H3.out.2.1 hW.out
                    clear hRW
                    clear hai
                    go_wp2_with fail
                    refine (cW _).mono ?_
                    rintro e w6 ⟨rfl, rfl⟩
                    clear cW
                    go_wp2
                    go_roundw
                    case rel => exact ⟨j + 1, by omega, by go_num, H9.out⟩
                    case measure => simp [intOf]; omega
        · obtain rfl : n = j := by omega
          have HZ : Hid (firstW (ruleW l.ds) 0 l.ds = none) := by
            show firstW (ruleW l.ds) 0 l.ds = none
            rw [HB.out.eq, H0.out.n, ← Its.ds_len]
            exact firstW_end _ _
          have H4 : Hid (T3 (cycW l.ds) l tb nb V R earl ke w wr names' seen' kn' 0) := ⟨HB.out.c, rfl⟩
          clear HB hjn
          go_upto_region 39 with fail
          go_loopw [172] (fun i wr => ∃ (j : Nat), j ≤ n ∧ i = .int .i64 (j : Int) ∧ Hid (T3 (cycW l.ds) l tb nb V R earl ke w wr names' seen' kn' j)) (fun i _ => n - (intOf i).toNat)
          case atStart => exact ⟨0, by omega, rfl, H4.out⟩
          case round =>
            clear H4
            obtain ⟨j, hj, rfl, HB⟩ := hrel
            by_cases hjn : j < n
            · obtain ⟨x, d, s, e1, e2, e3, e4, cs2, e5, e6⟩ := H0.out.rep.at j (by rw [← H0.out.n]; exact hjn)
              subst e3
              have hBL : Below B w wr := gp_below HB.out.c.gp H0.out.bn H0.out.bw
              obtain ⟨X, hX, _, g0', g⟩ := lie_at (lie_low H0.out.lie hBL) j x e1
              subst hX
              have g0 : wr.cell? (X.add (j * 13)) = some (.int .i64 (x.d.kd : Int)) := g0'
              clear g0'
              have g1 := g 1 _ rfl
              have g2 := g 2 _ rfl
              have g3 := g 3 _ rfl
              have g4 := g 4 _ rfl
              have g5 := g 5 _ rfl
              have g6 := g 6 _ rfl
              have g7 := g 7 _ rfl
              have g8 := g 8 _ rfl
              have g9 := g 9 _ rfl
              have g10 := g 10 _ rfl
              have g11 := g 11 _ rfl
              have g12 := g 12 _ rfl
              have d1 : decide ((j : Int) < (n : Int)) = true := decide_eq_true (by omega)
              have i0 : (0 : Int) ≤ (j : Int) := by omega
              have i1 : (j : Int) < (n : Int) := by omega
              obtain ⟨w3, hw3⟩ : ∃ w3, w3 = wr.alloc (.cells (cl x).toArray 60) := ⟨_, rfl⟩
              obtain ⟨M, hM⟩ : ∃ M, M = wr.heap.size := ⟨_, rfl⟩
              have hv3 : Iv w3 M x := ⟨by rw [hw3, hM]; exact new_at _ _⟩
              have hbl3 : Bl wr w3 := by rw [hw3]; exact (Bl.refl _).alloc _
              have hd : l.ds[j]? = some x.d := by rw [← ps_ds, List.getElem?_map, e2]; rfl
              have hds : cs.map C.d = l.ds := H0.out.rep.len.2
              have hOk := okr_of H0.out.wi H0.out.rep
              have hls := lie_low H0.out.lie (gp_below (HB.out.c.bl hbl3).gp H0.out.bn H0.out.bw)
              have H3 : Hid (TC tb nb V R earl ke w w3 names' seen' kn' ∧ l.ds[j]? = some x.d ∧ Iv w3 M x ∧ Bl wr w3) := ⟨HB.out.c.bl hbl3, hd, hv3, hbl3⟩
              have hMs := hv3.lt
              obtain ⟨a0, a1, a2, a3, a4, a5, a6, a7, a8, a9, a10, a11, a12⟩ := hv3.facts
              obtain ⟨o1, o2⟩ := cyc_is l.ds j x.d
              by_cases r3 : x.d.ru = 3
              · obtain ⟨o3, o4⟩ := o2 r3
                have cR := comes_at x j cs _ (some X) n c w3 hls (by omega) e1 hOk r3
                rw [hds] at cR
                obtain ⟨rb, hrb⟩ : ∃ rb, rb = rnd l.ds j := ⟨_, rfl⟩
                rw [← hrb] at cR o3 o4
                rw [r3] at a9
                have HV : Hid ((rb = true → cycW l.ds j x.d = some (11, x.d.at_)) ∧ (rb = false → cycW l.ds j x.d = none)) := ⟨o3, o4⟩
                clear e1 e2 e4 e5 e6 hd hbl3 hv3 hls hds r3 hrb o1 o2 o3 o4 hOk hBL
                go_upto_region 41 with fail
                change Code.wp _ _ _ _ (wr.alloc (.cells (cl x).toArray 60))
                rw [← hw3, ← hM]
                clear hw3 hM g0 g1 g2 g3 g4 g5 g6 g7 g8 g9 g10 g11 g12 g
                go_wp2_with fail
                refine cR.mono ?_
                rintro e w6 ⟨rfl, hb6⟩
                clear cR a0 a1 a2 a3 a4 a5 a6 a7 a8 a9 a10 a11 a12
                have H6 : Hid (TC tb nb V R earl ke w w6 names' seen' kn' ∧ Iv w6 M x ∧ Bl wr w6) := ⟨H3.out.1.bl hb6, H3.out.2.2.1.bl hb6, H3.out.2.2.2.trans hb6⟩
                obtain ⟨a0, a1, a2, a3, a4, a5, a6, a7, a8, a9, a10, a11, a12⟩ := H6.out.2.1.facts
                have hMs6 := H6.out.2.1.lt
                clear hb6
                cases rb with
                | true =>
                  obtain ⟨hset, hfin⟩ := TC.err (K := (kn + tot l)) (q := q) H6.out.1 (c := 11) (p := x.d.at_) (by rw [HQ.out]; exact ((chkB_is HN.out.1).2 HZ.out).1 _ (HB.out.eq.trans ((firstW_step _ _ _ _ H3.out.2.1).1 _ (HV.out.1 rfl))))
                  have r0 := (H6.out.1).r.c0
                  have r1 := (H6.out.1).r.c1
                  have y0 := (H6.out.1).r.z0 0
                  have y1 := (H6.out.1).r.z0 1
                  have hRs := (H6.out.1).r.lt
                  have HFIN : Hid (_ ∧ _) := ⟨hset, hfin⟩
                  clear hset hfin
                  go_wp2
                  exact bodyPost_ret (v := flt 11 (x.d.at_ : Int)) (results_cell_row rfl _ _ R 30 #[.int .i64 11, .int .i64 (x.d.at_ : Int)] (0, 0) _ rfl HFIN.out.1 Tryz.underlying30 rfl infoF) rfl HFIN.out.2
                | false =>
                  have H9 : Hid (T3 (cycW l.ds) l tb nb V R earl ke w w6 names' seen' kn' (j + 1)) := HB.out.on H6.out.2.2 H3.out.2.1 (HV.out.2 rfl)
                  go_wp2
                  go_roundw
                  case rel => exact ⟨j + 1, by omega, by go_num, H9.out⟩
                  case measure => simp [intOf]; omega
              · have r3' : ¬ ((x.d.ru : Int) = 3) := by omega
                have H9 : Hid (T3 (cycW l.ds) l tb nb V R earl ke w w3 names' seen' kn' (j + 1)) := HB.out.on hbl3 hd (o1 r3)
                clear e1 e2 e4 e5 e6 hd hbl3 hv3 hls hds o1 o2 r3 hOk hBL
                go_upto_region 41 with fail
                change Code.wp _ _ _ _ (wr.alloc (.cells (cl x).toArray 60))
                rw [← hw3, ← hM]
                clear hw3 hM g0 g1 g2 g3 g4 g5 g6 g7 g8 g9 g10 g11 g12 g
                go_wp2
                go_roundw
                case rel => exact ⟨j + 1, by omega, by go_num, H9.out⟩
                case measure => simp [intOf]; omega
            · obtain rfl : n = j := by omega
              have HD : Hid (q = .ok names') := by
                show q = .ok names'
                rw [HQ.out]
                refine ((chkB_is HN.out.1).2 HZ.out).2 ?_
                rw [HB.out.eq, H0.out.n, ← Its.ds_len]
                exact firstW_end _ _
              go_wp2_with fail
              refine (Good_at _).mono ?_
              rintro e w9 ⟨rfl, hb9⟩
              have H9 : Hid (TC tb nb V R earl ke w w9 names' seen' kn') := HB.out.c.bl hb9
              have r0 := H9.out.r.c0
              have r1 := H9.out.r.c1
              have y0 := H9.out.r.z0 0
              have y1 := H9.out.r.z0 1
              have hRs := H9.out.r.lt
              clear hb9
              unfold flt
              go_wp2
              refine bodyPost_ret (v := flt 0 (-1)) (results_cell_row rfl _ _ R 30 #[.int .i64 0, .int .i64 (-1)] (0, 0) _ rfl (H9.out.r.set _ _) Tryz.underlying30 rfl infoF) rfl ?_
              have hRw : w.heap.size ≤ R := by have := H9.out.v; have := H9.out.rv; omega
              refine DoneR.of_ok HD.out ((H9.out.gp.setNew hRw _).setNew hRw _) (((H9.out.ns.step (grown_set _ _ _ _) ?_).step (grown_set _ _ _ _) ?_).mono (by have := HN.out.2; omega))
              · intro e
                injection e with e
                obtain ⟨es, clock, hb⟩ := H9.out.ns.block
                have := H9.out.r
                unfold Rs at this
                rw [e, hb] at this
                cases this
              · intro e
                injection e with e
                obtain ⟨es, clock, hb⟩ := H9.out.ns.block
                have := H9.out.r
                unfold Rs at this
                rw [e, hb] at this
                cases this
theorem block_ra (k : Nat) : BlkR k := by
  induction k using Nat.strongRecOn with
  | ind k ih => exact block_r k ih
end Go.Proofs.YtococaecjecjgaaGreatDoor.tc
namespace Go.Proofs.YtococaecjecjgaaGreatDoor.tc
set_option linter.unusedVariables false
open Go.ChangeShapes Go.WideShapes Go.ChangeAt Go.RowKit Go.Shelf Go.Maps
open mem lx ex tm

def chkV (o : Option (Int × Nat)) : Value := match o with
  | some (c, p) => flt c (p : Int)
  | none => flt 0 (-1)
theorem chkT_ne0 : ∀ (l : List Ty) (earl : List (List UInt8)) (e : Int × Nat), chkT earl l = some e → e.1 ≠ 0 := by
  intro l
  induction l with
  | nil => intro earl e h; cases h
  | cons t r ih =>
    intro earl e h
    rw [chkT] at h
    split at h
    · injection h with h; rw [← h]; simp
    · split at h
      · rename_i e2 h2
        injection h with h
        rw [← h]; exact chkB_ne0 h2
      · exact ih _ _ h
structure Cz (l : List Ty) (w wr : World) (tb R : Nat) (earl : List (List UInt8)) (j : Nat) : Prop where
  bl : Bl w wr
  ts : SetB wr tb earl j
  r : Rs wr R 0 0
  eq : chkT [] l = chkT earl (l.drop j)
theorem Cz.bl' {l : List Ty} {w wr w' : World} {tb R : Nat} {earl : List (List UInt8)} {j : Nat} (h : Cz l w wr tb R earl j) (hb : Bl wr w') : Cz l w w' tb R earl j := ⟨h.bl.trans hb, h.ts.bl hb, h.r.bl hb, h.eq⟩
set_option maxRecDepth 10000 in
set_option maxHeartbeats 8000000 in
theorem TypesCheck_at (l : List Ty) (v : Value) (w : World) (ok : Nat → Prop) (h : IsTs w ok v l) (hw : WT l) (hz : ∀ t ∈ l, zI t.l ≤ 4000) :
    Calls Tryz.prog 19 #[v] w fun e w' => e = .returned (chkV (chk l)) ∧ Bl w w' := by
  have hmm : ∀ w, (Instr.makeMap 98 none).run Tryz.prog w = .ok (.map (some w.heap.size)) (w.alloc (.map #[] 0)) := fun w => by kernel_rfl
  obtain ⟨p, c, cs, rfl, h1, h2⟩ := h
  have h1 := h1.mono (ok' := fun g => g < w.heap.size) (fun g _ hg => hg)
  have h2 := h2.mono (ok' := fun g => g < w.heap.size) (fun g _ hg => hg)
  obtain ⟨n, hn⟩ : ∃ n, n = l.length := ⟨_, rfl⟩
  have hn8 : n ≤ 8 := by rw [hn]; exact hw.1
  obtain ⟨w1, hw1⟩ : ∃ w1, w1 = w.alloc (.cells #[.int .i64 0, .int .i64 0] 30) := ⟨_, rfl⟩
  obtain ⟨R, hR⟩ : ∃ R, R = w.heap.size := ⟨_, rfl⟩
  have hr1 : Rs w1 R 0 0 := by rw [hw1, hR]; exact Rs.new w 0 0
  have hb1 : Bl w w1 := by rw [hw1]; exact (Bl.refl _).alloc _
  obtain ⟨tb, htb⟩ : ∃ tb, tb = w1.heap.size := ⟨_, rfl⟩
  obtain ⟨w2, hw2⟩ : ∃ w2, w2 = w1.alloc (.map #[] 0) := ⟨_, rfl⟩
  have hb2 : Bl w1 w2 := by rw [hw2]; exact (Bl.refl _).alloc _
  have hs2 : SetB w2 tb [] 0 := by rw [hw2, htb]; exact SetB.made w1
  obtain ⟨q, hq⟩ : ∃ q, q = chk l := ⟨_, rfl⟩
  rw [← hq, ← hn]
  have H0 : Hid (sr.Lie w (fun g => g < w.heap.size) p l.length c cs ∧ RepT w (fun g => g < w.heap.size) l cs ∧ (WT l ∧ ∀ t ∈ l, zI t.l ≤ 4000) ∧ n = l.length ∧ q = chk l ∧ w.heap.size ≤ R) := ⟨h1, h2, ⟨hw, hz⟩, hn, hq, by rw [hR]; exact Nat.le_refl _⟩
  have HE0 : Hid (w.heap.size ≤ tb) := by show w.heap.size ≤ tb; rw [htb]; exact hb1.size
  have H2 : Hid (Cz l w w2 tb R [] 0) := ⟨hb1.trans hb2, hs2, hr1.bl hb2, rfl⟩
  clear h1 h2 hn hw hz hr1 hb1 hb2 hs2 hq
  go_enter Tryz.func19, Tryz.ntmps19
  go_upto_region 1 with fail
  rw [← hw1, ← hR]
  clear hw1 hR
  go_upto_region 3 with fail
  rw [← htb, ← hw2]
  clear hw2 htb
  go_loopw [10] (fun i wr => ∃ (j : Nat) (earl : List (List UInt8)), j ≤ n ∧ i = .int .i64 (j : Int) ∧ Hid (Cz l w wr tb R earl j)) (fun i _ => n - (intOf i).toNat)
  case atStart => exact ⟨0, [], by omega, rfl, H2.out⟩
  case round =>
    clear H2
    obtain ⟨j, earl, hj, rfl, HB⟩ := hrel
    by_cases hjn : j < n
    · obtain ⟨x, t, e1, e2, e3, e4, cs2, e5, e6⟩ := H0.out.2.1.at j (by rw [← H0.out.2.2.2.1]; exact hjn)
      obtain ⟨X, hX, _, g0', g⟩ := lieT_at (lieT_low H0.out.1 HB.out.bl) j x e1
      subst hX
      have g0 : wr.cell? (X.add (j * 3)) = some (.string (tx x.nm)) := g0'
      clear g0'
      have g1 := g 1 _ rfl
      have g2 := g 2 _ rfl
      have d1 : decide ((j : Int) < (n : Int)) = true := decide_eq_true (by omega)
      have i0 : (0 : Int) ≤ (j : Int) := by omega
      have i1 : (j : Int) < (n : Int) := by omega
      obtain ⟨w3, hw3⟩ : ∃ w3, w3 = wr.alloc (.cells (clT x).toArray 96) := ⟨_, rfl⟩
      obtain ⟨M, hM⟩ : ∃ M, M = wr.heap.size := ⟨_, rfl⟩
      have hv3 : w3.heap[M]? = some (.cells (clT x).toArray 96 (0, 0)) := by rw [hw3, hM]; exact new_at _ _
      have hbl3 : Bl wr w3 := by rw [hw3]; exact (Bl.refl _).alloc _
      have C3 := HB.out.bl' hbl3
      obtain ⟨hnm, hit, hwi⟩ := H0.out.2.2.1.1.2 t (List.mem_of_getElem? e2)
      have hzt := H0.out.2.2.1.2 t (List.mem_of_getElem? e2)
      have hnl : x.nm.length ≤ 5000 := by rw [e3]; have := hnm.2.2.1; omega
      have hlk := C3.ts.look x.nm hnl
      obtain ⟨o1, o2⟩ := chkT_step earl l j t e2
      rw [← e3] at o1 o2
      have hMs : M < w3.heap.size := lt_of_heap hv3
      have k0 : w3.cell? ⟨M, 0, none⟩ = some (.string (tx x.nm)) := by rw [cell_of hv3]; rfl
      have k1 : w3.cell? ⟨M, 1, none⟩ = some (.int .i64 (x.a : Int)) := by rw [cell_of hv3]; rfl
      have k2 : w3.cell? ⟨M, 2, none⟩ = some (.slice x.p x.n x.c) := by rw [cell_of hv3]; rfl
      have HX : Hid (Cz l w w3 tb R earl j ∧ w3.heap[M]? = some (.cells (clT x).toArray 96 (0, 0)) ∧ x.a = t.at_ ∧ ir.Lie w (fun g => g < w.heap.size) x.p x.n x.c cs2 ∧ Rep w (fun g => g < w.heap.size) t.l cs2 ∧ t.l.len ≤ 16 ∧ WI 7 t.l ∧ zI t.l ≤ 4000 ∧ x.nm.length ≤ 5000) := ⟨C3, hv3, e4, e5, e6, hit, hwi, hzt, hnl⟩
      clear g e1 e2 e3 e4 e5 e6 C3 hv3 hbl3 hnm hit hwi hzt hnl
      go_upto_region 5 with fail
      change Code.wp _ _ _ _ (wr.alloc (.cells (clT x).toArray 96))
      rw [← hw3, ← hM]
      clear hw3 hM g0 g1 g2
      by_cases hin : x.nm ∈ earl
      · rw [decide_eq_true hin] at hlk
        have hQ : q = some (9, x.a) := by rw [H0.out.2.2.2.2.1, HX.out.2.2.1]; exact HB.out.eq.trans (o1 hin)
        clear o1 o2 hin
        have r0 := (HX.out.1.r).c0
        have r1 := (HX.out.1.r).c1
        have y0 := (HX.out.1.r).z0 0
        have y1 := (HX.out.1.r).z0 1
        have hRs := (HX.out.1.r).lt
        have HFIN : Hid (_ ∧ _ ∧ _) := ⟨HX.out.1.r, HX.out.1.bl, hQ⟩
        clear hQ
        go_wp2
        exact bodyPost_ret (v := flt 9 (x.a : Int)) (results_cell_row rfl _ _ R 30 #[.int .i64 9, .int .i64 (x.a : Int)] (0, 0) _ rfl (HFIN.out.1.set _ _) Tryz.underlying30 rfl infoF) rfl ⟨by rw [HFIN.out.2.2]; rfl, (HFIN.out.2.1.setCell H0.out.2.2.2.2.2 _).setCell H0.out.2.2.2.2.2 _⟩
      · rw [decide_eq_false hin] at hlk
        obtain ⟨o3, o4⟩ := o2 hin
        have HO : Hid ((∀ e, chkB earl t.l [] [] = .error e → chkT earl (l.drop j) = some e) ∧ ∀ n, chkB earl t.l [] [] = .ok n → chkT earl (l.drop j) = chkT (x.nm :: earl) (l.drop (j + 1))) := ⟨o3, o4⟩
        obtain ⟨nb, hnb⟩ : ∃ nb, nb = w3.heap.size := ⟨_, rfl⟩
        obtain ⟨w4, hw4⟩ : ∃ w4, w4 = w3.alloc (.map #[] 0) := ⟨_, rfl⟩
        have hb4 : Bl w3 w4 := by rw [hw4]; exact (Bl.refl _).alloc _
        have sB : SetB w4 nb [] 0 := by rw [hw4, hnb]; exact SetB.made w3
        have htl := HX.out.1.ts.lt
        have hbw4 : Bl w w4 := HX.out.1.bl.trans hb4
        have hwn : w.heap.size ≤ nb := by rw [hnb]; exact HX.out.1.bl.size
        have hen : x.n = t.l.len := by rw [HX.out.2.2.2.1.1]; exact HX.out.2.2.2.2.1.len.1
        have htot := tot_le t.l
        have cR := block_ra 7 t.l w.heap.size tb nb earl [] [] j 0 x.n x.p x.c none 0 cs2 w4 ⟨HX.out.2.2.2.2.2.2.1, HX.out.2.2.2.2.2.1, HX.out.2.2.2.2.2.2.2.1, HX.out.1.ts.bl hb4, sB, Or.inl ⟨rfl, rfl⟩, Nat.le_refl _, hwn, hbw4.size, by omega, by have := HX.out.2.2.2.2.2.2.2.1; omega, by have := HX.out.2.2.2.2.2.2.2.1; simp; omega,
          lie_low HX.out.2.2.2.1 hbw4, HX.out.2.2.2.2.1.low hbw4 (Kx.bl hbw4), hen⟩
        have H4 : Hid (Bl w w4 ∧ Bl w3 w4 ∧ w.heap.size ≤ nb ∧ M < nb ∧ tb ≠ nb ∧ SetB w4 nb [] 0) := ⟨hbw4, hb4, hwn, by omega, by omega, sB⟩
        clear o1 o2 o3 o4 hin hb4 sB htl hbw4 hwn hen htot k1
        go_wp2_with fail
        rw [← hnb, ← hw4]
        clear hnb hw4 hlk k0 k2
        refine cR.mono ?_
        rintro e w7 ⟨hg7, hans⟩
        clear cR
        have H7 : Hid (Bl w w7 ∧ SetB w7 tb earl j ∧ Rs w7 R 0 0 ∧ w7.heap[M]? = some (.cells (clT x).toArray 96 (0, 0))) :=
          ⟨Gp.below H4.out.1 hg7 H4.out.2.2.1, (HX.out.1.ts.bl H4.out.2.1).gp hg7 H4.out.2.2.2.2.1, (HX.out.1.r.bl H4.out.2.1).gp hg7 H4.out.2.2.2.2.2, by
            rw [hg7.block M (Nat.lt_of_lt_of_le hMs H4.out.2.1.size) (by have := H4.out.2.2.2.1; omega), Below.block H4.out.2.1 M hMs]
            exact HX.out.2.1⟩
        cases hcB : chkB earl t.l [] [] with
        | error cp =>
          obtain ⟨cc, pp⟩ := cp
          have hne := chkB_ne0 hcB
          rw [hcB] at hans
          obtain rfl := hans
          have cI := Is_at cc (pp : Int)
          have hc0 : (cc == 0) = false := by rw [beq_eq_false_iff_ne]; exact hne
          unfold flt
          go_wp2_with fail
          refine (cI _).mono ?_
          rintro e w9 ⟨rfl, hb9⟩
          obtain ⟨c0, c1, hb89, hs9⟩ := fl_cl hb9
          have hQ : q = some (cc, pp) := by rw [H0.out.2.2.2.2.1]; exact HB.out.eq.trans (HO.out.1 _ hcB)
          have r0 := ((H7.out.2.2.1.bl hb89)).c0
          have r1 := ((H7.out.2.2.1.bl hb89)).c1
          have y0 := ((H7.out.2.2.1.bl hb89)).z0 0
          have y1 := ((H7.out.2.2.1.bl hb89)).z0 1
          have hRs := ((H7.out.2.2.1.bl hb89)).lt
          have HFIN : Hid (_ ∧ _ ∧ _) := ⟨(H7.out.2.2.1.bl hb89), (H7.out.1.trans hb89), hQ⟩
          clear hQ hb9 hb89 cI hg7 hcB hne
          go_wp2
          exact bodyPost_ret (v := flt cc (pp : Int)) (results_cell_row rfl _ _ R 30 #[.int .i64 cc, .int .i64 (pp : Int)] (0, 0) _ rfl (HFIN.out.1.set _ _) Tryz.underlying30 rfl infoF) rfl ⟨by rw [HFIN.out.2.2]; rfl, (HFIN.out.2.1.setCell H0.out.2.2.2.2.2 _).setCell H0.out.2.2.2.2.2 _⟩
        | ok n2 =>
          rw [hcB] at hans
          obtain ⟨rfl, _⟩ := hans
          have cI := Is_at 0 (-1)
          unfold flt
          go_wp2_with fail
          refine (cI _).mono ?_
          rintro e w9 ⟨rfl, hb9⟩
          obtain ⟨c0, c1, hb89, hs9⟩ := fl_cl hb9
          obtain ⟨w8, hr8, hn8', hg8⟩ := (H7.out.2.1.bl hb89).put x.nm HX.out.2.2.2.2.2.2.2.2 (by omega)
          have hM9 : w9.heap[M]? = some (.cells (clT x).toArray 96 (0, 0)) := (Below.block hb89 M (lt_of_heap H7.out.2.2.2)).trans H7.out.2.2.2
          have m0 : w9.cell? ⟨M, 0, none⟩ = some (.string (tx x.nm)) := by rw [cell_of hM9]; rfl
          have hMs9 := lt_of_heap hM9
          have H8 : Hid (Cz l w w8 tb R (x.nm :: earl) (j + 1)) :=
            ⟨bl_grown (H7.out.1.trans hb89) hg8 (fun k hk => by injection hk with hk; have := HE0.out; omega), hn8', (H7.out.2.2.1.bl hb89).gp (grown_gp hg8) (H7.out.2.1.bl hb89), HB.out.eq.trans (HO.out.2 _ hcB)⟩
          clear hcB hn8' hg8 hb9 hb89 cI hg7 hM9
          go_wp2
          go_roundw
          case rel => exact ⟨j + 1, x.nm :: earl, by omega, by go_num, H8.out⟩
          case measure => simp [intOf]; omega
    · obtain rfl : n = j := by omega
      have hQ : q = none := by
        rw [H0.out.2.2.2.2.1]
        refine HB.out.eq.trans ?_
        rw [H0.out.2.2.2.1, List.drop_length]
        rfl
      go_wp2_with fail
      refine (Good_at _).mono ?_
      rintro e w9 ⟨rfl, hb9⟩
      have r0 := ((HB.out.r.bl hb9)).c0
      have r1 := ((HB.out.r.bl hb9)).c1
      have y0 := ((HB.out.r.bl hb9)).z0 0
      have y1 := ((HB.out.r.bl hb9)).z0 1
      have hRs := ((HB.out.r.bl hb9)).lt
      have HFIN : Hid (_ ∧ _ ∧ _) := ⟨(HB.out.r.bl hb9), (HB.out.bl.trans hb9), hQ⟩
      clear hQ hb9
      unfold flt
      go_wp2
      exact bodyPost_ret (v := flt 0 (-1)) (results_cell_row rfl _ _ R 30 #[.int .i64 0, .int .i64 (-1)] (0, 0) _ rfl (HFIN.out.1.set _ _) Tryz.underlying30 rfl infoF) rfl ⟨by rw [HFIN.out.2.2]; rfl, (HFIN.out.2.1.setCell H0.out.2.2.2.2.2 _).setCell H0.out.2.2.2.2.2 _⟩
end Go.Proofs.YtococaecjecjgaaGreatDoor.tc
namespace Go.Proofs.YtococaecjecjgaaGreatDoor.tm
set_option linter.unusedVariables false
open lx ex

theorem occ_iff (l m : List UInt8) : Lib.contains l m = true ↔ ∃ p q, l = p ++ m ++ q := by
  unfold Lib.contains
  rw [decide_eq_true_eq]
  constructor
  · intro h
    rcases Lib.index_spec l m with ⟨h1, _⟩ | ⟨i, h1, h2, h3, _⟩
    · omega
    · have h4 : m.isPrefixOf (l.drop i) = true := h3
      rw [List.isPrefixOf_iff_prefix] at h4
      obtain ⟨q, hq⟩ := h4
      exact ⟨l.take i, q, by rw [List.append_assoc, hq, List.take_append_drop]⟩
  · rintro ⟨p, q, h⟩
    rcases Lib.index_spec l m with ⟨h1, h2⟩ | ⟨i, h1, _⟩
    · have := h2 p.length (by rw [h]; simp)
      have h4 : m.isPrefixOf (l.drop p.length) = true := by
        rw [List.isPrefixOf_iff_prefix, h, List.append_assoc, List.drop_left]
        exact ⟨q, rfl⟩
      rw [show Lib.occAt l m p.length = m.isPrefixOf (l.drop p.length) from rfl, h4] at this
      cases this
    · omega
def wds (ws : List (List UInt8)) : List UInt8 := 32 :: ws.flatMap (fun w => w ++ [32])
theorem split_word {a b x y : List UInt8} (ha : (32 : UInt8) ∉ a) (hb : (32 : UInt8) ∉ b) (h : a ++ 32 :: x = b ++ 32 :: y) : a = b ∧ x = y := by
  induction a generalizing b with
  | nil =>
    cases b with
    | nil => simp at h; exact ⟨rfl, h⟩
    | cons c b => simp at h; exact absurd h.1 (fun e => hb (by rw [← e]; simp))
  | cons c a ih =>
    cases b with
    | nil => simp at h; exact absurd h.1 (fun e => ha (by rw [e]; simp))
    | cons d b =>
      simp only [List.cons_append, List.cons.injEq] at h
      obtain ⟨h1, h2⟩ := ih (fun h => ha (by simp [h])) (fun h => hb (by simp [h])) h.2
      exact ⟨by rw [h.1, h1], h2⟩
theorem split_far {a p x y : List UInt8} (ha : (32 : UInt8) ∉ a) (h : a ++ x = p ++ 32 :: y) : ∃ p', p = a ++ p' ∧ x = p' ++ 32 :: y := by
  induction a generalizing p with
  | nil => exact ⟨p, rfl, h⟩
  | cons c a ih =>
    cases p with
    | nil => simp at h; exact absurd h.1 (fun e => ha (by rw [e]; simp))
    | cons d p =>
      simp only [List.cons_append, List.cons.injEq] at h
      obtain ⟨p', h1, h2⟩ := ih (fun h => ha (by simp [h])) h.2
      exact ⟨p', by rw [h.1, h1]; rfl, h2⟩
theorem wds_has (s : List UInt8) (hs : (32 : UInt8) ∉ s) (ws : List (List UInt8)) (hw : ∀ w ∈ ws, (32 : UInt8) ∉ w) : (∃ p q, wds ws = p ++ ([32] ++ s ++ [32]) ++ q) ↔ s ∈ ws := by
  induction ws with
  | nil =>
    constructor
    · rintro ⟨p, q, h⟩
      have := congrArg List.length h
      simp [wds] at this
      omega
    · intro h; cases h
  | cons w ws ih =>
    have hw1 : (32 : UInt8) ∉ w := hw w (by simp)
    have ih := ih (fun u hu => hw u (by simp [hu]))
    have e : wds (w :: ws) = 32 :: (w ++ wds ws) := by
      unfold wds
      rw [List.flatMap_cons, List.append_assoc]
      rfl
    constructor
    · rintro ⟨p, q, h⟩
      rw [e] at h
      cases p with
      | nil =>
        simp only [List.nil_append, List.cons_append, List.append_assoc, List.cons.injEq, true_and] at h
        have h' : w ++ 32 :: (ws.flatMap fun w => w ++ [32]) = s ++ 32 :: q := h
        rw [(split_word hw1 hs h').1]
        simp
      | cons c p =>
        simp only [List.cons_append, List.nil_append, List.append_assoc, List.cons.injEq] at h
        obtain ⟨p', h1, h2⟩ := split_far hw1 h.2
        rw [List.mem_cons]
        right
        refine ih.1 ⟨p', q, ?_⟩
        rw [h2]
        simp
    · intro h
      rw [List.mem_cons] at h
      rw [e]
      rcases h with rfl | h
      · exact ⟨[], ws.flatMap (fun w => w ++ [32]), by unfold wds; simp⟩
      · obtain ⟨p, q, h⟩ := ih.2 h
        exact ⟨32 :: w ++ p, q, by rw [h]; simp⟩
theorem wds_is (s : List UInt8) (hs : (32 : UInt8) ∉ s) (ws : List (List UInt8)) (hw : ∀ w ∈ ws, (32 : UInt8) ∉ w) : Lib.contains (wds ws) ([32] ++ s ++ [32]) = decide (s ∈ ws) := by
  rw [Bool.eq_iff_iff, occ_iff, wds_has s hs ws hw, decide_eq_true_eq]
def numK : List (List UInt8) := numW.map (·.1)
def othK : List (List UInt8) := [wStruct, wBytes, wWhen, wSize, wCount, wCheck]
theorem num_mem (t : List UInt8) : (numOf t).isSome = decide (t ∈ numK) := by
  rw [Bool.eq_iff_iff, decide_eq_true_eq]
  unfold numOf numK
  rw [Option.isSome_map, List.find?_isSome, List.mem_map]
  constructor
  · rintro ⟨p, h1, h2⟩; exact ⟨p, h1, by simpa using h2⟩
  · rintro ⟨p, h1, h2⟩; exact ⟨p, h1, by simpa using h2⟩
theorem num_text (t : List UInt8) (h : (32 : UInt8) ∉ t) : Lib.contains (wds numK) ([32] ++ t ++ [32]) = (numOf t).isSome := by
  rw [wds_is t h numK (by decide), num_mem]
theorem oth_text (t : List UInt8) (h : (32 : UInt8) ∉ t) : Lib.contains (wds othK) ([32] ++ t ++ [32]) = othK.contains t := by
  rw [wds_is t h othK (by decide), Bool.eq_iff_iff]
  simp
end Go.Proofs.YtococaecjecjgaaGreatDoor.tm
