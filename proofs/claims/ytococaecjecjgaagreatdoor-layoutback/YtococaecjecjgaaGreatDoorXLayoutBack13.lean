/- Texts laid together: Tm7, Tm8, Tm9, TmA, TmB. -/
import Derived.Test.YtococaecjecjgaaGreatDoorXLayoutBack12
/- A reader of a template's tokens: rule. -/
namespace Go.Proofs.YtococaecjecjgaaGreatDoor.tm
set_option linter.unusedVariables false
open Go.ChangeShapes Go.WideShapes Go.ChangeAt Go.RowKit Go.Shelf
open mem lx ex

/-- An item's variable. -/
structure Iv (w : World) (X : Nat) (c : C) : Prop where
  h : w.heap[X]? = some (.cells (cl c).toArray 60 (0, 0))
theorem Iv.lt {w : World} {X : Nat} {c : C} (h : Iv w X c) : X < w.heap.size := lt_of_heap h.h
theorem Iv.cell {w : World} {X : Nat} {c : C} (h : Iv w X c) (j : Nat) : w.cell? ⟨X, j, none⟩ = (cl c)[j]? := by rw [cell_of h.h]; simp
theorem Iv.fz {w : World} {X : Nat} {c : C} (h : Iv w X c) (j : Nat) : w.frozen? ⟨X, j, none⟩ = false := by simp [World.frozen?, h.h]
theorem Iv.bl {w w' : World} {X : Nat} {c : C} (h : Iv w X c) (hb : Bl w w') : Iv w' X c := ⟨by rw [Below.block hb X h.lt]; exact h.h⟩
theorem Iv.gp {w w' : World} {P X : Nat} {c : C} (h : Iv w X c) (hb : Gp P w w') (hne : X ≠ P) : Iv w' X c := ⟨by rw [hb.block X h.lt hne]; exact h.h⟩
theorem Iv.set {w : World} {X j : Nat} {c c' : C} {u : Value} (h : Iv w X c) (he : (cl c).toArray.setIfInBounds j u = (cl c').toArray) : Iv (w.setCell ⟨X, j, none⟩ u) X c' := ⟨by simp [World.setCell, Array.getElem?_modify, h.h, ← he]⟩
def C.ru (c : C) (r : Nat) : C := { c with d := { c.d with ru := r } }
def C.f1 (c : C) (t : List UInt8) : C := { c with d := { c.d with f1 := t } }
def C.l1 (c : C) (t : List UInt8) : C := { c with d := { c.d with l1 := t } }
def C.nm (c : C) (t : List UInt8) : C := { c with d := { c.d with nm := t } }
def C.at (c : C) (a : Nat) : C := { c with d := { c.d with at_ := a } }
theorem set_ru (c : C) (r : Nat) : (cl c).toArray.setIfInBounds 9 (.int .i64 (r : Int)) = (cl (c.ru r)).toArray := rfl
theorem set_f1 (c : C) (t : List UInt8) : (cl c).toArray.setIfInBounds 10 (.string (tx t)) = (cl (c.f1 t)).toArray := rfl
theorem set_l1 (c : C) (t : List UInt8) : (cl c).toArray.setIfInBounds 11 (.string (tx t)) = (cl (c.l1 t)).toArray := rfl
theorem set_nm (c : C) (t : List UInt8) : (cl c).toArray.setIfInBounds 2 (.string (tx t)) = (cl (c.nm t)).toArray := rfl
theorem set_at (c : C) (a : Nat) : (cl c).toArray.setIfInBounds 1 (.int .i64 (a : Int)) = (cl (c.at a)).toArray := rfl
/-- An item, stored. -/
def st13 (w : World) (N : Nat) (c : C) : World := (((((((((((((w).setCell ⟨N, 0, none⟩ (.int .i64 (c.d.kd : Int))).setCell ⟨N, 1, none⟩ (.int .i64 (c.d.at_ : Int))).setCell ⟨N, 2, none⟩ (.string (tx c.d.nm))).setCell ⟨N, 3, none⟩ (.string (tx c.d.ty))).setCell ⟨N, 4, none⟩ (.int .i64 (c.d.wd : Int))).setCell ⟨N, 5, none⟩ (.int .i64 (c.d.od : Int))).setCell ⟨N, 6, none⟩ (.bool c.d.sg)).setCell ⟨N, 7, none⟩ (.bool c.d.mn)).setCell ⟨N, 8, none⟩ (.pointer c.pc)).setCell ⟨N, 9, none⟩ (.int .i64 (c.d.ru : Int))).setCell ⟨N, 10, none⟩ (.string (tx c.d.f1))).setCell ⟨N, 11, none⟩ (.string (tx c.d.l1))).setCell ⟨N, 12, none⟩ (.slice c.p c.n c.c)
theorem heap_set {w : World} {N j : Nat} {a : Array Value} {t : TypeId} {u : Value} (h : w.heap[N]? = some (.cells a t (0, 0))) : (w.setCell ⟨N, j, none⟩ u).heap[N]? = some (.cells (a.setIfInBounds j u) t (0, 0)) := by simp [World.setCell, Array.getElem?_modify, h]
theorem arr13 (a0 a1 a2 a3 a4 a5 a6 a7 a8 a9 a10 a11 a12 v0 v1 v2 v3 v4 v5 v6 v7 v8 v9 v10 v11 v12 : Value) : ((((((((((((((#[a0, a1, a2, a3, a4, a5, a6, a7, a8, a9, a10, a11, a12] : Array Value).setIfInBounds 0 v0).setIfInBounds 1 v1).setIfInBounds 2 v2).setIfInBounds 3 v3).setIfInBounds 4 v4).setIfInBounds 5 v5).setIfInBounds 6 v6).setIfInBounds 7 v7).setIfInBounds 8 v8).setIfInBounds 9 v9).setIfInBounds 10 v10).setIfInBounds 11 v11).setIfInBounds 12 v12) = #[v0, v1, v2, v3, v4, v5, v6, v7, v8, v9, v10, v11, v12] := by
  apply Array.ext'
  simp only [Array.toList_setIfInBounds, List.set]
theorem heap13 {w : World} {N : Nat} {t : TypeId} (a0 a1 a2 a3 a4 a5 a6 a7 a8 a9 a10 a11 a12 v0 v1 v2 v3 v4 v5 v6 v7 v8 v9 v10 v11 v12 : Value) (h : w.heap[N]? = some (.cells #[a0, a1, a2, a3, a4, a5, a6, a7, a8, a9, a10, a11, a12] t (0, 0))) : (((((((((((((w.setCell ⟨N, 0, none⟩ v0).setCell ⟨N, 1, none⟩ v1).setCell ⟨N, 2, none⟩ v2).setCell ⟨N, 3, none⟩ v3).setCell ⟨N, 4, none⟩ v4).setCell ⟨N, 5, none⟩ v5).setCell ⟨N, 6, none⟩ v6).setCell ⟨N, 7, none⟩ v7).setCell ⟨N, 8, none⟩ v8).setCell ⟨N, 9, none⟩ v9).setCell ⟨N, 10, none⟩ v10).setCell ⟨N, 11, none⟩ v11).setCell ⟨N, 12, none⟩ v12).heap[N]? = some (.cells #[v0, v1, v2, v3, v4, v5, v6, v7, v8, v9, v10, v11, v12] t (0, 0)) := by
  rw [← arr13 a0 a1 a2 a3 a4 a5 a6 a7 a8 a9 a10 a11 a12 v0 v1 v2 v3 v4 v5 v6 v7 v8 v9 v10 v11 v12]
  exact heap_set (heap_set (heap_set (heap_set (heap_set (heap_set (heap_set (heap_set (heap_set (heap_set (heap_set (heap_set (heap_set h))))))))))))
theorem Iv.store {w : World} {N : Nat} {c : C} (h : Iv w N c) (c' : C) : Iv (st13 w N c') N c' :=
  ⟨heap13 (.int .i64 (c.d.kd : Int)) (.int .i64 (c.d.at_ : Int)) (.string (tx c.d.nm)) (.string (tx c.d.ty)) (.int .i64 (c.d.wd : Int)) (.int .i64 (c.d.od : Int)) (.bool c.d.sg) (.bool c.d.mn) (.pointer c.pc) (.int .i64 (c.d.ru : Int)) (.string (tx c.d.f1)) (.string (tx c.d.l1)) (.slice c.p c.n c.c) (.int .i64 (c'.d.kd : Int)) (.int .i64 (c'.d.at_ : Int)) (.string (tx c'.d.nm)) (.string (tx c'.d.ty)) (.int .i64 (c'.d.wd : Int)) (.int .i64 (c'.d.od : Int)) (.bool c'.d.sg) (.bool c'.d.mn) (.pointer c'.pc) (.int .i64 (c'.d.ru : Int)) (.string (tx c'.d.f1)) (.string (tx c'.d.l1)) (.slice c'.p c'.n c'.c) h.h⟩
theorem Iv.facts {w : World} {N : Nat} {c : C} (h : Iv w N c) : w.cell? ⟨N, 0, none⟩ = some (.int .i64 (c.d.kd : Int)) ∧ w.cell? ⟨N, 1, none⟩ = some (.int .i64 (c.d.at_ : Int)) ∧ w.cell? ⟨N, 2, none⟩ = some (.string (tx c.d.nm)) ∧ w.cell? ⟨N, 3, none⟩ = some (.string (tx c.d.ty)) ∧ w.cell? ⟨N, 4, none⟩ = some (.int .i64 (c.d.wd : Int)) ∧ w.cell? ⟨N, 5, none⟩ = some (.int .i64 (c.d.od : Int)) ∧ w.cell? ⟨N, 6, none⟩ = some (.bool c.d.sg) ∧ w.cell? ⟨N, 7, none⟩ = some (.bool c.d.mn) ∧ w.cell? ⟨N, 8, none⟩ = some (.pointer c.pc) ∧ w.cell? ⟨N, 9, none⟩ = some (.int .i64 (c.d.ru : Int)) ∧ w.cell? ⟨N, 10, none⟩ = some (.string (tx c.d.f1)) ∧ w.cell? ⟨N, 11, none⟩ = some (.string (tx c.d.l1)) ∧ w.cell? ⟨N, 12, none⟩ = some (.slice c.p c.n c.c) :=
  ⟨h.cell 0, h.cell 1, h.cell 2, h.cell 3, h.cell 4, h.cell 5, h.cell 6, h.cell 7, h.cell 8, h.cell 9, h.cell 10, h.cell 11, h.cell 12⟩
theorem Iv.fzs {w : World} {N : Nat} {c : C} (h : Iv w N c) : w.frozen? ⟨N, 0, none⟩ = false ∧ w.frozen? ⟨N, 1, none⟩ = false ∧ w.frozen? ⟨N, 2, none⟩ = false ∧ w.frozen? ⟨N, 3, none⟩ = false ∧ w.frozen? ⟨N, 4, none⟩ = false ∧ w.frozen? ⟨N, 5, none⟩ = false ∧ w.frozen? ⟨N, 6, none⟩ = false ∧ w.frozen? ⟨N, 7, none⟩ = false ∧ w.frozen? ⟨N, 8, none⟩ = false ∧ w.frozen? ⟨N, 9, none⟩ = false ∧ w.frozen? ⟨N, 10, none⟩ = false ∧ w.frozen? ⟨N, 11, none⟩ = false ∧ w.frozen? ⟨N, 12, none⟩ = false :=
  ⟨h.fz 0, h.fz 1, h.fz 2, h.fz 3, h.fz 4, h.fz 5, h.fz 6, h.fz 7, h.fz 8, h.fz 9, h.fz 10, h.fz 11, h.fz 12⟩
theorem st_gp {P N : Nat} {w0 w : World} {c : C} (h : Gp P w0 w) (hN : w0.heap.size ≤ N) : Gp P w0 (st13 w N c) :=
  ((((((((((((h.setNew hN _).setNew hN _).setNew hN _).setNew hN _).setNew hN _).setNew hN _).setNew hN _).setNew hN _).setNew hN _).setNew hN _).setNew hN _).setNew hN _).setNew hN _
theorem st_rd {P N d mb : Nat} {s : ByteArray} {ts : List Tk} {w : World} {c : C} (h : RdT w P s ts d mb) (hN : P < N) : RdT (st13 w N c) P s ts d mb :=
  ((((((((((((h.behind (grown_set _ _ _ _) hN).behind (grown_set _ _ _ _) hN).behind (grown_set _ _ _ _) hN).behind (grown_set _ _ _ _) hN).behind (grown_set _ _ _ _) hN).behind (grown_set _ _ _ _) hN).behind (grown_set _ _ _ _) hN).behind (grown_set _ _ _ _) hN).behind (grown_set _ _ _ _) hN).behind (grown_set _ _ _ _) hN).behind (grown_set _ _ _ _) hN).behind (grown_set _ _ _ _) hN).behind (grown_set _ _ _ _) hN
/-- What a rule's reading answers. -/
def RuA (w0 : World) (P X : Nat) (s : ByteArray) (d mb : Nat) (c : C) (q : Rs D) (e : Ending) (w' : World) : Prop :=
  Gp P w0 w' ∧ match q with
  | .ok (x, r) => e = .returned (.tuple #[]) ∧ Iv w' X { c with d := x } ∧ RdT w' P s r d mb
  | .error (k, p) => ∃ B : Nat, e = thrownT B ∧ w0.heap.size ≤ B ∧ AtX w' B k (p : Int)
theorem RuA.err {w0 w' : World} {P X d mb : Nat} {s : ByteArray} {c : C} {k : Int} {p B : Nat} (hg : Gp P w0 w') (hB : w0.heap.size ≤ B) (hA : AtX w' B k (p : Int)) : RuA w0 P X s d mb c (.error (k, p)) (thrownT B) w' := ⟨hg, B, rfl, hB, hA⟩
theorem rule_is (en : Nat) (d : D) (ts : List Tk) : (ruleOf (hd en ts).t = 0 → rule en d ts = .error (3, (hd en ts).a)) ∧
    (ruleOf (hd en ts).t ≠ 0 → (∀ e, name en ts.tail = .error e → rule en d ts = .error e) ∧ ∀ a r, name en ts.tail = .ok (a, r) →
      (ruleOf (hd en ts).t ≠ 3 → rule en d ts = .ok ({ d with ru := ruleOf (hd en ts).t, f1 := a }, r)) ∧
      (ruleOf (hd en ts).t = 3 → ((hd en r).t = [59] → rule en d ts = .ok ({ d with ru := 3, f1 := a, l1 := a }, r)) ∧
        (¬ (hd en r).t = [59] → (∀ e, name en r = .error e → rule en d ts = .error e) ∧ ∀ b r', name en r = .ok (b, r') → rule en d ts = .ok ({ d with ru := 3, f1 := a, l1 := b }, r')))) := by
  unfold rule
  refine ⟨fun h => by rw [if_pos h], fun h => ?_⟩
  rw [if_neg h]
  refine ⟨fun e he => by rw [he], fun a r hr => ?_⟩
  rw [hr]
  dsimp only
  refine ⟨fun h3 => by rw [if_neg h3], fun h3 => ?_⟩
  rw [if_pos h3]
  refine ⟨fun h4 => by rw [if_pos h4], fun h4 => ?_⟩
  rw [if_neg h4]
  exact ⟨fun e he => by rw [he], fun b r' hb => by rw [hb]⟩
/-- All that a walk keeps. -/
structure Ss (w0 w : World) (P X : Nat) (s : ByteArray) (ts : List Tk) (d mb : Nat) (c : C) : Prop where
  gp : Gp P w0 w
  rd : RdT w P s ts d mb
  iv : Iv w X c
theorem Ss.put {w0 w : World} {P X j : Nat} {s : ByteArray} {ts : List Tk} {d mb : Nat} {c c' : C} {u : Value} (h : Ss w0 w P X s ts d mb c) (hX : w0.heap.size ≤ X) (hPX : P < X) (he : (cl c).toArray.setIfInBounds j u = (cl c').toArray) : Ss w0 (w.setCell ⟨X, j, none⟩ u) P X s ts d mb c' :=
  ⟨h.gp.setNew hX u, h.rd.behind (grown_set w X j u) hPX, h.iv.set he⟩
theorem Ss.go {w0 w w' : World} {P X : Nat} {s : ByteArray} {ts ts' : List Tk} {d mb : Nat} {c : C} (h : Ss w0 w P X s ts d mb c) (hg : Gp P w w') (hr : RdT w' P s ts' d mb) (hPX : P < X) : Ss w0 w' P X s ts' d mb c := ⟨h.gp.trans hg, hr, h.iv.gp hg (by omega)⟩
theorem Ss.bl {w0 w w' : World} {P X : Nat} {s : ByteArray} {ts : List Tk} {d mb : Nat} {c : C} (h : Ss w0 w P X s ts d mb c) (hb : Bl w w') : Ss w0 w' P X s ts d mb c := ⟨h.gp.trans (Gp.bl hb), h.rd.step hb, h.iv.bl hb⟩
set_option maxRecDepth 10000 in
set_option maxHeartbeats 2000000 in
theorem rule_at (w0 w : World) (P X d mb : Nat) (s : ByteArray) (ts : List Tk) (c : C) (h : RdT w P s ts d mb) (h0 : Gp P w0 w) (hX : w0.heap.size ≤ X) (hPX : P < X) (hI : Iv w X c) (hG : Gt w) (hGP : 6 ≤ P) :
    Calls Tryz.prog 181 #[.pointer (some ⟨P, 0, none⟩), .pointer (some ⟨X, 0, none⟩)] w fun e w' => RuA w0 P X s d mb c (rule s.size c.d ts) e w' := by
  have cT := take_at w P d mb s ts h
  obtain ⟨o1, o2⟩ := rule_is s.size c.d ts
  obtain ⟨q, hq⟩ : ∃ q, q = rule s.size c.d ts := ⟨_, rfl⟩
  rw [← hq] at o1 o2 ⊢
  obtain ⟨T, hT⟩ : ∃ T, T = hd s.size ts := ⟨_, rfl⟩
  rw [← hT] at cT o1 o2
  have hPw := h.lt
  have HR : Hid (RdT w P s ts d mb ∧ Gt w ∧ Gp P w0 w ∧ w0.heap.size ≤ X) := ⟨h, hG, h0, hX⟩
  have hthr := throw_at T 3
  unfold tkV at cT hthr
  obtain ⟨S, hS⟩ : ∃ S, S = tx T.t := ⟨_, rfl⟩
  rw [← hS] at cT hthr
  have HS : Hid (S = tx T.t ∧ T = hd s.size ts) := ⟨hS, hT⟩
  clear h hG h0 hX hq hT hS
  have hf0 := run_text
  go_enter Tryz.func181, Tryz.ntmps181
  go_wp2_with fail
  refine cT.mono ?_
  rintro e w2 ⟨rfl, hR2, hg2⟩
  have hb3 : Bl w2 (w2.alloc (.cells #[.string S, .int .i64 (T.a : Int)] 145)) := (Bl.refl _).alloc _
  have hv3 := Tv.new w2 S (T.a : Int)
  obtain ⟨N, hN⟩ : ∃ N, N = w2.heap.size := ⟨_, rfl⟩
  obtain ⟨w3, hw3⟩ : ∃ w3, w3 = w2.alloc (.cells #[.string S, .int .i64 (T.a : Int)] 145) := ⟨_, rfl⟩
  rw [← hw3] at hb3 hv3
  rw [← hN] at hv3
  have hI3 := (hI.gp hg2 (by omega)).bl hb3
  have HG3 : Hid (Gp P w w3 ∧ RdT w3 P s ts.tail d mb ∧ Iv w3 X c ∧ Gt w3 ∧ Tv w3 N S (T.a : Int) ∧ Gp P w0 w3) := ⟨hg2.trans (Gp.bl hb3), hR2.step hb3, hI3, HR.out.2.1.gp (hg2.trans (Gp.bl hb3)) hGP hPw, hv3, HR.out.2.2.1.trans (hg2.trans (Gp.bl hb3))⟩
  have cO := ruleOf_at T.t w3 HG3.out.2.2.2.1.ru
  rw [← HS.out.1] at cO
  obtain ⟨g0, g1, z0, z1, hNs⟩ := hv3.facts
  have hXs := hI3.lt
  have x9 : w3.cell? ⟨X, 9, none⟩ = some (.int .i64 (c.d.ru : Int)) := hI3.cell 9
  have xz := hI3.fz 9
  have hXN : ¬ X = N := by have := hI.lt; have := hg2.size; omega
  obtain ⟨k, hk⟩ : ∃ k, k = ruleOf T.t := ⟨_, rfl⟩
  rw [← hk] at cO o1 o2
  have hk3 : k ≤ 3 := by rw [hk]; unfold ruleOf; split <;> (try split) <;> (try split) <;> omega
  clear hk hI hg2 hR2 hb3 hv3 hI3 cT
  go_wp2_with fail
  rw [← hN, ← hw3]
  clear hw3 hN
  refine cO.mono ?_
  rintro e w4 ⟨rfl, rfl⟩
  have H5 : Hid (Ss w0 (w4.setCell ⟨X, 9, none⟩ (.int .i64 (k : Int))) P X s ts.tail d mb (c.ru k)) := (Ss.mk HG3.out.2.2.2.2.2 HG3.out.2.1 HG3.out.2.2.1).put HR.out.2.2.2 hPX (set_ru c k)
  by_cases hk0 : k = 0
  · have HQ : Hid (q = .error (3, T.a)) := o1 hk0
    have hkk : ((k : Int) == 0) = true := by rw [beq_iff_eq]; omega
    have hNX : ¬ N = X := fun e => hXN e.symm
    clear o1 o2 hk3 hk0
    go_wp2_with fail
    refine (hthr _).mono ?_
    rintro e w6 ⟨B, rfl, k1, k2, k3⟩
    unfold thrownT
    go_wp2
    refine ⟨rfl, ?_⟩
    rw [HQ.out]
    exact RuA.err (H5.out.gp.trans (Gp.bl k3)) (Nat.le_trans H5.out.gp.size k1) k2
  · have hkk : ((k : Int) == 0) = false := by rw [beq_eq_false_iff_ne]; omega
    have o3 := o2 hk0
    have cA := name_at _ P d mb s ts.tail H5.out.rd
    clear o1 o2 cO hthr
    obtain ⟨W, hW⟩ : ∃ W, W = w4.setCell ⟨X, 9, none⟩ (.int .i64 (k : Int)) := ⟨_, rfl⟩
    have y9 : W.cell? ⟨X, 9, none⟩ = some (.int .i64 (k : Int)) := by rw [hW]; exact H5.out.iv.cell 9
    go_upto_region 2 with fail
    rw [← hW] at H5 cA ⊢
    clear hW g0 g1 z0 z1 hNs hXs x9 xz hk0
    go_wp2_with fail
    refine cA.mono ?_
    rintro e w6 ⟨hg6, hans⟩
    cases hn : name s.size ts.tail with
    | error kp =>
      obtain ⟨k1, p1⟩ := kp
      rw [hn] at hans
      obtain ⟨B, rfl, hB, hA⟩ := hans
      have HQ : Hid (q = .error (k1, p1)) := o3.1 _ hn
      unfold thrownT
      clear o3 cA
      go_wp2
      refine ⟨rfl, ?_⟩
      rw [HQ.out]
      exact RuA.err (H5.out.gp.trans hg6) (Nat.le_trans H5.out.gp.size hB) hA
    | ok ar =>
      obtain ⟨a, r⟩ := ar
      rw [hn] at hans
      obtain ⟨v, rfl, rfl, hR6⟩ := hans
      obtain ⟨o4, o5⟩ := o3.2 a r hn
      have H6 : Hid (Ss w0 w6 P X s r d mb (c.ru k)) := H5.out.go hg6 hR6 hPX
      have H7 : Hid (Ss w0 (w6.setCell ⟨X, 10, none⟩ (.string (tx a))) P X s r d mb ((c.ru k).f1 a)) := H6.out.put HR.out.2.2.2 hPX (set_f1 _ a)
      have x10 : w6.cell? ⟨X, 10, none⟩ = some (.string (tx (c.ru k).d.f1)) := H6.out.iv.cell 10
      have xz := H6.out.iv.fz 10
      have hXs := H6.out.iv.lt
      have x9 : w6.cell? ⟨X, 9, none⟩ = some (.int .i64 (k : Int)) := H6.out.iv.cell 9
      unfold tkV
      clear hn o3 hg6 hR6 y9 cA
      obtain ⟨A, hA⟩ : ∃ A, A = tx a := ⟨_, rfl⟩
      rw [← hA] at H7 ⊢
      have HA : Hid (A = tx a) := hA
      clear hA
      obtain ⟨W7, hW7⟩ : ∃ W7, W7 = w6.setCell ⟨X, 10, none⟩ (.string A) := ⟨_, rfl⟩
      have y9 : W7.cell? ⟨X, 9, none⟩ = some (.int .i64 (k : Int)) := by rw [hW7]; exact H7.out.iv.cell 9
      have y10 : W7.cell? ⟨X, 10, none⟩ = some (.string A) := by rw [hW7, HA.out]; rw [HA.out] at H7; exact H7.out.iv.cell 10
      have yz : ∀ j, W7.frozen? ⟨X, j, none⟩ = false := by rw [hW7]; exact H7.out.iv.fz
      have hX7 : X < W7.heap.size := by rw [hW7]; exact H7.out.iv.lt
      go_upto_region 5 with fail
      rw [← hW7] at H7 ⊢
      clear hW7 x9 x10 xz hXs
      by_cases h3 : k = 3
      · obtain ⟨o6, o7⟩ := o5 h3
        obtain rfl : k = 3 := h3
        have H8 : Hid (Ss w0 (W7.setCell ⟨X, 11, none⟩ (.string A)) P X s r d mb (((c.ru 3).f1 a).l1 a)) := by
          rw [HA.out]
          exact H7.out.put HR.out.2.2.2 hPX (set_l1 _ a)
        obtain ⟨W8, hW8⟩ : ∃ W8, W8 = W7.setCell ⟨X, 11, none⟩ (.string A) := ⟨_, rfl⟩
        have x11 : W7.cell? ⟨X, 11, none⟩ = some (.string (tx ((c.ru 3).f1 a).d.l1)) := H7.out.iv.cell 11
        have yz11 := yz 11
        rw [← hW8] at H8
        have cN := next_at W8 P d mb s r H8.out.rd
        unfold tkV at cN
        have htl := tl_tx (hd s.size r).t
        obtain ⟨T2, hT2⟩ : ∃ T2, T2 = hd s.size r := ⟨_, rfl⟩
        rw [← hT2] at cN htl o6 o7
        have hT2' : Hid (T2 = hd s.size r) := hT2
        clear o4 o5 hT2
        go_upto_region 7 with fail
        rw [← hW8]
        clear hW8 y9 y10 yz yz11 x11 hX7 hkk
        go_wp2_with fail
        refine cN.mono ?_
        rintro e w9 ⟨rfl, hb9⟩
        have H9 : Hid (Ss w0 w9 P X s r d mb (((c.ru 3).f1 a).l1 a)) := H8.out.bl hb9
        clear hb9 cN
        by_cases h59 : T2.t = [59]
        · have HQ : Hid (q = .ok ({ c.d with ru := 3, f1 := a, l1 := a }, r)) := o6 h59
          clear o6 o7
          have hb : ((tx T2.t).toList == [59]) = true := by rw [htl, h59]; rfl
          rw [h59] at htl
          generalize tx T2.t = S2 at *
          clear h59
          go_wp2
          go_end0
          rw [HQ.out]
          exact ⟨H9.out.gp, rfl, H9.out.iv, H9.out.rd⟩
        · obtain ⟨o8, o9⟩ := o7 h59
          have hb : ((tx T2.t).toList == [59]) = false := by rw [htl, beq_eq_false_iff_ne]; exact h59
          have hbb : (T2.t == [59]) = false := by rw [beq_eq_false_iff_ne]; exact h59
          have cA := name_at w9 P d mb s r H9.out.rd
          rw [← hT2'.out] at cA
          clear o6 o7 h59
          go_wp2_with fail
          refine cA.mono ?_
          rintro e w10 ⟨hg10, hans⟩
          cases hn : name s.size r with
          | error kp =>
            obtain ⟨k1, p1⟩ := kp
            rw [hn] at hans
            obtain ⟨B, rfl, hB, hA⟩ := hans
            have HQ : Hid (q = .error (k1, p1)) := o8 _ hn
            unfold thrownT
            clear o8 o9 cA hb hbb htl
            go_wp2
            refine ⟨rfl, ?_⟩
            rw [HQ.out]
            exact RuA.err (H9.out.gp.trans hg10) (Nat.le_trans H9.out.gp.size hB) hA
          | ok ar =>
            obtain ⟨b, r'⟩ := ar
            rw [hn] at hans
            obtain ⟨v, rfl, rfl, hR10⟩ := hans
            have HQ : Hid (q = .ok ({ c.d with ru := 3, f1 := a, l1 := b }, r')) := o9 b r' hn
            have H10 := H9.out.go hg10 hR10 hPX
            have H11 : Hid (Ss w0 (w10.setCell ⟨X, 11, none⟩ (.string (tx b))) P X s r' d mb ((((c.ru 3).f1 a).l1 a).l1 b)) := H10.put HR.out.2.2.2 hPX (set_l1 _ b)
            have x11 : w10.cell? ⟨X, 11, none⟩ = some (.string (tx (((c.ru 3).f1 a).l1 a).d.l1)) := H10.iv.cell 11
            have xz := H10.iv.fz 11
            have hXs := H10.iv.lt
            unfold tkV
            clear o8 o9 cA hb hbb htl hn hg10 hR10 H10
            obtain ⟨Bb, hBb⟩ : ∃ Bb, Bb = tx b := ⟨_, rfl⟩
            rw [← hBb] at H11 ⊢
            clear hBb
            go_wp2
            go_end0
            rw [HQ.out]
            exact ⟨H11.out.gp, rfl, H11.out.iv, H11.out.rd⟩
      · have HQ : Hid (q = .ok ({ c.d with ru := k, f1 := a }, r)) := o4 h3
        have hk3' : ((k : Int) == 3) = false := by rw [beq_eq_false_iff_ne]; omega
        clear o4 o5 h3 hk3
        go_wp2
        go_end0
        rw [HQ.out]
        exact ⟨H7.out.gp, rfl, H7.out.iv, H7.out.rd⟩
end Go.Proofs.YtococaecjecjgaaGreatDoor.tm
/- A reader of a template's tokens: kind. -/
namespace Go.Proofs.YtococaecjecjgaaGreatDoor.tm
set_option linter.unusedVariables false
open Go.ChangeShapes Go.WideShapes Go.ChangeAt Go.RowKit Go.Shelf
open mem lx ex

/-- An item's value. -/
def itV (c : C) : Value := .agg (cl c).toArray
/-- What is a number's word. -/
theorem num_is (t : List UInt8) : (numOf t = none ∧ (resv t = true → wdV t = -1)) ∨ ∃ (k : Nat) (p : List UInt8 × Nat × Nat × Bool), k < 12 ∧ numW[k]? = some p ∧ numOf t = some p.2 ∧ wdV t = (k : Int) ∧ resv t = true := by
  unfold numOf wdV resv numOf
  cases hf : numW.findIdx? (fun p => p.1 == t) with
  | none =>
    left
    have h := List.findIdx?_eq_none_iff.1 hf
    have hn : numW.find? (fun p => p.1 == t) = none := by
      rw [List.find?_eq_none]
      intro p hp
      rw [h p hp]; decide
    rw [hn]
    exact ⟨rfl, fun _ => rfl⟩
  | some k =>
    right
    obtain ⟨h1, h2, h3⟩ := List.findIdx?_eq_some_iff_getElem.1 hf
    have hn : numW.find? (fun p => p.1 == t) = some numW[k] := by
      rw [List.find?_eq_some_iff_getElem]
      exact ⟨h2, k, h1, rfl, fun j hj => by have := h3 j hj; simpa using this⟩
    rw [hn]
    refine ⟨k, numW[k], h1, List.getElem?_eq_getElem h1, rfl, rfl, ?_⟩
    simp
theorem nuL_get (k : Nat) (p : List UInt8 × Nat × Nat × Bool) (h : numW[k]? = some p) : nuL[k * 4 + 1]? = some (.int .i64 (p.2.1 : Int)) ∧ nuL[k * 4 + 2]? = some (.int .i64 (p.2.2.1 : Int)) ∧ nuL[k * 4 + 3]? = some (.bool p.2.2.2) := by
  have key : ∀ (l : List (List UInt8 × Nat × Nat × Bool)) (k : Nat), l[k]? = some p → let z := l.flatMap fun p => [Value.string (tx p.1), .int .i64 (p.2.1 : Int), .int .i64 (p.2.2.1 : Int), .bool p.2.2.2]; z[k * 4 + 1]? = some (.int .i64 (p.2.1 : Int)) ∧ z[k * 4 + 2]? = some (.int .i64 (p.2.2.1 : Int)) ∧ z[k * 4 + 3]? = some (.bool p.2.2.2) := by
    intro l
    induction l with
    | nil => intro k h; simp at h
    | cons q l ih =>
      intro k h
      cases k with
      | zero =>
        simp at h
        subst h
        exact ⟨rfl, rfl, rfl⟩
      | succ k =>
        obtain ⟨h1, h2, h3⟩ := ih k (by simpa using h)
        rw [show (k + 1) * 4 + 1 = k * 4 + 1 + 4 by omega, show (k + 1) * 4 + 2 = k * 4 + 2 + 4 by omega, show (k + 1) * 4 + 3 = k * 4 + 3 + 4 by omega]
        exact ⟨h1, h2, h3⟩
  exact key numW k h
/-- What a kind's reading answers. -/
def KV (w : World) (v : Value) (d : D) : Prop := v = itV ⟨d, none, none, 0, 0⟩ ∧ d.ct = none
theorem kind_is (en : Nat) (ts : List Tk) : (∀ w o s, numOf (hd en ts).t = some (w, o, s) → kind en ts = .ok ({ D0 with kd := 1, wd := w, od := o, sg := s }, ts.tail)) ∧
    (numOf (hd en ts).t = none → (∀ e, name en ts = .error e → kind en ts = .error e) ∧ ∀ t r, name en ts = .ok (t, r) → kind en ts = .ok ({ D0 with kd := 3, ty := t }, r)) := by
  unfold kind
  exact ⟨fun w o s h => by rw [h], fun h => by rw [h]; exact ⟨fun e he => by rw [he], fun t r hr => by rw [hr]⟩⟩
def z13 : Array Value := #[.int .i64 0, .int .i64 0, .string ⟨#[]⟩, .string ⟨#[]⟩, .int .i64 0, .int .i64 0, .bool false, .bool false, .pointer none, .int .i64 0, .string ⟨#[]⟩, .string ⟨#[]⟩, .slice none 0 0]
theorem infoI : (Tryz.prog.info? 60).map (·.size) = some 13 := by kernel_rfl
set_option maxRecDepth 10000 in
set_option maxHeartbeats 2000000 in
theorem kind_at (w : World) (P d mb : Nat) (s : ByteArray) (ts : List Tk) (h : RdT w P s ts d mb) (hG : Gt w) (hGP : 6 ≤ P) :
    Calls Tryz.prog 180 #[.pointer (some ⟨P, 0, none⟩)] w fun e w' => Ans KV P s d mb w (kind s.size ts) e w' := by
  have hPw := h.lt
  have hlen := h.hdlen
  obtain ⟨o1, o2⟩ := kind_is s.size ts
  obtain ⟨q, hq⟩ : ∃ q, q = kind s.size ts := ⟨_, rfl⟩
  rw [← hq] at o1 o2 ⊢
  have hb1 : Bl w (w.alloc (.cells z13 60)) := (Bl.refl _).alloc _
  obtain ⟨N, hN⟩ : ∃ N, N = w.heap.size := ⟨_, rfl⟩
  obtain ⟨w1, hw1⟩ : ∃ w1, w1 = w.alloc (.cells z13 60) := ⟨_, rfl⟩
  have hv1 : Iv w1 N ⟨D0, none, none, 0, 0⟩ := ⟨by rw [hw1, hN]; exact new_at _ _⟩
  rw [← hw1] at hb1
  have HR : Hid (RdT w P s ts d mb ∧ Gt w ∧ N = w.heap.size) := ⟨h, hG, hN⟩
  obtain ⟨T, hT⟩ : ∃ T, T = hd s.size ts := ⟨_, rfl⟩
  rw [← hT] at hlen
  have HT : Hid (T = hd s.size ts) := hT
  have HQ : Hid (q = kind s.size ts) := hq
  clear h hG hq hT
  go_enter Tryz.func180, Tryz.ntmps180
  go_upto_region 1 with fail
  change Code.wp _ _ _ _ (w.alloc (.cells z13 60))
  rw [← hw1, ← hN]
  have hR1 := HR.out.1.step hb1
  have cN := fun wx (hb : Bl w1 wx) => next_at wx P d mb s ts (hR1.step hb)
  rw [← HT.out] at cN
  obtain ⟨p, c, _, _, _, d3, _⟩ := (hR1.step (Bl.refl w1).drew).cells
  have HB : Hid (Bl w w1 ∧ Bl w1 w1.drew ∧ Iv w1 N ⟨D0, none, none, 0, 0⟩) := ⟨hb1, (Bl.refl _).drew, hv1⟩
  have hlk := fun wx (hb : Bl w1 wx) => (hR1.step hb).look T.t hlen
  have HK : Hid (∀ wx, Bl w1 wx → (Instr.lookup 100 (.map (some mb)) (.string (tx T.t)) true).run Tryz.prog wx = .ok (.tuple #[.int .i64 (if resv T.t = true then wdV T.t else 0), .bool (resv T.t)]) wx) := hlk
  have hf0 := run_text
  unfold tkV at cN
  obtain ⟨S, hS⟩ : ∃ S, S = tx T.t := ⟨_, rfl⟩
  rw [← hS] at cN HK
  obtain ⟨r, hr⟩ : ∃ r, r = (if resv T.t = true then wdV T.t else 0) := ⟨_, rfl⟩
  obtain ⟨b, hb⟩ : ∃ b, b = resv T.t := ⟨_, rfl⟩
  rw [← hr, ← hb] at HK
  have HS : Hid (S = tx T.t ∧ r = (if resv T.t = true then wdV T.t else 0) ∧ b = resv T.t) := ⟨hS, hr, hb⟩
  clear hlk hR1 hb1 hv1 hw1 hN hS hr hb o1 o2
  go_region_held3 (fun w' => w'.cell? ⟨P, 3, none⟩ = some (.map (some mb))) (first | assumption | exact at_bl ((Bl.refl _).drew) (by assumption))
    (first
      | (go_at_call 133; (with_reducible refine (cN _ HB.out.2.1).mono ?_); rintro e w6 ⟨rfl, hb6⟩; have s6 := at_bl hb6 d3; have HB6 : Hid (Bl w1 w6) := HB.out.2.1.trans hb6; have hlk := HK.out w6 HB6.out; clear hb6))
  obtain ⟨o1, o2⟩ := kind_is s.size ts
  have HO : Hid (Bl w w6 ∧ Iv w6 N ⟨D0, none, none, 0, 0⟩ ∧ RdT w6 P s ts d mb ∧ Gt w6) := ⟨HB.out.1.trans HB6.out, HB.out.2.2.bl HB6.out, HR.out.1.step (HB.out.1.trans HB6.out), HR.out.2.1.bl (HB.out.1.trans HB6.out)⟩
  have HQQ : Hid (q = kind s.size ts) := HQ.out
  have hNs := HO.out.2.1.lt
  clear hlk s6 d3 cN
  rcases num_is T.t with ⟨n1, n2⟩ | ⟨k, pp, n1, n2, n3, n4, n5⟩
  · have hrb : b = true → r < 0 := fun hb => by rw [HS.out.2.1, if_pos (by rw [← HS.out.2.2]; exact hb), n2 (by rw [← HS.out.2.2]; exact hb)]; omega
    have cA := name_at w6 P d mb s ts HO.out.2.2.1
    rw [← HT.out] at cA o2
    obtain ⟨o3, o4⟩ := o2 n1
    cases b with
    | true =>
      have hr0 : decide (0 ≤ r) = false := decide_eq_false (by have := hrb rfl; omega)
      have hr1 : ¬ 0 ≤ r := by have := hrb rfl; omega
      clear hrb
      go_wp2_with fail
      refine cA.mono ?_
      rintro e w7 ⟨hg7, hans⟩
      cases hn : name s.size ts with
      | error kp =>
        obtain ⟨k1, p1⟩ := kp
        rw [hn] at hans
        obtain ⟨B, rfl, hB, hA⟩ := hans
        have HQ2 : Hid (q = .error (k1, p1)) := by rw [HQQ.out]; exact o3 _ hn
        unfold thrownT
        clear cA o3 o4 o1 o2 hn
        go_wp2
        refine ⟨rfl, ?_⟩
        rw [HQ2.out]
        exact Ans.err ((Gp.bl HO.out.1).trans hg7) (Nat.le_trans HO.out.1.size hB) hA
      | ok tr =>
        obtain ⟨t, r'⟩ := tr
        rw [hn] at hans
        obtain ⟨v, rfl, rfl, hR7⟩ := hans
        have hI7 := HO.out.2.1.gp hg7 (by have := HR.out.2.2; omega)
        obtain ⟨q0, q1, q2, q3, q4, q5, q6, q7, q8, q9, q10, q11, q12⟩ := hI7.facts
        obtain ⟨z0, z1, z2, z3, z4, z5, z6, z7, z8, z9, z10, z11, z12⟩ := hI7.fzs
        have hN7 := hI7.lt
        have HQ2 : Hid (q = .ok ({ D0 with kd := 3, ty := t }, r')) := by rw [HQQ.out]; exact o4 _ _ hn
        have H7 : Hid (Gp P w w7 ∧ RdT w7 P s r' d mb ∧ Iv w7 N ⟨D0, none, none, 0, 0⟩ ∧ w.heap.size ≤ N ∧ P < N) := ⟨(Gp.bl HO.out.1).trans hg7, hR7, hI7, by have := HR.out.2.2; omega, by have := HR.out.2.2; omega⟩
        unfold tkV
        clear cA o3 o4 o1 o2 hn hg7 hR7 hI7
        go_wp2
        have hst := H7.out.2.2.1.store ⟨{ D0 with kd := 3, ty := t }, none, none, 0, 0⟩
        have hgp := st_gp (c := ⟨{ D0 with kd := 3, ty := t }, none, none, 0, 0⟩) H7.out.1 H7.out.2.2.2.1
        have hrd := st_rd (c := ⟨{ D0 with kd := 3, ty := t }, none, none, 0, 0⟩) H7.out.2.1 H7.out.2.2.2.2
        rw [HQ2.out]
        exact bodyPost_ret (v := itV ⟨{ D0 with kd := 3, ty := t }, none, none, 0, 0⟩) (results_cell_row rfl _ _ N 60 (cl ⟨{ D0 with kd := 3, ty := t }, none, none, 0, 0⟩).toArray (0, 0) _ rfl hst.h Tryz.underlying60 rfl infoI) rfl ⟨hgp, _, rfl, ⟨rfl, rfl⟩, hrd⟩
    | false =>
      clear hrb
      go_wp2_with fail
      refine cA.mono ?_
      rintro e w7 ⟨hg7, hans⟩
      cases hn : name s.size ts with
      | error kp =>
        obtain ⟨k1, p1⟩ := kp
        rw [hn] at hans
        obtain ⟨B, rfl, hB, hA⟩ := hans
        have HQ2 : Hid (q = .error (k1, p1)) := by rw [HQQ.out]; exact o3 _ hn
        unfold thrownT
        clear cA o3 o4 o1 o2 hn
        go_wp2
        refine ⟨rfl, ?_⟩
        rw [HQ2.out]
        exact Ans.err ((Gp.bl HO.out.1).trans hg7) (Nat.le_trans HO.out.1.size hB) hA
      | ok tr =>
        obtain ⟨t, r'⟩ := tr
        rw [hn] at hans
        obtain ⟨v, rfl, rfl, hR7⟩ := hans
        have hI7 := HO.out.2.1.gp hg7 (by have := HR.out.2.2; omega)
        obtain ⟨q0, q1, q2, q3, q4, q5, q6, q7, q8, q9, q10, q11, q12⟩ := hI7.facts
        obtain ⟨z0, z1, z2, z3, z4, z5, z6, z7, z8, z9, z10, z11, z12⟩ := hI7.fzs
        have hN7 := hI7.lt
        have HQ2 : Hid (q = .ok ({ D0 with kd := 3, ty := t }, r')) := by rw [HQQ.out]; exact o4 _ _ hn
        have H7 : Hid (Gp P w w7 ∧ RdT w7 P s r' d mb ∧ Iv w7 N ⟨D0, none, none, 0, 0⟩ ∧ w.heap.size ≤ N ∧ P < N) := ⟨(Gp.bl HO.out.1).trans hg7, hR7, hI7, by have := HR.out.2.2; omega, by have := HR.out.2.2; omega⟩
        unfold tkV
        clear cA o3 o4 o1 o2 hn hg7 hR7 hI7
        go_wp2
        have hst := H7.out.2.2.1.store ⟨{ D0 with kd := 3, ty := t }, none, none, 0, 0⟩
        have hgp := st_gp (c := ⟨{ D0 with kd := 3, ty := t }, none, none, 0, 0⟩) H7.out.1 H7.out.2.2.2.1
        have hrd := st_rd (c := ⟨{ D0 with kd := 3, ty := t }, none, none, 0, 0⟩) H7.out.2.1 H7.out.2.2.2.2
        rw [HQ2.out]
        exact bodyPost_ret (v := itV ⟨{ D0 with kd := 3, ty := t }, none, none, 0, 0⟩) (results_cell_row rfl _ _ N 60 (cl ⟨{ D0 with kd := 3, ty := t }, none, none, 0, 0⟩).toArray (0, 0) _ rfl hst.h Tryz.underlying60 rfl infoI) rfl ⟨hgp, _, rfl, ⟨rfl, rfl⟩, hrd⟩
  · obtain ⟨k1, k2, k3, k4⟩ : b = true ∧ r = (k : Int) ∧ (0 : Int) ≤ (k : Int) ∧ (k : Int) < 12 := by
      refine ⟨by rw [HS.out.2.2]; exact n5, by rw [HS.out.2.1, if_pos n5, n4], by omega, by omega⟩
    subst k1 k2
    have cT := take_at w6 P d mb s ts HO.out.2.2.1
    rw [← HT.out] at cT o1
    unfold tkV at cT
    rw [← HS.out.1] at cT
    obtain ⟨pt, wd, od, sg⟩ := pp
    have HQ2 : Hid (q = .ok ({ D0 with kd := 1, wd := wd, od := od, sg := sg }, ts.tail)) := by rw [HQQ.out]; exact o1 _ _ _ n3
    clear o1 o2 n1 n3 n4 n5
    have d0 : decide ((0 : Int) ≤ (k : Int)) = true := decide_eq_true k3
    go_wp2_with fail
    refine cT.mono ?_
    rintro e w7 ⟨rfl, hR7, hg7⟩
    have hI7 := HO.out.2.1.gp hg7 (by have := HR.out.2.2; omega)
    have hG7 := HO.out.2.2.2.gp hg7 hGP (by have := HO.out.1.size; omega)
    obtain ⟨m1, m2, m3⟩ := nuL_get k _ n2
    have g1 : w7.cell? ⟨0, k * 4 + 1, none⟩ = some (.int .i64 (wd : Int)) := by have := hG7.nu _ _ m1; rw [Nat.zero_add] at this; exact this
    have g2 : w7.cell? ⟨0, k * 4 + 2, none⟩ = some (.int .i64 (od : Int)) := by have := hG7.nu _ _ m2; rw [Nat.zero_add] at this; exact this
    have g3 : w7.cell? ⟨0, k * 4 + 3, none⟩ = some (.bool sg) := by have := hG7.nu _ _ m3; rw [Nat.zero_add] at this; exact this
    have H7 : Hid (Gp P w w7 ∧ RdT w7 P s ts.tail d mb ∧ Iv w7 N ⟨D0, none, none, 0, 0⟩ ∧ w.heap.size ≤ N ∧ P < N) := ⟨(Gp.bl HO.out.1).trans hg7, hR7, hI7, by have := HR.out.2.2; omega, by have := HR.out.2.2; omega⟩
    obtain ⟨q0, q1, q2, q3, q4, q5, q6, q7, q8, q9, q10, q11, q12⟩ := (hI7.bl (Bl.refl w7).drew).facts
    obtain ⟨z0, z1, z2, z3, z4, z5, z6, z7, z8, z9, z10, z11, z12⟩ := (hI7.bl (Bl.refl w7).drew).fzs
    obtain ⟨a0, a1, a2, a3, a4, a5, a6, a7, a8, a9, a10, a11, a12⟩ := hI7.facts
    obtain ⟨b0, b1, b2, b3, b4, b5, b6, b7, b8, b9, b10, b11, b12⟩ := hI7.fzs
    have g1d := at_bl (Bl.refl w7).drew g1
    have g2d := at_bl (Bl.refl w7).drew g2
    have g3d := at_bl (Bl.refl w7).drew g3
    clear hg7 hR7 hI7 hG7 cT m1 m2 m3 g1 g2 g3 n2
    go_upto_region 4 with fail
    go_region
    have hst := (H7.out.2.2.1.store ⟨{ D0 with kd := 1, wd := wd, od := od, sg := sg }, none, none, 0, 0⟩).bl (Bl.refl _).drew
    have hgp := (st_gp (c := ⟨{ D0 with kd := 1, wd := wd, od := od, sg := sg }, none, none, 0, 0⟩) H7.out.1 H7.out.2.2.2.1).trans (Gp.bl (Bl.refl _).drew)
    have hrd := (st_rd (c := ⟨{ D0 with kd := 1, wd := wd, od := od, sg := sg }, none, none, 0, 0⟩) H7.out.2.1 H7.out.2.2.2.2).step (Bl.refl _).drew
    obtain ⟨W9, hW9⟩ : ∃ W9, W9 = (st13 w7 N ⟨{ D0 with kd := 1, wd := wd, od := od, sg := sg }, none, none, 0, 0⟩).drew := ⟨_, rfl⟩
    change Exit.then _ _ _ _ (st13 w7 N ⟨{ D0 with kd := 1, wd := wd, od := od, sg := sg }, none, none, 0, 0⟩).drew
    rw [← hW9] at hst hgp hrd ⊢
    clear hW9 a0 a1 a2 a3 a4 a5 a6 a7 a8 a9 a10 a11 a12 b0 b1 b2 b3 b4 b5 b6 b7 b8 b9 b10 b11 b12 q0 q1 q2 q3 q4 q5 q6 q7 q8 q9 q10 q11 q12 z0 z1 z2 z3 z4 z5 z6 z7 z8 z9 z10 z11 z12 g1d g2d g3d
    have HH : Hid (Iv W9 N ⟨{ D0 with kd := 1, wd := wd, od := od, sg := sg }, none, none, 0, 0⟩ ∧ Gp P w W9 ∧ RdT W9 P s ts.tail d mb) := ⟨hst, hgp, hrd⟩
    clear hst hgp hrd
    go_wp2
    rw [HQ2.out]
    exact bodyPost_ret (v := itV ⟨{ D0 with kd := 1, wd := wd, od := od, sg := sg }, none, none, 0, 0⟩) (results_cell_row rfl _ _ N 60 (cl ⟨{ D0 with kd := 1, wd := wd, od := od, sg := sg }, none, none, 0, 0⟩).toArray (0, 0) _ rfl HH.out.1.h Tryz.underlying60 rfl infoI) rfl ⟨HH.out.2.1, _, rfl, ⟨rfl, rfl⟩, HH.out.2.2⟩
end Go.Proofs.YtococaecjecjgaaGreatDoor.tm
/- A reader of a template's tokens: part. -/
namespace Go.Proofs.YtococaecjecjgaaGreatDoor.tm
set_option linter.unusedVariables false
open Go.ChangeShapes Go.WideShapes Go.ChangeAt Go.RowKit Go.Shelf
open mem lx ex

theorem kx_item {w w' : World} {X : Nat} {c : C} (hI : Iv w X c) (hg : w.grownBy w' (some X)) : Kx w w' := fun b cs hb => by
  rw [hg.block b (lt_of_heap hb) (fun e => by
    injection e with e
    have := hI.h
    rw [← e, hb] at this
    simp at this)]
  exact hb
theorem kx_gp {P d mb : Nat} {s : ByteArray} {ts : List Tk} {w w' : World} (h : RdT w P s ts d mb) (hg : Gp P w w') : Kx w w' := fun b cs hb => by
  obtain ⟨cs', hcs⟩ := h.is
  rw [hg.block b (lt_of_heap hb) (fun e => by rw [e, hcs] at hb; simp at hb)]
  exact hb
theorem kx_st {w : World} {N : Nat} {c c' : C} (hI : Iv w N c) : Kx w (st13 w N c') := by
  have step : ∀ (w : World) (a : Array Value) (j : Nat) (u : Value), w.heap[N]? = some (.cells a 60 (0, 0)) → Kx w (w.setCell ⟨N, j, none⟩ u) ∧ ∃ a', (w.setCell ⟨N, j, none⟩ u).heap[N]? = some (.cells a' 60 (0, 0)) := by
    intro w a j u h
    refine ⟨fun b cs hb => ?_, _, heap_set h⟩
    rw [(grown_set w N j u).block b (lt_of_heap hb) (fun e => by injection e with e; rw [e, h] at hb; simp at hb)]
    exact hb
  have go : ∀ (l : List Value) (j : Nat) (w : World) (a : Array Value), w.heap[N]? = some (.cells a 60 (0, 0)) → Kx w ((l.foldl (fun (q : World × Nat) u => (q.1.setCell ⟨N, q.2, none⟩ u, q.2 + 1)) (w, j)).1) := by
    intro l
    induction l with
    | nil => intro j w a h; exact fun b cs hb => hb
    | cons u l ih =>
      intro j w a h
      obtain ⟨k1, a', k2⟩ := step w a j u h
      exact Kx.trans k1 (ih (j + 1) _ a' k2)
  exact go (cl c') 0 w _ hI.h
/-- All that a walk keeps, of an item under way. -/
structure Sq (w0 w : World) (P X : Nat) (s : ByteArray) (ts : List Tk) (d mb : Nat) (c : C) : Prop where
  ss : Ss w0 w P X s ts d mb c
  o : IsO w c.pc c.d.ct
theorem Sq.put {w0 w : World} {P X j : Nat} {s : ByteArray} {ts : List Tk} {d mb : Nat} {c c' : C} {u : Value} (h : Sq w0 w P X s ts d mb c) (hX : w0.heap.size ≤ X) (hPX : P < X) (he : (cl c).toArray.setIfInBounds j u = (cl c').toArray) (hp : c'.pc = c.pc ∧ c'.d.ct = c.d.ct) : Sq w0 (w.setCell ⟨X, j, none⟩ u) P X s ts d mb c' :=
  ⟨h.ss.put hX hPX he, by rw [hp.1, hp.2]; exact h.o.keep (kx_item h.ss.iv (grown_set w X j u))⟩
theorem Sq.go {w0 w w' : World} {P X : Nat} {s : ByteArray} {ts ts' : List Tk} {d mb : Nat} {c : C} (h : Sq w0 w P X s ts d mb c) (hg : Gp P w w') (hr : RdT w' P s ts' d mb) (hPX : P < X) : Sq w0 w' P X s ts' d mb c := ⟨h.ss.go hg hr hPX, h.o.keep (kx_gp h.ss.rd hg)⟩
theorem Sq.bl {w0 w w' : World} {P X : Nat} {s : ByteArray} {ts : List Tk} {d mb : Nat} {c : C} (h : Sq w0 w P X s ts d mb c) (hb : Bl w w') : Sq w0 w' P X s ts d mb c := ⟨h.ss.bl hb, h.o.keep (Kx.bl hb)⟩
/-- A world, cut short. -/
def cutW (w : World) (n : Nat) : World := { w with heap := w.heap.extract 0 n }
theorem cutW_size (w : World) (n : Nat) (h : n ≤ w.heap.size) : (cutW w n).heap.size = n := by
  show (w.heap.extract 0 n).size = n
  rw [Array.size_extract]; omega
theorem cutW_block (w : World) (n k : Nat) (h : k < n) (hn : n ≤ w.heap.size) : (cutW w n).heap[k]? = w.heap[k]? := by
  show (w.heap.extract 0 n)[k]? = _
  rw [Array.getElem?_extract]
  rw [if_pos (by omega), Nat.zero_add]
theorem cutW_gp (P : Nat) (w : World) (n : Nat) (h : n ≤ w.heap.size) : Gp P (cutW w n) w := ⟨rfl, rfl, rfl, by rw [cutW_size w n h]; exact h, fun k hk _ => by rw [cutW_size w n h] at hk; exact (cutW_block w n k hk h).symm⟩
/-- What a part's reading tells. -/
def PV (w : World) (v : Value) (d : D) : Prop := ∃ pc, v = itV ⟨d, pc, none, 0, 0⟩ ∧ IsO w pc d.ct
theorem part_is (en : Nat) (ts : List Tk) : (∀ e, kind en ts = .error e → part nb en ts = .error e) ∧ ∀ d1 r1, kind en ts = .ok (d1, r1) →
    (∀ e, name en r1 = .error e → part nb en ts = .error e) ∧ ∀ t r2, name en r1 = .ok (t, r2) →
    (∀ e, mark nb en { d1 with nm := t } r2 = .error e → part nb en ts = .error e) ∧ ∀ d3 r3, mark nb en { d1 with nm := t } r2 = .ok (d3, r3) →
    ((hd en r3).t = [59] → part nb en ts = .ok (d3, r3.tail)) ∧ (¬ (hd en r3).t = [59] → part nb en ts = .error (3, (hd en r3).a)) := by
  unfold part
  refine ⟨fun e h => by rw [h], fun d1 r1 h1 => ?_⟩
  rw [h1]
  dsimp only
  refine ⟨fun e h => by rw [h], fun t r2 h2 => ?_⟩
  rw [h2]
  dsimp only
  refine ⟨fun e h => by rw [h], fun d3 r3 h3 => ?_⟩
  rw [h3]
  dsimp only
  unfold want
  exact ⟨fun h => by rw [if_pos h], fun h => by rw [if_neg h]⟩
theorem mark_is' (en : Nat) (d : D) (ts : List Tk) : ((hd en ts).t = [91] → (∀ e, many nb en ts = .error e → mark nb en d ts = .error e) ∧ ∀ x r, many nb en ts = .ok (x, r) → mark nb en d ts = .ok ({ d with mn := true, ct := some x }, r)) ∧
    ((hd en ts).t = [61] → d.kd = 1 → mark nb en d ts = rule en d ts.tail) ∧ (¬ (hd en ts).t = [91] → ¬ ((hd en ts).t = [61] ∧ d.kd = 1) → mark nb en d ts = .ok (d, ts)) := by
  unfold mark
  refine ⟨fun h => ?_, fun h1 h2 => ?_, fun h1 h2 => by rw [if_neg h1, if_neg h2]⟩
  · rw [if_pos h]
    exact ⟨fun e he => by rw [he], fun x r hx => by rw [hx]⟩
  · rw [if_neg (by rw [h1]; decide), if_pos ⟨h1, h2⟩]
theorem rule_ct {en : Nat} {d d' : D} {ts r : List Tk} (h : rule en d ts = .ok (d', r)) : d'.ct = d.ct := by
  unfold rule at h
  split at h
  · cases h
  · split at h
    · cases h
    · split at h
      · split at h
        · injection h with h; injection h with h _; rw [← h]
        · split at h
          · cases h
          · injection h with h; injection h with h _; rw [← h]
      · injection h with h; injection h with h _; rw [← h]
/-- The way out: want ; and the item told. -/
theorem Ans.of_err {α : Type} {V : World → Value → α → Prop} {P d mb : Nat} {s : ByteArray} {w w' : World} {q : Rs α} {c : Int} {p B : Nat} (hq : q = .error (c, p)) (hg : Gp P w w') (hB : w.heap.size ≤ B) (hA : AtX w' B c (p : Int)) : Ans V P s d mb w q (thrownT B) w' := by rw [hq]; exact Ans.err hg hB hA
set_option maxRecDepth 10000 in
set_option maxHeartbeats 2000000 in
theorem part_at (w : World) (P d mb : Nat) (s : ByteArray) (ts : List Tk) (h : RdT w P s ts d mb) (hG : Gt w) (hGP : 6 ≤ P) :
    Calls Tryz.prog 162 #[.pointer (some ⟨P, 0, none⟩)] w fun e w' => Ans PV P s d mb w (part nb s.size ts) e w' := by
  have hPw := h.lt
  have hb1 : Bl w (w.alloc (.cells z13 60)) := (Bl.refl _).alloc _
  obtain ⟨N, hN⟩ : ∃ N, N = w.heap.size := ⟨_, rfl⟩
  obtain ⟨w1, hw1⟩ : ∃ w1, w1 = w.alloc (.cells z13 60) := ⟨_, rfl⟩
  have hv1 : Iv w1 N ⟨D0, none, none, 0, 0⟩ := ⟨by rw [hw1, hN]; exact new_at _ _⟩
  rw [← hw1] at hb1
  obtain ⟨o1, o2⟩ := part_is s.size ts
  obtain ⟨q, hq⟩ : ∃ q, q = part nb s.size ts := ⟨_, rfl⟩
  rw [← hq] at o1 o2 ⊢
  have ck := kind_at w1 P d mb s ts (h.step hb1) (hG.bl hb1) hGP
  have HR : Hid (RdT w P s ts d mb ∧ Gt w ∧ N = w.heap.size ∧ Bl w w1 ∧ Iv w1 N ⟨D0, none, none, 0, 0⟩) := ⟨h, hG, hN, hb1, hv1⟩
  have hf0 := run_text
  clear h hG hb1 hv1 hq
  go_enter Tryz.func162, Tryz.ntmps162
  go_upto_region 1 with fail
  change Code.wp _ _ _ _ (w.alloc (.cells z13 60))
  rw [← hw1, ← hN]
  clear hw1 hN
  go_wp2_with fail
  refine ck.mono ?_
  rintro e w2 ⟨hg2, hans⟩
  cases hk : kind s.size ts with
  | error kp =>
    obtain ⟨k1, p1⟩ := kp
    rw [hk] at hans
    obtain ⟨B, rfl, hB, hA⟩ := hans
    have HQ : Hid (q = .error (k1, p1)) := o1 _ hk
    unfold thrownT
    clear ck o1 o2 hk
    go_wp2
    exact ⟨rfl, Ans.of_err HQ.out ((Gp.bl HR.out.2.2.2.1).trans hg2) (Nat.le_trans HR.out.2.2.2.1.size hB) hA⟩
  | ok dr =>
    obtain ⟨d1, r1⟩ := dr
    rw [hk] at hans
    obtain ⟨v, rfl, ⟨rfl, hct⟩, hR2⟩ := hans
    obtain ⟨o3, o4⟩ := o2 _ _ hk
    obtain ⟨X, hX⟩ : ∃ X, X = w2.heap.size := ⟨_, rfl⟩
    obtain ⟨c1, hc1⟩ : ∃ c1 : C, c1 = ⟨d1, none, none, 0, 0⟩ := ⟨_, rfl⟩
    obtain ⟨w3, hw3⟩ : ∃ w3, w3 = w2.alloc (.cells (cl c1).toArray 60) := ⟨_, rfl⟩
    have hb3 : Bl w2 w3 := by rw [hw3]; exact (Bl.refl _).alloc _
    have hv3 : Iv w3 X c1 := ⟨by rw [hw3, hX]; exact new_at _ _⟩
    have hP2 : P < w2.heap.size := hR2.lt
    have hN2 := HR.out.2.2.2.2.gp hg2 (by have := HR.out.2.2.1; omega)
    have H3 : Hid (Sq w w3 P X s r1 d mb c1 ∧ w.heap.size ≤ X ∧ P < X ∧ Gt w3 ∧ Iv w3 N ⟨D0, none, none, 0, 0⟩ ∧ N < X ∧ P < N) := by
      refine ⟨⟨⟨((Gp.bl HR.out.2.2.2.1).trans hg2).trans (Gp.bl hb3), hR2.step hb3, hv3⟩, ?_⟩, ?_, by omega, ?_, hN2.bl hb3, by have := hN2.lt; omega, by have := HR.out.2.2.1; omega⟩
      · rw [hc1]; show IsO w3 none d1.ct; rw [hct]; rfl
      · have := HR.out.2.2.2.1.size; have := hg2.size; omega
      · exact ((HR.out.2.1.bl HR.out.2.2.2.1).gp hg2 hGP (by have := HR.out.2.2.2.1.size; omega)).bl hb3
    have HD : Hid (c1.d = d1 ∧ c1 = ⟨d1, none, none, 0, 0⟩) := ⟨by rw [hc1], hc1⟩
    unfold itV
    rw [← hc1]
    have hcl : (cl c1).toArray = #[.int .i64 (c1.d.kd : Int), .int .i64 (c1.d.at_ : Int), .string (tx c1.d.nm), .string (tx c1.d.ty), .int .i64 (c1.d.wd : Int), .int .i64 (c1.d.od : Int), .bool c1.d.sg, .bool c1.d.mn, .pointer c1.pc, .int .i64 (c1.d.ru : Int), .string (tx c1.d.f1), .string (tx c1.d.l1), .slice c1.p c1.n c1.c] := rfl
    rw [hcl] at hw3 ⊢
    have cA := name_at w3 P d mb s r1 H3.out.1.ss.rd
    clear hc1 hb3 hv3 hP2 hN2 hg2 hR2 hct hk o1 o2 ck hcl
    go_upto_region 2 with fail
    rw [← hw3, ← hX]
    clear hw3 hX
    -- the name
    generalize (Value.agg #[.int .i64 (c1.d.kd : Int), .int .i64 (c1.d.at_ : Int), .string (tx c1.d.nm), .string (tx c1.d.ty), .int .i64 (c1.d.wd : Int), .int .i64 (c1.d.od : Int), .bool c1.d.sg, .bool c1.d.mn, .pointer c1.pc, .int .i64 (c1.d.ru : Int), .string (tx c1.d.f1), .string (tx c1.d.l1), .slice c1.p c1.n c1.c]) = AV
    go_wp2_with fail
    refine cA.mono ?_
    rintro e w4 ⟨hg4, hans⟩
    cases hn : name s.size r1 with
    | error kp =>
      obtain ⟨k1, p1⟩ := kp
      rw [hn] at hans
      obtain ⟨B, rfl, hB, hA⟩ := hans
      have HQ : Hid (q = .error (k1, p1)) := o3 _ hn
      unfold thrownT
      clear cA o3 o4 hn
      go_wp2
      exact ⟨rfl, Ans.of_err HQ.out (H3.out.1.ss.gp.trans hg4) (Nat.le_trans H3.out.1.ss.gp.size hB) hA⟩
    | ok tr =>
      obtain ⟨t, r2⟩ := tr
      rw [hn] at hans
      obtain ⟨v, rfl, rfl, hR4⟩ := hans
      obtain ⟨o5, o6⟩ := o4 _ _ hn
      have hPX := H3.out.2.2.1
      have H4 : Hid (Sq w w4 P X s r2 d mb c1 ∧ Iv w4 N ⟨D0, none, none, 0, 0⟩ ∧ Gt w4) := ⟨H3.out.1.go hg4 hR4 hPX, H3.out.2.2.2.2.1.gp hg4 (by have := H3.out; omega), H3.out.2.2.2.1.gp hg4 hGP (by have := H3.out.1.ss.rd.lt; omega)⟩
      have hNX : N ≠ X := by have := H3.out; omega
      have x2 : w4.cell? ⟨X, 2, none⟩ = some (.string (tx c1.d.nm)) := H4.out.1.ss.iv.cell 2
      have z2 := H4.out.1.ss.iv.fz 2
      have hXs := H4.out.1.ss.iv.lt
      obtain ⟨w5, hw5⟩ : ∃ w5, w5 = w4.setCell ⟨X, 2, none⟩ (.string (tx t)) := ⟨_, rfl⟩
      have H5 : Hid (Sq w w5 P X s r2 d mb (c1.nm t) ∧ Iv w5 N ⟨D0, none, none, 0, 0⟩ ∧ Gt w5) := by
        rw [hw5]
        refine ⟨H4.out.1.put H3.out.2.1 hPX (set_nm c1 t) ⟨rfl, rfl⟩, ⟨?_⟩, ?_⟩
        · rw [(grown_set w4 X 2 _).block N H4.out.2.1.lt (fun e => hNX (by injection e))]; exact H4.out.2.1.h
        · exact H4.out.2.2.below ⟨rfl, rfl, rfl, by simp [World.setCell], fun k hk => (grown_set w4 X 2 _).block k (by omega) (fun e => by injection e with e; omega)⟩
      have HD5 : Hid ((c1.nm t).d = { d1 with nm := t } ∧ c1.nm t = ⟨{ d1 with nm := t }, none, none, 0, 0⟩) := by
        obtain ⟨e1, e2⟩ := HD.out
        subst e2
        exact ⟨rfl, rfl⟩
      obtain ⟨c5, hc5⟩ : ∃ c5, c5 = c1.nm t := ⟨_, rfl⟩
      rw [← hc5] at H5 HD5
      have cN := next_at w5 P d mb s r2 H5.out.1.ss.rd
      obtain ⟨T, hT⟩ : ∃ T, T = hd s.size r2 := ⟨_, rfl⟩
      rw [← hT] at cN
      have htl := tl_tx T.t
      have HT : Hid (T = hd s.size r2) := hT
      obtain ⟨m1, m2, m3⟩ := mark_is' s.size { d1 with nm := t } r2
      rw [← hT] at m1 m2 m3
      unfold tkV at cN ⊢
      clear hc5 hg4 hR4 hn cA o3 o4 hT
      go_upto_region 3 with fail
      rw [← hw5]
      clear hw5 x2 z2 hXs
      go_wp2_with fail
      refine cN.mono ?_
      rintro e w6 ⟨rfl, hb6⟩
      have H6 : Hid (Sq w w6 P X s r2 d mb c5 ∧ Iv w6 N ⟨D0, none, none, 0, 0⟩ ∧ Gt w6) := ⟨H5.out.1.bl hb6, H5.out.2.1.bl hb6, H5.out.2.2.bl hb6⟩
      clear hb6 cN
      by_cases h91 : T.t = [91]
      · -- many
        obtain ⟨m4, m5⟩ := m1 h91
        have cM := many_at w6 P d mb s r2 H6.out.1.ss.rd H6.out.2.2 hGP
        generalize tx T.t = S at *
        rw [h91] at htl
        clear m1 m2 m3 h91
        go_wp2_with fail
        refine cM.mono ?_
        rintro e w7 ⟨hg7, hans⟩
        cases hm : many nb s.size r2 with
        | error kp =>
          obtain ⟨k1, p1⟩ := kp
          rw [hm] at hans
          obtain ⟨B, rfl, hB, hA⟩ := hans
          have HQ : Hid (q = .error (k1, p1)) := o5 _ (m4 _ hm)
          unfold thrownT
          clear cM o5 o6 m4 m5 hm
          go_wp2
          exact ⟨rfl, Ans.of_err HQ.out (H6.out.1.ss.gp.trans hg7) (Nat.le_trans H6.out.1.ss.gp.size hB) hA⟩
        | ok xr =>
          obtain ⟨x, r3⟩ := xr
          rw [hm] at hans
          obtain ⟨v, rfl, hx, hR7⟩ := hans
          obtain ⟨vb, rfl, _⟩ := hx.ptr
          have HQ9 := o6 _ _ (m5 _ _ hm)
          have H7 := H6.out.1.go hg7 hR7 hPX
          have hN7 := H6.out.2.1.gp hg7 (by have := H3.out; omega)
          obtain ⟨c9, hc9⟩ : ∃ c9 : C, c9 = ⟨{ d1 with nm := t, mn := true, ct := some x }, some ⟨vb, 0, none⟩, none, 0, 0⟩ := ⟨_, rfl⟩
          have x7 : w7.cell? ⟨X, 7, none⟩ = some (.bool c5.d.mn) := H7.ss.iv.cell 7
          have x8 : w7.cell? ⟨X, 8, none⟩ = some (.pointer c5.pc) := H7.ss.iv.cell 8
          have z7 := H7.ss.iv.fz 7
          have z8 := H7.ss.iv.fz 8
          have hXs := H7.ss.iv.lt
          obtain ⟨w8, hw8⟩ : ∃ w8, w8 = (w7.setCell ⟨X, 7, none⟩ (.bool true)).setCell ⟨X, 8, none⟩ (.pointer (some ⟨vb, 0, none⟩)) := ⟨_, rfl⟩
          have H9 : Hid (Sq w w8 P X s r3 d mb c9 ∧ Iv w8 N ⟨D0, none, none, 0, 0⟩ ∧ c9 = ⟨{ d1 with nm := t, mn := true, ct := some x }, c9.pc, none, 0, 0⟩) := by
            have e5 := HD5.out.2
            have k1 := H7.ss.put (j := 7) (u := .bool true) (c' := ⟨{ d1 with nm := t, mn := true }, none, none, 0, 0⟩) H3.out.2.1 hPX (by rw [e5]; rfl)
            have k2 := k1.put (j := 8) (u := .pointer (some ⟨vb, 0, none⟩)) (c' := c9) H3.out.2.1 hPX (by rw [hc9]; rfl)
            have kx1 : Kx w7 (w7.setCell ⟨X, 7, none⟩ (.bool true)) := kx_item H7.ss.iv (grown_set w7 X 7 _)
            have kx2 : Kx (w7.setCell ⟨X, 7, none⟩ (.bool true)) w8 := by rw [hw8]; exact kx_item k1.iv (grown_set _ X 8 _)
            rw [← hw8] at k2
            refine ⟨⟨k2, ?_⟩, ⟨?_⟩, by rw [hc9]⟩
            · rw [hc9]
              exact IsX.keep (kx1.trans kx2) hx
            · rw [hw8, (grown_set _ X 8 _).block N (by simp [World.setCell]; exact hN7.lt) (fun e => hNX (by injection e)), (grown_set w7 X 7 _).block N hN7.lt (fun e => hNX (by injection e))]; exact hN7.h
          clear hc9 hg7 hR7 hx H7 hN7 hm m4 m5 cM o5 o6
          go_upto_region 9 with fail
          rw [← hw8]
          clear hw8 x7 x8 z7 z8 hXs
          have cW := want_at ⟨#[59]⟩ w8 P d mb s r3 H9.out.1.ss.rd
          rw [show L ⟨#[59]⟩ = [59] from rfl] at cW
          obtain ⟨HQy, HQn⟩ := HQ9
          by_cases h59 : (hd s.size r3).t = [59]
          · have HQ : Hid (q = .ok ({ d1 with nm := t, mn := true, ct := some x }, r3.tail)) := HQy h59
            rw [wantU_yes h59] at cW
            clear HQy HQn h59
            go_wp2_with fail
            refine cW.mono ?_
            rintro e wy ⟨hgy, vy, rfl, rfl, hRy⟩
            have HY : Hid (Sq w wy P X s r3.tail d mb c9 ∧ Iv wy N ⟨D0, none, none, 0, 0⟩ ∧ w.heap.size ≤ N ∧ P < N ∧ c9 = ⟨{ d1 with nm := t, mn := true, ct := some x }, c9.pc, none, 0, 0⟩) := ⟨H9.out.1.go hgy hRy (by have := H3.out; omega), H9.out.2.1.gp hgy (by have := H3.out; omega), by have := HR.out.2.2.1; omega, H3.out.2.2.2.2.2.2, H9.out.2.2⟩
            obtain ⟨q0, q1, q2, q3, q4, q5, q6, q7, q8, q9, q10, q11, q12⟩ := HY.out.2.1.facts
            obtain ⟨z0, z1, z2, z3, z4, z5, z6, z7, z8, z9, z10, z11, z12⟩ := HY.out.2.1.fzs
            obtain ⟨x0, x1, x2, x3, x4, x5, x6, x7, x8, x9, x10, x11, x12⟩ := HY.out.1.ss.iv.facts
            have hNy := HY.out.2.1.lt
            have hXy := HY.out.1.ss.iv.lt
            unfold tkV
            clear cW hgy hRy
            go_wp2
            have hst := HY.out.2.1.store c9
            have hgp := st_gp (c := c9) HY.out.1.ss.gp HY.out.2.2.1
            have hrd := st_rd (c := c9) HY.out.1.ss.rd HY.out.2.2.2.1
            have hox := HY.out.1.o.keep (kx_st (c' := c9) HY.out.2.1)
            rw [HQ.out]
            refine bodyPost_ret (v := itV c9) (results_cell_row rfl _ _ N 60 (cl c9).toArray (0, 0) _ rfl hst.h Tryz.underlying60 rfl infoI) rfl ⟨hgp, _, rfl, ⟨c9.pc, ?_, ?_⟩, hrd⟩
            · rw [← HY.out.2.2.2.2]
            · have e : c9.d = { d1 with nm := t, mn := true, ct := some x } := by have e := HY.out.2.2.2.2; exact congrArg C.d e
              rw [e] at hox
              exact hox
          · have HQ : Hid (q = .error (3, (hd s.size r3).a)) := HQn h59
            rw [wantU_no h59] at cW
            clear HQy HQn h59
            go_wp2_with fail
            refine cW.mono ?_
            rintro e wy ⟨hgy, B, rfl, hB, hA⟩
            unfold thrownT
            clear cW
            go_wp2
            exact ⟨rfl, Ans.of_err HQ.out (H9.out.1.ss.gp.trans hgy) (Nat.le_trans H9.out.1.ss.gp.size hB) hA⟩
      · by_cases h61 : T.t = [61]
        · have x0 : w6.cell? ⟨X, 0, none⟩ = some (.int .i64 (c5.d.kd : Int)) := H6.out.1.ss.iv.cell 0
          have e5 : c5.d.kd = d1.kd := by rw [HD5.out.1]
          rw [e5] at x0
          by_cases hkd : d1.kd = 1
          · -- a rule
            have m2' := m2 h61 hkd
            rw [hkd] at x0
            have x0' : w6.cell? ⟨X, 0, none⟩ = some (.int .i64 1) := x0
            have cT := take_at w6 P d mb s r2 H6.out.1.ss.rd
            rw [← HT.out] at cT
            unfold tkV at cT
            generalize tx T.t = S at *
            rw [h61] at htl
            clear m1 m2 m3 h61 h91 x0 e5
            go_wp2_with fail
            refine cT.mono ?_
            rintro e w7 ⟨rfl, hR7, hg7⟩
            have H7 : Hid (Sq w w7 P X s r2.tail d mb c5 ∧ Iv w7 N ⟨D0, none, none, 0, 0⟩ ∧ Gt w7) := ⟨H6.out.1.go hg7 hR7 hPX, H6.out.2.1.gp hg7 (by have := H3.out; omega), H6.out.2.2.gp hg7 hGP (by have := H6.out.1.ss.rd.lt; omega)⟩
            have hX7 : X ≤ w7.heap.size := by have := H7.out.1.ss.iv.lt; omega
            have cR := rule_at (cutW w7 X) w7 P X d mb s r2.tail c5 H7.out.1.ss.rd (cutW_gp P w7 X hX7) (by rw [cutW_size w7 X hX7]; exact Nat.le_refl _) hPX H7.out.1.ss.iv H7.out.2.2 hGP
            have HX7 : Hid (X ≤ w7.heap.size) := hX7
            rw [HD5.out.1] at cR
            clear cT hg7 hR7 x0' hX7
            go_wp2_with fail
            refine cR.mono ?_
            rintro e w8 ⟨hg8, hans⟩
            have hg78 : Gp P w w8 := ⟨hg8.os.trans (H7.out.1.ss.gp.os), hg8.tape.trans H7.out.1.ss.gp.tape, hg8.output.trans H7.out.1.ss.gp.output, by have := hg8.size; rw [cutW_size w7 X HX7.out] at this; have := H3.out.2.1; omega, fun k hk hne => by
              have h1 := H3.out.2.1
              rw [hg8.block k (by rw [cutW_size w7 X HX7.out]; omega) hne, cutW_block w7 X k (by omega) HX7.out]
              exact H7.out.1.ss.gp.block k hk hne⟩
            cases hm : rule s.size { d1 with nm := t } r2.tail with
            | error kp =>
              obtain ⟨k1, p1⟩ := kp
              rw [hm] at hans
              obtain ⟨B, rfl, hB, hA⟩ := hans
              have HQ : Hid (q = .error (k1, p1)) := o5 _ (by rw [m2', hm])
              unfold thrownT
              clear cR o5 o6 hm m2'
              go_wp2
              exact ⟨rfl, Ans.of_err HQ.out hg78 (by rw [cutW_size w7 X HX7.out] at hB; have := H3.out.2.1; omega) hA⟩
            | ok xr =>
              obtain ⟨d3, r3⟩ := xr
              rw [hm] at hans
              obtain ⟨rfl, hI8, hR8⟩ := hans
              have HQ9 := o6 d3 r3 (by rw [m2', hm])
              obtain ⟨c9, hc9⟩ : ∃ c9 : C, c9 = { c5 with d := d3 } := ⟨_, rfl⟩
              have H9 : Hid (Sq w w8 P X s r3 d mb c9 ∧ Iv w8 N ⟨D0, none, none, 0, 0⟩ ∧ c9 = ⟨d3, c9.pc, none, 0, 0⟩) := by
                have e5 := HD5.out.2
                rw [hc9]
                refine ⟨⟨⟨hg78, hR8, hI8⟩, ?_⟩, ⟨?_⟩, by rw [e5]⟩
                · have h9 := rule_ct hm
                  show IsO w8 c5.pc d3.ct
                  rw [h9, e5]
                  have h5 := HD.out.2
                  have := H3.out.1.o
                  rw [h5] at this
                  cases hct : d1.ct with
                  | none => rfl
                  | some x =>
                    exfalso
                    have e : (⟨d1, none, none, 0, 0⟩ : C).d.ct = some x := hct
                    rw [e] at this
                    obtain ⟨b, hb, _⟩ := IsX.ptr this
                    cases hb
                · have hNX' : N < X := H3.out.2.2.2.2.2.1
                  rw [hg8.block N (by rw [cutW_size w7 X HX7.out]; exact hNX') (by have := H3.out.2.2.2.2.2.2; omega), cutW_block w7 X N hNX' HX7.out]
                  exact H7.out.2.1.h
              clear hc9 hg8 hR8 hI8 hm m2' cR o5 o6
              go_upto_region 9 with fail
              have cW := want_at ⟨#[59]⟩ w8 P d mb s r3 H9.out.1.ss.rd
              rw [show L ⟨#[59]⟩ = [59] from rfl] at cW
              obtain ⟨HQy, HQn⟩ := HQ9
              by_cases h59 : (hd s.size r3).t = [59]
              · have HQ : Hid (q = .ok (d3, r3.tail)) := HQy h59
                rw [wantU_yes h59] at cW
                clear HQy HQn h59
                go_wp2_with fail
                refine cW.mono ?_
                rintro e wy ⟨hgy, vy, rfl, rfl, hRy⟩
                have HY : Hid (Sq w wy P X s r3.tail d mb c9 ∧ Iv wy N ⟨D0, none, none, 0, 0⟩ ∧ w.heap.size ≤ N ∧ P < N ∧ c9 = ⟨d3, c9.pc, none, 0, 0⟩) := ⟨H9.out.1.go hgy hRy (by have := H3.out; omega), H9.out.2.1.gp hgy (by have := H3.out; omega), by have := HR.out.2.2.1; omega, H3.out.2.2.2.2.2.2, H9.out.2.2⟩
                obtain ⟨q0, q1, q2, q3, q4, q5, q6, q7, q8, q9, q10, q11, q12⟩ := HY.out.2.1.facts
                obtain ⟨z0, z1, z2, z3, z4, z5, z6, z7, z8, z9, z10, z11, z12⟩ := HY.out.2.1.fzs
                obtain ⟨x0, x1, x2, x3, x4, x5, x6, x7, x8, x9, x10, x11, x12⟩ := HY.out.1.ss.iv.facts
                have hNy := HY.out.2.1.lt
                have hXy := HY.out.1.ss.iv.lt
                unfold tkV
                clear cW hgy hRy
                go_wp2
                have hst := HY.out.2.1.store c9
                have hgp := st_gp (c := c9) HY.out.1.ss.gp HY.out.2.2.1
                have hrd := st_rd (c := c9) HY.out.1.ss.rd HY.out.2.2.2.1
                have hox := HY.out.1.o.keep (kx_st (c' := c9) HY.out.2.1)
                rw [HQ.out]
                refine bodyPost_ret (v := itV c9) (results_cell_row rfl _ _ N 60 (cl c9).toArray (0, 0) _ rfl hst.h Tryz.underlying60 rfl infoI) rfl ⟨hgp, _, rfl, ⟨c9.pc, ?_, ?_⟩, hrd⟩
                · rw [← HY.out.2.2.2.2]
                · have e : c9.d = d3 := by have e := HY.out.2.2.2.2; exact congrArg C.d e
                  rw [e] at hox
                  exact hox
              · have HQ : Hid (q = .error (3, (hd s.size r3).a)) := HQn h59
                rw [wantU_no h59] at cW
                clear HQy HQn h59
                go_wp2_with fail
                refine cW.mono ?_
                rintro e wy ⟨hgy, B, rfl, hB, hA⟩
                unfold thrownT
                clear cW
                go_wp2
                exact ⟨rfl, Ans.of_err HQ.out (H9.out.1.ss.gp.trans hgy) (Nat.le_trans H9.out.1.ss.gp.size hB) hA⟩
          · have hkd' : ((d1.kd : Int) == 1) = false := by rw [beq_eq_false_iff_ne]; omega
            have HQ9 := o6 _ _ (m3 h91 (fun h => hkd h.2))
            obtain ⟨c9, hc9⟩ : ∃ c9 : C, c9 = c5 := ⟨_, rfl⟩
            have H9 : Hid (Sq w w6 P X s r2 d mb c9 ∧ Iv w6 N ⟨D0, none, none, 0, 0⟩ ∧ c9 = ⟨{ d1 with nm := t }, c9.pc, none, 0, 0⟩) := by
              rw [hc9]
              exact ⟨H6.out.1, H6.out.2.1, by rw [HD5.out.2]⟩
            generalize tx T.t = S at *
            rw [h61] at htl
            clear m1 m2 m3 h61 h91 e5 hkd hc9 o5 o6
            go_upto_region 9 with fail
            clear x0 hkd'
            have cW := want_at ⟨#[59]⟩ w6 P d mb s r2 H9.out.1.ss.rd
            rw [show L ⟨#[59]⟩ = [59] from rfl] at cW
            obtain ⟨HQy, HQn⟩ := HQ9
            by_cases h59 : (hd s.size r2).t = [59]
            · have HQ : Hid (q = .ok ({ d1 with nm := t }, r2.tail)) := HQy h59
              rw [wantU_yes h59] at cW
              clear HQy HQn h59
              go_wp2_with fail
              refine cW.mono ?_
              rintro e wy ⟨hgy, vy, rfl, rfl, hRy⟩
              have HY : Hid (Sq w wy P X s r2.tail d mb c9 ∧ Iv wy N ⟨D0, none, none, 0, 0⟩ ∧ w.heap.size ≤ N ∧ P < N ∧ c9 = ⟨{ d1 with nm := t }, c9.pc, none, 0, 0⟩) := ⟨H9.out.1.go hgy hRy (by have := H3.out; omega), H9.out.2.1.gp hgy (by have := H3.out; omega), by have := HR.out.2.2.1; omega, H3.out.2.2.2.2.2.2, H9.out.2.2⟩
              obtain ⟨q0, q1, q2, q3, q4, q5, q6, q7, q8, q9, q10, q11, q12⟩ := HY.out.2.1.facts
              obtain ⟨z0, z1, z2, z3, z4, z5, z6, z7, z8, z9, z10, z11, z12⟩ := HY.out.2.1.fzs
              obtain ⟨x0, x1, x2, x3, x4, x5, x6, x7, x8, x9, x10, x11, x12⟩ := HY.out.1.ss.iv.facts
              have hNy := HY.out.2.1.lt
              have hXy := HY.out.1.ss.iv.lt
              unfold tkV
              clear cW hgy hRy
              go_wp2
              have hst := HY.out.2.1.store c9
              have hgp := st_gp (c := c9) HY.out.1.ss.gp HY.out.2.2.1
              have hrd := st_rd (c := c9) HY.out.1.ss.rd HY.out.2.2.2.1
              have hox := HY.out.1.o.keep (kx_st (c' := c9) HY.out.2.1)
              rw [HQ.out]
              refine bodyPost_ret (v := itV c9) (results_cell_row rfl _ _ N 60 (cl c9).toArray (0, 0) _ rfl hst.h Tryz.underlying60 rfl infoI) rfl ⟨hgp, _, rfl, ⟨c9.pc, ?_, ?_⟩, hrd⟩
              · rw [← HY.out.2.2.2.2]
              · have e : c9.d = { d1 with nm := t } := by have e := HY.out.2.2.2.2; exact congrArg C.d e
                rw [e] at hox
                exact hox
            · have HQ : Hid (q = .error (3, (hd s.size r2).a)) := HQn h59
              rw [wantU_no h59] at cW
              clear HQy HQn h59
              go_wp2_with fail
              refine cW.mono ?_
              rintro e wy ⟨hgy, B, rfl, hB, hA⟩
              unfold thrownT
              clear cW
              go_wp2
              exact ⟨rfl, Ans.of_err HQ.out (H9.out.1.ss.gp.trans hgy) (Nat.le_trans H9.out.1.ss.gp.size hB) hA⟩
        · have HQ9 := o6 _ _ (m3 h91 (fun h => h61 h.1))
          obtain ⟨c9, hc9⟩ : ∃ c9 : C, c9 = c5 := ⟨_, rfl⟩
          have H9 : Hid (Sq w w6 P X s r2 d mb c9 ∧ Iv w6 N ⟨D0, none, none, 0, 0⟩ ∧ c9 = ⟨{ d1 with nm := t }, c9.pc, none, 0, 0⟩) := by
            rw [hc9]
            exact ⟨H6.out.1, H6.out.2.1, by rw [HD5.out.2]⟩
          have hb1 : ((tx T.t).toList == [91]) = false := by rw [htl, beq_eq_false_iff_ne]; exact h91
          have hb2 : ((tx T.t).toList == [61]) = false := by rw [htl, beq_eq_false_iff_ne]; exact h61
          clear m1 m2 m3 h61 h91 hc9 o5 o6 htl
          generalize tx T.t = S at *
          go_upto_region 9 with fail
          have cW := want_at ⟨#[59]⟩ w6 P d mb s r2 H9.out.1.ss.rd
          rw [show L ⟨#[59]⟩ = [59] from rfl] at cW
          obtain ⟨HQy, HQn⟩ := HQ9
          by_cases h59 : (hd s.size r2).t = [59]
          · have HQ : Hid (q = .ok ({ d1 with nm := t }, r2.tail)) := HQy h59
            rw [wantU_yes h59] at cW
            clear HQy HQn h59
            go_wp2_with fail
            refine cW.mono ?_
            rintro e wy ⟨hgy, vy, rfl, rfl, hRy⟩
            have HY : Hid (Sq w wy P X s r2.tail d mb c9 ∧ Iv wy N ⟨D0, none, none, 0, 0⟩ ∧ w.heap.size ≤ N ∧ P < N ∧ c9 = ⟨{ d1 with nm := t }, c9.pc, none, 0, 0⟩) := ⟨H9.out.1.go hgy hRy (by have := H3.out; omega), H9.out.2.1.gp hgy (by have := H3.out; omega), by have := HR.out.2.2.1; omega, H3.out.2.2.2.2.2.2, H9.out.2.2⟩
            obtain ⟨q0, q1, q2, q3, q4, q5, q6, q7, q8, q9, q10, q11, q12⟩ := HY.out.2.1.facts
            obtain ⟨z0, z1, z2, z3, z4, z5, z6, z7, z8, z9, z10, z11, z12⟩ := HY.out.2.1.fzs
            obtain ⟨x0, x1, x2, x3, x4, x5, x6, x7, x8, x9, x10, x11, x12⟩ := HY.out.1.ss.iv.facts
            have hNy := HY.out.2.1.lt
            have hXy := HY.out.1.ss.iv.lt
            unfold tkV
            clear cW hgy hRy
            go_wp2
            have hst := HY.out.2.1.store c9
            have hgp := st_gp (c := c9) HY.out.1.ss.gp HY.out.2.2.1
            have hrd := st_rd (c := c9) HY.out.1.ss.rd HY.out.2.2.2.1
            have hox := HY.out.1.o.keep (kx_st (c' := c9) HY.out.2.1)
            rw [HQ.out]
            refine bodyPost_ret (v := itV c9) (results_cell_row rfl _ _ N 60 (cl c9).toArray (0, 0) _ rfl hst.h Tryz.underlying60 rfl infoI) rfl ⟨hgp, _, rfl, ⟨c9.pc, ?_, ?_⟩, hrd⟩
            · rw [← HY.out.2.2.2.2]
            · have e : c9.d = { d1 with nm := t } := by have e := HY.out.2.2.2.2; exact congrArg C.d e
              rw [e] at hox
              exact hox
          · have HQ : Hid (q = .error (3, (hd s.size r2).a)) := HQn h59
            rw [wantU_no h59] at cW
            clear HQy HQn h59
            go_wp2_with fail
            refine cW.mono ?_
            rintro e wy ⟨hgy, B, rfl, hB, hA⟩
            unfold thrownT
            clear cW
            go_wp2
            exact ⟨rfl, Ans.of_err HQ.out (H9.out.1.ss.gp.trans hgy) (Nat.le_trans H9.out.1.ss.gp.size hB) hA⟩
end Go.Proofs.YtococaecjecjgaaGreatDoor.tm
/- A reader of a template's tokens: item. -/
namespace Go.Proofs.YtococaecjecjgaaGreatDoor.tm
set_option linter.unusedVariables false
open Go.ChangeShapes Go.WideShapes Go.ChangeAt Go.RowKit Go.Shelf
open mem lx ex

/-- The parts within. -/
def Sub (w : World) (M : Nat) (c : C) (l : Its) : Prop := ∃ cs2, ir.Lie w (fun g => M ≤ g) c.p c.n c.c cs2 ∧ Rep w (fun g => M ≤ g) l cs2
theorem Sub.nil (w : World) (M : Nat) (c : C) (h : c.n = 0 ∧ c.c = 0) : Sub w M c .nil := ⟨[], ⟨by rw [h.1]; rfl, by rw [h.1]; exact Nat.zero_le _, Or.inl rfl⟩, rfl⟩
theorem Sub.keep {w w' : World} {M : Nat} {c : C} {l : Its} (h : Sub w M c l) (hk : ∀ g, M ≤ g → g < w.heap.size → w'.heap[g]? = w.heap[g]?) (hs : w.heap.size ≤ w'.heap.size) (hx : Kx w w') : Sub w' M c l := by
  obtain ⟨cs, h1, h2⟩ := h
  exact ⟨cs, h1.keep hk hs, h2.keep hk hs hx⟩
theorem Sub.low {w : World} {M M' : Nat} {c : C} {l : Its} (h : Sub w M c l) (hM : M' ≤ M) : Sub w M' c l := by
  obtain ⟨cs, h1, h2⟩ := h
  exact ⟨cs, h1.mono (fun g hg _ => Nat.le_trans hM hg), h2.mono (fun g hg _ => Nat.le_trans hM hg)⟩
theorem Sub.of {w : World} {M : Nat} {c c' : C} {l : Its} (h : Sub w M c l) (e : c'.p = c.p ∧ c'.n = c.n ∧ c'.c = c.c) : Sub w M c' l := by
  unfold Sub
  rw [e.1, e.2.1, e.2.2]
  exact h
/-- What an item's reading tells. -/
def IV (M : Nat) (w : World) (v : Value) (x : D × Its) : Prop := ∃ c : C, v = itV c ∧ c.d = x.1 ∧ IsO w c.pc x.1.ct ∧ Sub w M c x.2
/-- What a block's reading tells. -/
def LV (M : Nat) (w : World) (v : Value) (l : Its) : Prop := IsL w (fun g => M ≤ g) v l
def BlkC (k : Nat) : Prop := ∀ (w : World) (P d mb : Nat) (s : ByteArray) (ts : List Tk), d + k = 8 → RdT w P s ts d mb → Gt w → 6 ≤ P →
  Calls Tryz.prog 99 #[.pointer (some ⟨P, 0, none⟩)] w fun e w' => Ans (LV w.heap.size) P s d mb w (blk nb s.size k ts) e w'
theorem item_is (en : Nat) (inner : List Tk → Rs Its) (ts : List Tk) :
    ((hd en ts).t = wWhen → (∀ e, rx nb en [123] ts.tail = .error e → item nb en inner ts = .error e) ∧ ∀ x r, rx nb en [123] ts.tail = .ok (x, r) →
      (∀ e, inner r = .error e → item nb en inner ts = .error e) ∧ ∀ l r', inner r = .ok (l, r') → item nb en inner ts = .ok (({ D0 with kd := 4, at_ := (hd en ts).a, ct := some x }, l), r')) ∧
    (¬ (hd en ts).t = wWhen → ((hd en ts).t = wBytes → (∀ e, byts nb en ts.tail = .error e → item nb en inner ts = .error e) ∧ ∀ d r, byts nb en ts.tail = .ok (d, r) → item nb en inner ts = .ok (({ d with at_ := (hd en ts).a }, .nil), r)) ∧
      (¬ (hd en ts).t = wBytes → (∀ e, part nb en ts = .error e → item nb en inner ts = .error e) ∧ ∀ d r, part nb en ts = .ok (d, r) → item nb en inner ts = .ok (({ d with at_ := (hd en ts).a }, .nil), r))) := by
  unfold item
  refine ⟨fun h => ?_, fun h => ⟨fun h2 => ?_, fun h2 => ?_⟩⟩
  · rw [if_pos h]
    refine ⟨fun e he => by rw [he], fun x r hx => ?_⟩
    rw [hx]
    exact ⟨fun e he => by dsimp only; rw [he], fun l r' hl => by dsimp only; rw [hl]⟩
  · rw [if_neg h, if_pos h2]
    exact ⟨fun e he => by rw [he], fun d r hd => by rw [hd]⟩
  · rw [if_neg h, if_neg h2]
    exact ⟨fun e he => by rw [he], fun d r hd => by rw [hd]⟩
theorem byts_is (en : Nat) (ts : List Tk) : (∀ e, name en ts = .error e → byts nb en ts = .error e) ∧ ∀ t r1, name en ts = .ok (t, r1) →
    (∀ e, many nb en r1 = .error e → byts nb en ts = .error e) ∧ ∀ x r2, many nb en r1 = .ok (x, r2) →
    ((hd en r2).t = [59] → byts nb en ts = .ok ({ D0 with kd := 2, nm := t, ct := some x }, r2.tail)) ∧ (¬ (hd en r2).t = [59] → byts nb en ts = .error (3, (hd en r2).a)) := by
  unfold byts
  refine ⟨fun e h => by rw [h], fun t r1 h1 => ?_⟩
  rw [h1]
  dsimp only
  refine ⟨fun e h => by rw [h], fun x r2 h2 => ?_⟩
  rw [h2]
  dsimp only
  unfold want
  exact ⟨fun h => by rw [if_pos h], fun h => by rw [if_neg h]⟩
/-- The item under way, and the one that is answered. -/
structure Si (w0 w : World) (P X N : Nat) (s : ByteArray) (ts : List Tk) (d mb : Nat) (c : C) (M : Nat) (l : Its) : Prop where
  sq : Sq w0 w P X s ts d mb c
  n : Iv w N ⟨D0, none, none, 0, 0⟩
  sub : Sub w M c l
  gt : Gt w
theorem Si.bl {w0 w w' : World} {P X N : Nat} {s : ByteArray} {ts : List Tk} {d mb : Nat} {c : C} {M : Nat} {l : Its} (h : Si w0 w P X N s ts d mb c M l) (hb : Bl w w') : Si w0 w' P X N s ts d mb c M l :=
  ⟨h.sq.bl hb, h.n.bl hb, h.sub.keep (fun g _ hg => Below.block hb g hg) hb.size (Kx.bl hb), h.gt.bl hb⟩
theorem Si.go {w0 w w' : World} {P X N : Nat} {s : ByteArray} {ts ts' : List Tk} {d mb : Nat} {c : C} {M : Nat} {l : Its} (h : Si w0 w P X N s ts d mb c M l) (hg : Gp P w w') (hr : RdT w' P s ts' d mb) (hPX : P < X) (hPN : P < N) (hPM : P < M) (hGP : 6 ≤ P) : Si w0 w' P X N s ts' d mb c M l :=
  ⟨h.sq.go hg hr hPX, h.n.gp hg (by omega), h.sub.keep (fun g h1 hg' => hg.block g hg' (by omega)) hg.size (kx_gp h.sq.ss.rd hg), h.gt.gp hg hGP h.sq.ss.rd.lt⟩
theorem Si.put {w0 w : World} {P X N j : Nat} {s : ByteArray} {ts : List Tk} {d mb : Nat} {c c' : C} {M : Nat} {l : Its} {u : Value} (h : Si w0 w P X N s ts d mb c M l) (hX : w0.heap.size ≤ X) (hPX : P < X) (hNX : N ≠ X) (hXM : X < M) (hGP : 6 ≤ P) (he : (cl c).toArray.setIfInBounds j u = (cl c').toArray) (hp : c'.pc = c.pc ∧ c'.d.ct = c.d.ct) (hq : c'.p = c.p ∧ c'.n = c.n ∧ c'.c = c.c) : Si w0 (w.setCell ⟨X, j, none⟩ u) P X N s ts d mb c' M l := by
  have hg := grown_set w X j u
  refine ⟨h.sq.put hX hPX he hp, ⟨?_⟩, Sub.of (h.sub.keep (fun g h1 hg' => hg.block g hg' (fun e => by injection e with e; omega)) hg.size (kx_item h.sq.ss.iv hg)) hq, ?_⟩
  · rw [hg.block N h.n.lt (fun e => hNX (by injection e))]; exact h.n.h
  · have := h.sq.ss.iv.lt
    exact h.gt.below ⟨rfl, rfl, rfl, hg.size, fun k hk => hg.block k (by omega) (fun e => by injection e with e; omega)⟩
theorem st_other (w : World) (X : Nat) (c : C) (k : Nat) (hk : k < w.heap.size) (hne : k ≠ X) : (st13 w X c).heap[k]? = w.heap[k]? := by
  have one : ∀ (w : World) (j : Nat) (u : Value), k < w.heap.size → k < (w.setCell ⟨X, j, none⟩ u).heap.size ∧ (w.setCell ⟨X, j, none⟩ u).heap[k]? = w.heap[k]? := fun w j u hk => by
    have hg := grown_set w X j u
    exact ⟨Nat.lt_of_lt_of_le hk hg.size, hg.block k hk (fun e => by injection e with e; omega)⟩
  have two : ∀ (w w1 : World) (j : Nat) (u : Value), (k < w1.heap.size ∧ w1.heap[k]? = w.heap[k]?) → (k < (w1.setCell ⟨X, j, none⟩ u).heap.size ∧ (w1.setCell ⟨X, j, none⟩ u).heap[k]? = w.heap[k]?) := fun w w1 j u h => ⟨(one w1 j u h.1).1, (one w1 j u h.1).2.trans h.2⟩
  unfold st13
  exact (two _ _ _ _ (two _ _ _ _ (two _ _ _ _ (two _ _ _ _ (two _ _ _ _ (two _ _ _ _ (two _ _ _ _ (two _ _ _ _ (two _ _ _ _ (two _ _ _ _ (two _ _ _ _ (two _ _ _ _ (one w 0 _ hk))))))))))))).2
theorem st_rest (w : World) (X : Nat) (c : C) : (st13 w X c).os = w.os ∧ (st13 w X c).tape = w.tape ∧ (st13 w X c).output = w.output ∧ w.heap.size ≤ (st13 w X c).heap.size := by
  simp [st13, World.setCell]
/-- All cells of the item under way, anew. -/
theorem Si.store {w0 w : World} {P X N : Nat} {s : ByteArray} {ts : List Tk} {d mb : Nat} {c c' : C} {M : Nat} {l : Its} (h : Si w0 w P X N s ts d mb c M l) (hX : w0.heap.size ≤ X) (hPX : P < X) (hNX : N ≠ X) (hGP : 6 ≤ P) (ho : IsO w c'.pc c'.d.ct) (hn : c'.n = 0 ∧ c'.c = 0) : Si w0 (st13 w X c') P X N s ts d mb c' M .nil := by
  have other := st_other w X c'
  have hgp := st_gp (c := c') h.sq.ss.gp hX
  refine ⟨⟨⟨hgp, st_rd h.sq.ss.rd hPX, h.sq.ss.iv.store c'⟩, ho.keep (kx_st (c' := c') h.sq.ss.iv)⟩, ⟨?_⟩, Sub.nil _ _ _ hn, ?_⟩
  · rw [other N h.n.lt hNX]; exact h.n.h
  · have h1 := h.sq.ss.iv.lt
    obtain ⟨r1, r2, r3, r4⟩ := st_rest w X c'
    exact h.gt.below ⟨r1, r2, r3, r4, fun k hk => other k (by omega) (by omega)⟩
end Go.Proofs.YtococaecjecjgaaGreatDoor.tm
/- A reader of a template's tokens: item, walked. -/
namespace Go.Proofs.YtococaecjecjgaaGreatDoor.tm
set_option linter.unusedVariables false
open Go.ChangeShapes Go.WideShapes Go.ChangeAt Go.RowKit Go.Shelf
open mem lx ex

theorem blk_end {en : Nat} {k : Nat} : blk nb en k [] = .error (3, en) := by
  cases k with
  | zero => rw [blk, if_neg (show ¬ (hd en ([] : List Tk)).t = [123] by show ¬ ([] : List UInt8) = [123]; decide)]; rfl
  | succ k => rw [blk, if_neg (show ¬ (hd en ([] : List Tk)).t = [123] by show ¬ ([] : List UInt8) = [123]; decide)]; rfl
set_option maxRecDepth 10000 in
set_option maxHeartbeats 4000000 in
theorem item_at (k : Nat) (cB : BlkC k) (w : World) (P d mb : Nat) (s : ByteArray) (ts : List Tk) (hk : d + k = 8) (h : RdT w P s ts d mb) (hG : Gt w) (hGP : 6 ≤ P) :
    Calls Tryz.prog 134 #[.pointer (some ⟨P, 0, none⟩)] w fun e w' => Ans (IV w.heap.size) P s d mb w (item nb s.size (blk nb s.size k) ts) e w' := by
  have hPw := h.lt
  have hb1 : Bl w (w.alloc (.cells z13 60)) := (Bl.refl _).alloc _
  obtain ⟨N, hN⟩ : ∃ N, N = w.heap.size := ⟨_, rfl⟩
  obtain ⟨w1, hw1⟩ : ∃ w1, w1 = w.alloc (.cells z13 60) := ⟨_, rfl⟩
  have hv1 : Iv w1 N ⟨D0, none, none, 0, 0⟩ := ⟨by rw [hw1, hN]; exact new_at _ _⟩
  rw [← hw1] at hb1
  have cN1 := next_at w1 P d mb s ts (h.step hb1)
  obtain ⟨o1, o2⟩ := item_is s.size (blk nb s.size k) ts
  obtain ⟨q, hq⟩ : ∃ q, q = item nb s.size (blk nb s.size k) ts := ⟨_, rfl⟩
  rw [← hq] at o1 o2 ⊢
  obtain ⟨T, hT⟩ : ∃ T, T = hd s.size ts := ⟨_, rfl⟩
  rw [← hT] at cN1 o1 o2
  have htl := tl_tx T.t
  obtain ⟨A, hA⟩ : ∃ A, A = T.a := ⟨_, rfl⟩
  obtain ⟨S, hS⟩ : ∃ S, S = tx T.t := ⟨_, rfl⟩
  unfold tkV at cN1
  rw [← hA] at o1 o2
  rw [← hA, ← hS] at cN1
  rw [← hS] at htl
  have HR : Hid (RdT w P s ts d mb ∧ Gt w ∧ N = w.heap.size ∧ Bl w w1 ∧ Iv w1 N ⟨D0, none, none, 0, 0⟩ ∧ T = hd s.size ts ∧ S = tx T.t ∧ A = T.a) := ⟨h, hG, hN, hb1, hv1, hT, hS, hA⟩
  have HC : Hid (BlkC k) := cB
  have hf0 := run_text
  have hf1 : ∀ (S : ByteArray) (n : Int) (w : World), (Instr.field 145 (.agg #[.string S, .int .i64 n]) 1).run Tryz.prog w = .ok (.int .i64 n) w := fun _ _ _ => by kernel_rfl
  clear h hG hb1 hv1 hq hT hA hS cB
  go_enter Tryz.func134, Tryz.ntmps134
  go_upto_region 1 with fail
  change Code.wp _ _ _ _ (w.alloc (.cells z13 60))
  rw [← hw1, ← hN]
  clear hw1 hN
  go_wp2_with fail
  refine cN1.mono ?_
  rintro e w2 ⟨rfl, hb2⟩
  -- the item under way
  obtain ⟨X, hX⟩ : ∃ X, X = w2.heap.size := ⟨_, rfl⟩
  obtain ⟨w3, hw3⟩ : ∃ w3, w3 = w2.alloc (.cells z13 60) := ⟨_, rfl⟩
  have hb3 : Bl w2 w3 := by rw [hw3]; exact (Bl.refl _).alloc _
  have hv3 : Iv w3 X ⟨D0, none, none, 0, 0⟩ := ⟨by rw [hw3, hX]; exact new_at _ _⟩
  have hN2 := HR.out.2.2.2.2.1.bl hb2
  have hb03 := (HR.out.2.2.2.1.trans hb2).trans hb3
  obtain ⟨M, hM⟩ : ∃ M, M = w3.heap.size := ⟨_, rfl⟩
  have hXM : X < M := by rw [hM]; exact hv3.lt
  have hNX : N < X := by rw [hX]; exact hN2.lt
  have H3 : Hid (Si w w3 P X N s ts d mb ⟨D0, none, none, 0, 0⟩ M .nil) := ⟨⟨⟨Gp.bl hb03, HR.out.1.step hb03, hv3⟩, rfl⟩, hN2.bl hb3, Sub.nil _ _ _ ⟨rfl, rfl⟩, HR.out.2.1.bl hb03⟩
  have HX : Hid (N ≠ X ∧ w.heap.size ≤ X ∧ P < X ∧ N ≠ X ∧ N < X ∧ N = w.heap.size) := ⟨by omega, by have := HR.out.2.2.1; omega, by have := HR.out.2.2.1; omega, by omega, hNX, HR.out.2.2.1⟩
  have HM : Hid (X < M ∧ M = w3.heap.size) := ⟨hXM, hM⟩
  have hPXM : P < X ∧ P < N ∧ P < M := ⟨by have := HR.out.2.2.1; omega, by have := HR.out.2.2.1; omega, by have := HR.out.2.2.1; omega⟩
  have cN3 := next_at w3 P d mb s ts H3.out.sq.ss.rd
  rw [← HR.out.2.2.2.2.2.1] at cN3
  unfold tkV at cN3
  rw [← HR.out.2.2.2.2.2.2.1, ← HR.out.2.2.2.2.2.2.2] at cN3
  clear hb2 hb3 hv3 hN2 hb03 hM hXM hNX cN1
  go_upto_region 3 with fail
  change Code.wp _ _ _ _ (w2.alloc (.cells z13 60))
  rw [← hw3, ← hX]
  clear hw3 hX
  go_wp2_with fail
  refine cN3.mono ?_
  rintro e w4 ⟨rfl, hb4⟩
  have H4 : Hid (Si w w4 P X N s ts d mb ⟨D0, none, none, 0, 0⟩ M .nil) := H3.out.bl hb4
  have HW34 : Hid (w3.heap.size ≤ w4.heap.size) := hb4.size
  have hP4 : P < w4.heap.size := H4.out.sq.ss.rd.lt
  clear hb4 cN3
  by_cases h1 : T.t = wWhen
  · obtain ⟨o3, o4⟩ := o1 h1
    have htw : S.toList = [119, 104, 101, 110] := by rw [htl, h1]; rfl
    have cT := take_at w4 P d mb s ts H4.out.sq.ss.rd
    rw [← HR.out.2.2.2.2.2.1] at cT
    unfold tkV at cT
    rw [← HR.out.2.2.2.2.2.2.1, ← HR.out.2.2.2.2.2.2.2] at cT
    clear o1 o2 h1 htl
    go_wp2_with fail
    refine cT.mono ?_
    rintro e w5 ⟨rfl, hR5, hg5⟩
    have H5 : Hid (Si w w5 P X N s ts.tail d mb ⟨D0, none, none, 0, 0⟩ M .nil) := H4.out.go hg5 hR5 hPXM.1 hPXM.2.1 hPXM.2.2 hGP
    have cE := expr_at ⟨#[123]⟩ em_ob w5 P d mb s ts.tail H5.out.sq.ss.rd H5.out.gt.gd hGP
    rw [show L ⟨#[123]⟩ = [123] from rfl] at cE
    have HW45 : Hid (w3.heap.size ≤ w5.heap.size) := by have := HW34.out; have := hg5.size; show w3.heap.size ≤ w5.heap.size; omega
    clear hg5 hR5 cT
    go_wp2_with fail
    refine cE.mono ?_
    rintro e w6 ⟨hg6, hans⟩
    have hg06 := H5.out.sq.ss.gp.trans hg6
    have hs56 := H5.out.sq.ss.gp.size
    have tailA : ∀ (x : Ex) (vb : Nat) (r : List Tk), IsX w6 (.pointer (some ⟨vb, 0, none⟩)) x → RdT w6 P s r d mb → Si w w6 P X N s r d mb ⟨D0, none, none, 0, 0⟩ M .nil := fun x vb r _ hR => H5.out.go hg6 hR hPXM.1 hPXM.2.1 hPXM.2.2 hGP
    have HT : Hid (∀ (x : Ex) (vb : Nat) (r : List Tk), IsX w6 (.pointer (some ⟨vb, 0, none⟩)) x → RdT w6 P s r d mb → Si w w6 P X N s r d mb ⟨D0, none, none, 0, 0⟩ M .nil) := tailA
    clear tailA cE
    rcases hans with ⟨x, v, hx, rfl, hv, hR6⟩ | ⟨c, p, B, hx, rfl, hB, hA⟩ | ⟨hx, x, v, rfl, hv, hR6⟩
    · obtain ⟨vb, rfl, _⟩ := hv.ptr
      obtain ⟨o5, o6⟩ := o4 _ _ hx
      obtain ⟨r, hr⟩ : ∃ r, r = from_ [123] ts.tail := ⟨_, rfl⟩
      rw [← hr] at o5 o6 hR6
      have H6 := HT.out x vb r hv hR6
      obtain ⟨x0, x1, x2, x3, x4, x5, x6, x7, x8, x9, x10, x11, x12⟩ := H6.sq.ss.iv.facts
      obtain ⟨z0, z1, z2, z3, z4, z5, z6, z7, z8, z9, z10, z11, z12⟩ := H6.sq.ss.iv.fzs
      have hXs := H6.sq.ss.iv.lt
      obtain ⟨w8, hw8⟩ : ∃ w8, w8 = st13 w6 X ⟨{ D0 with kd := 4, ct := some x }, some ⟨vb, 0, none⟩, none, 0, 0⟩ := ⟨_, rfl⟩
      have H8 : Hid (Si w w8 P X N s r d mb ⟨{ D0 with kd := 4, ct := some x }, some ⟨vb, 0, none⟩, none, 0, 0⟩ M .nil) := by
        rw [hw8]
        exact H6.store HX.out.2.1 hPXM.1 (fun e => HX.out.1 e) hGP hv ⟨rfl, rfl⟩
      have HS : Hid (w3.heap.size ≤ w8.heap.size) := by
        have h1 := (st_rest w6 X ⟨{ D0 with kd := 4, ct := some x }, some ⟨vb, 0, none⟩, none, 0, 0⟩).2.2.2
        rw [← hw8] at h1
        have h2 := hg6.size
        have h3 := HW45.out
        show w3.heap.size ≤ w8.heap.size
        omega
      have cB := HC.out w8 P d mb s r hk H8.out.sq.ss.rd H8.out.gt hGP
      clear hR6 hv hx H6 hg6
      go_upto_region 8 with fail
      change Code.wp _ _ _ _ (st13 w6 X ⟨{ D0 with kd := 4, ct := some x }, some ⟨vb, 0, none⟩, none, 0, 0⟩)
      rw [← hw8]
      clear hw8 x0 x1 x2 x3 x4 x5 x6 x7 x8 x9 x10 x11 x12 z0 z1 z2 z3 z4 z5 z6 z7 z8 z9 z10 z11 z12 hXs
      go_wp2_with fail
      refine cB.mono ?_
      rintro e w9 ⟨hg9, hans⟩
      clear cB
      cases hbk : blk nb s.size k r with
      | error kp =>
        obtain ⟨k1, p1⟩ := kp
        rw [hbk] at hans
        obtain ⟨B, rfl, hB, hA⟩ := hans
        have HQ : Hid (q = .error (k1, p1)) := o5 _ hbk
        unfold thrownT
        clear o3 o4 o5 o6 hbk
        go_wp2
        exact ⟨rfl, Ans.of_err HQ.out (H8.out.sq.ss.gp.trans hg9) (Nat.le_trans H8.out.sq.ss.gp.size hB) hA⟩
      | ok lr =>
        obtain ⟨l, r'⟩ := lr
        rw [hbk] at hans
        obtain ⟨v, rfl, hl, hR9⟩ := hans
        obtain ⟨lp, lc, cs, rfl, hl1, hl2⟩ := hl
        have HQ : Hid (q = .ok (({ D0 with kd := 4, at_ := A, ct := some x }, l), r')) := o6 _ _ hbk
        obtain ⟨ln, hln⟩ : ∃ ln, ln = l.len := ⟨_, rfl⟩
        rw [← hln] at hl1 ⊢
        have H9a := H8.out.go hg9 hR9 hPXM.1 hPXM.2.1 hPXM.2.2 hGP
        have x12 : w9.cell? ⟨X, 12, none⟩ = some (.slice none 0 0) := H9a.sq.ss.iv.cell 12
        have z12 := H9a.sq.ss.iv.fz 12
        have hXs := H9a.sq.ss.iv.lt
        obtain ⟨wz, hwz⟩ : ∃ wz, wz = w9.setCell ⟨X, 12, none⟩ (.slice lp ln lc) := ⟨_, rfl⟩
        obtain ⟨c9, hc9⟩ : ∃ c9 : C, c9 = ⟨{ D0 with kd := 4, ct := some x }, some ⟨vb, 0, none⟩, lp, ln, lc⟩ := ⟨_, rfl⟩
        have H9 : Hid (Si w wz P X N s r' d mb c9 M l) := by
          have hg := grown_set w9 X 12 (.slice lp ln lc)
          have hkx := kx_item H9a.sq.ss.iv hg
          have hM8 : M ≤ w8.heap.size := by have := HM.out.2; have := HS.out; omega
          rw [hwz, hc9]
          refine ⟨H9a.sq.put HX.out.2.1 hPXM.1 rfl ⟨rfl, rfl⟩, ⟨?_⟩, ⟨cs, ?_, ?_⟩, ?_⟩
          · rw [hg.block N H9a.n.lt (fun e => by injection e with e; have := HX.out.1; omega)]; exact H9a.n.h
          · exact (hl1.mono (fun g h1 _ => Nat.le_trans hM8 h1)).keep (fun g h1 h2 => hg.block g h2 (fun e => by injection e with e; have := HM.out.1; omega)) hg.size
          · exact (hl2.mono (fun g h1 _ => Nat.le_trans hM8 h1)).keep (fun g h1 h2 => hg.block g h2 (fun e => by injection e with e; have := HM.out.1; omega)) hg.size hkx
          · have := H9a.sq.ss.iv.lt
            exact H9a.gt.below ⟨rfl, rfl, rfl, hg.size, fun k hk => hg.block k (by omega) (fun e => by injection e with e; omega)⟩
        have HD9 : Hid (c9.d = { D0 with kd := 4, ct := some x }) := by show c9.d = _; rw [hc9]
        clear hc9 hl1 hl2 hg9 hR9 H9a hbk o3 o4 o5 o6 hln
        go_upto_region 13 with fail
        rw [← hwz]
        clear hwz x12 z12 hXs
        have x1 : wz.cell? ⟨X, 1, none⟩ = some (.int .i64 (c9.d.at_ : Int)) := H9.out.sq.ss.iv.cell 1
        have xz := H9.out.sq.ss.iv.fz 1
        have hXs := H9.out.sq.ss.iv.lt
        obtain ⟨wy, hwy⟩ : ∃ wy, wy = wz.setCell ⟨X, 1, none⟩ (.int .i64 (A : Int)) := ⟨_, rfl⟩
        have HY : Hid (Si w wy P X N s r' d mb (c9.at A) M l ∧ (c9.at A).d = { D0 with kd := 4, at_ := A, ct := some x } ∧ w.heap.size ≤ N ∧ P < N ∧ w.heap.size ≤ M ∧ N < M) := by
          rw [hwy]
          refine ⟨H9.out.put HX.out.2.1 HX.out.2.2.1 HX.out.2.2.2.1 (by have := HM.out; omega) hGP (set_at c9 A) ⟨rfl, rfl⟩ ⟨rfl, rfl, rfl⟩, ?_, ?_, ?_, ?_, ?_⟩
          · show ({ c9.d with at_ := A } : D) = _
            rw [HD9.out]
          · have := HX.out.2.2.2.2; omega
          · have := HX.out.2.2.2.2; omega
          · have := HM.out; have := HX.out.2.1; omega
          · have := HM.out; have := HX.out.2.2.2.2; omega
        obtain ⟨c10, hc10⟩ : ∃ c10, c10 = c9.at A := ⟨_, rfl⟩
        rw [← hc10] at HY
        go_upto_region 14 with fail
        rw [← hwy]
        clear hwy hc10 x1 xz hXs
        obtain ⟨q0, q1, q2, q3, q4, q5, q6, q7, q8, q9, q10, q11, q12⟩ := HY.out.1.n.facts
        obtain ⟨z0, z1, z2, z3, z4, z5, z6, z7, z8, z9, z10, z11, z12⟩ := HY.out.1.n.fzs
        obtain ⟨x0, x1, x2, x3, x4, x5, x6, x7, x8, x9, x10, x11, x12⟩ := HY.out.1.sq.ss.iv.facts
        have hNy := HY.out.1.n.lt
        have hXy := HY.out.1.sq.ss.iv.lt
        go_wp2
        have hst := HY.out.1.n.store c10
        have hgp := st_gp (c := c10) HY.out.1.sq.ss.gp HY.out.2.2.1
        have hrd := st_rd (c := c10) HY.out.1.sq.ss.rd HY.out.2.2.2.1
        have hox := HY.out.1.sq.o.keep (kx_st (c' := c10) HY.out.1.n)
        have hsub := (HY.out.1.sub.keep (w' := st13 wy N c10) (fun g h1 h2 => st_other wy N c10 g h2 (by have := HY.out.2.2.2.2.2; omega)) (st_rest wy N c10).2.2.2 (kx_st (c' := c10) HY.out.1.n)).low HY.out.2.2.2.2.1
        have e10 := HY.out.2.1
        rw [HQ.out]
        rw [e10] at hox
        exact bodyPost_ret (v := itV c10) (results_cell_row rfl _ _ N 60 (cl c10).toArray (0, 0) _ rfl hst.h Tryz.underlying60 rfl infoI) rfl ⟨hgp, _, rfl, ⟨c10, rfl, e10, hox, hsub⟩, hrd⟩
    · have HQ : Hid (q = .error (c, p)) := o3 _ hx
      unfold thrownT
      clear o3 o4 hx
      go_wp2
      exact ⟨rfl, Ans.of_err HQ.out hg06 (Nat.le_trans hs56 hB) hA⟩
    · obtain ⟨vb, rfl, _⟩ := hv.ptr
      have HQ : Hid (q = .error (3, s.size)) := o3 _ hx
      obtain ⟨r, hr⟩ : ∃ r : List Tk, r = [] := ⟨_, rfl⟩
      rw [← hr] at hR6
      have H6 := HT.out x vb r hv hR6
      obtain ⟨x0, x1, x2, x3, x4, x5, x6, x7, x8, x9, x10, x11, x12⟩ := H6.sq.ss.iv.facts
      obtain ⟨z0, z1, z2, z3, z4, z5, z6, z7, z8, z9, z10, z11, z12⟩ := H6.sq.ss.iv.fzs
      have hXs := H6.sq.ss.iv.lt
      obtain ⟨w8, hw8⟩ : ∃ w8, w8 = st13 w6 X ⟨{ D0 with kd := 4, ct := some x }, some ⟨vb, 0, none⟩, none, 0, 0⟩ := ⟨_, rfl⟩
      have H8 : Hid (Si w w8 P X N s r d mb ⟨{ D0 with kd := 4, ct := some x }, some ⟨vb, 0, none⟩, none, 0, 0⟩ M .nil) := by
        rw [hw8]
        exact H6.store HX.out.2.1 hPXM.1 (fun e => HX.out.1 e) hGP hv ⟨rfl, rfl⟩
      have HS : Hid (w3.heap.size ≤ w8.heap.size) := by
        have h1 := (st_rest w6 X ⟨{ D0 with kd := 4, ct := some x }, some ⟨vb, 0, none⟩, none, 0, 0⟩).2.2.2
        rw [← hw8] at h1
        have h2 := hg6.size
        have h3 := HW45.out
        show w3.heap.size ≤ w8.heap.size
        omega
      have cB := HC.out w8 P d mb s r hk H8.out.sq.ss.rd H8.out.gt hGP
      clear hR6 hv hx H6 hg6
      go_upto_region 8 with fail
      change Code.wp _ _ _ _ (st13 w6 X ⟨{ D0 with kd := 4, ct := some x }, some ⟨vb, 0, none⟩, none, 0, 0⟩)
      rw [← hw8]
      clear hw8 x0 x1 x2 x3 x4 x5 x6 x7 x8 x9 x10 x11 x12 z0 z1 z2 z3 z4 z5 z6 z7 z8 z9 z10 z11 z12 hXs
      go_wp2_with fail
      refine cB.mono ?_
      rintro e w9 ⟨hg9, hans⟩
      clear cB
      rw [hr, blk_end] at hans
      obtain ⟨B, rfl, hB, hA⟩ := hans
      unfold thrownT
      clear o3 o4
      go_wp2
      exact ⟨rfl, Ans.of_err HQ.out (H8.out.sq.ss.gp.trans hg9) (Nat.le_trans H8.out.sq.ss.gp.size hB) hA⟩
  · rcases o2 h1 with ⟨o3, o4⟩
    have htn : (S.toList == [119, 104, 101, 110]) = false := by rw [htl, beq_eq_false_iff_ne]; exact h1
    by_cases h2 : T.t = wBytes
    · -- bytes
      obtain ⟨o5, o6⟩ := o3 h2
      have htb : S.toList = [98, 121, 116, 101, 115] := by rw [htl, h2]; rfl
      have cT := take_at w4 P d mb s ts H4.out.sq.ss.rd
      rw [← HR.out.2.2.2.2.2.1] at cT
      unfold tkV at cT
      rw [← HR.out.2.2.2.2.2.2.1, ← HR.out.2.2.2.2.2.2.2] at cT
      obtain ⟨b1, b2⟩ := byts_is s.size ts.tail
      clear o1 o2 o3 o4 h1 h2 htl htn
      go_wp2_with fail
      refine cT.mono ?_
      rintro e w5 ⟨rfl, hR5, hg5⟩
      have H5 : Hid (Si w w5 P X N s ts.tail d mb ⟨D0, none, none, 0, 0⟩ M .nil) := H4.out.go hg5 hR5 hPXM.1 hPXM.2.1 hPXM.2.2 hGP
      have cA := name_at w5 P d mb s ts.tail H5.out.sq.ss.rd
      clear hg5 hR5 cT
      go_wp2_with fail
      refine cA.mono ?_
      rintro e w6 ⟨hg6, hans⟩
      cases hn : name s.size ts.tail with
      | error kp =>
        obtain ⟨k1, p1⟩ := kp
        rw [hn] at hans
        obtain ⟨B, rfl, hB, hA⟩ := hans
        have HQ : Hid (q = .error (k1, p1)) := o5 _ (b1 _ hn)
        unfold thrownT
        clear cA o5 o6 b1 b2 hn
        go_wp2
        exact ⟨rfl, Ans.of_err HQ.out (H5.out.sq.ss.gp.trans hg6) (Nat.le_trans H5.out.sq.ss.gp.size hB) hA⟩
      | ok tr =>
        obtain ⟨t, r1⟩ := tr
        rw [hn] at hans
        obtain ⟨v, rfl, rfl, hR6⟩ := hans
        obtain ⟨b3, b4⟩ := b2 _ _ hn
        have H6 : Hid (Si w w6 P X N s r1 d mb ⟨D0, none, none, 0, 0⟩ M .nil) := H5.out.go hg6 hR6 hPXM.1 hPXM.2.1 hPXM.2.2 hGP
        have cM := many_at w6 P d mb s r1 H6.out.sq.ss.rd H6.out.gt hGP
        unfold tkV
        clear hg6 hR6 cA hn b1 b2
        go_wp2_with fail
        refine cM.mono ?_
        rintro e w7 ⟨hg7, hans⟩
        cases hm : many nb s.size r1 with
        | error kp =>
          obtain ⟨k1, p1⟩ := kp
          rw [hm] at hans
          obtain ⟨B, rfl, hB, hA⟩ := hans
          have HQ : Hid (q = .error (k1, p1)) := o5 _ (b3 _ hm)
          unfold thrownT
          clear cM o5 o6 b3 b4 hm
          go_wp2
          exact ⟨rfl, Ans.of_err HQ.out (H6.out.sq.ss.gp.trans hg7) (Nat.le_trans H6.out.sq.ss.gp.size hB) hA⟩
        | ok xr =>
          obtain ⟨x, r2⟩ := xr
          rw [hm] at hans
          obtain ⟨v, rfl, hx, hR7⟩ := hans
          obtain ⟨vb, rfl, _⟩ := hx.ptr
          obtain ⟨b5, b6⟩ := b4 _ _ hm
          have H7 := H6.out.go hg7 hR7 hPXM.1 hPXM.2.1 hPXM.2.2 hGP
          obtain ⟨x0, x1, x2, x3, x4, x5, x6, x7, x8, x9, x10, x11, x12⟩ := H7.sq.ss.iv.facts
          obtain ⟨z0, z1, z2, z3, z4, z5, z6, z7, z8, z9, z10, z11, z12⟩ := H7.sq.ss.iv.fzs
          have hXs := H7.sq.ss.iv.lt
          obtain ⟨c9, hc9⟩ : ∃ c9 : C, c9 = ⟨{ D0 with kd := 2, nm := t, ct := some x }, some ⟨vb, 0, none⟩, none, 0, 0⟩ := ⟨_, rfl⟩
          obtain ⟨w8, hw8⟩ : ∃ w8, w8 = st13 w7 X ⟨{ D0 with kd := 2, nm := t, ct := some x }, some ⟨vb, 0, none⟩, none, 0, 0⟩ := ⟨_, rfl⟩
          have H8 : Hid (Si w w8 P X N s r2 d mb c9 M .nil) := by
            rw [hw8, hc9]
            exact H7.store HX.out.2.1 hPXM.1 (fun e => HX.out.1 e) hGP hx ⟨rfl, rfl⟩
          have HD9 : Hid (c9.d = { D0 with kd := 2, nm := t, ct := some x }) := by show c9.d = _; rw [hc9]
          have cW := want_at ⟨#[59]⟩ w8 P d mb s r2 H8.out.sq.ss.rd
          rw [show L ⟨#[59]⟩ = [59] from rfl] at cW
          clear hR7 hx H7 hg7 cM hc9 hm b3 b4
          go_upto_region 12 with fail
          change Code.wp _ _ _ _ (st13 w7 X ⟨{ D0 with kd := 2, nm := t, ct := some x }, some ⟨vb, 0, none⟩, none, 0, 0⟩)
          rw [← hw8]
          clear hw8 x0 x1 x2 x3 x4 x5 x6 x7 x8 x9 x10 x11 x12 z0 z1 z2 z3 z4 z5 z6 z7 z8 z9 z10 z11 z12 hXs
          by_cases h59 : (hd s.size r2).t = [59]
          · have HQ : Hid (q = .ok (({ D0 with kd := 2, at_ := A, nm := t, ct := some x }, .nil), r2.tail)) := o6 _ _ (b5 h59)
            rw [wantU_yes h59] at cW
            clear o5 o6 b5 b6 h59
            go_wp2_with fail
            refine cW.mono ?_
            rintro e wv ⟨hgv, vv, rfl, rfl, hRv⟩
            have H9 : Hid (Si w wv P X N s r2.tail d mb c9 M .nil) := H8.out.go hgv hRv hPXM.1 hPXM.2.1 hPXM.2.2 hGP
            unfold tkV
            clear cW hgv hRv
            have x1 : wv.cell? ⟨X, 1, none⟩ = some (.int .i64 (c9.d.at_ : Int)) := H9.out.sq.ss.iv.cell 1
            have xz := H9.out.sq.ss.iv.fz 1
            have hXs := H9.out.sq.ss.iv.lt
            obtain ⟨wy, hwy⟩ : ∃ wy, wy = wv.setCell ⟨X, 1, none⟩ (.int .i64 (A : Int)) := ⟨_, rfl⟩
            have HY : Hid (Si w wy P X N s r2.tail d mb (c9.at A) M .nil ∧ (c9.at A).d = { D0 with kd := 2, at_ := A, nm := t, ct := some x } ∧ w.heap.size ≤ N ∧ P < N ∧ w.heap.size ≤ M ∧ N < M) := by
              rw [hwy]
              refine ⟨H9.out.put HX.out.2.1 HX.out.2.2.1 HX.out.2.2.2.1 (by have := HM.out; omega) hGP (set_at c9 A) ⟨rfl, rfl⟩ ⟨rfl, rfl, rfl⟩, ?_, ?_, ?_, ?_, ?_⟩
              · show ({ c9.d with at_ := A } : D) = _
                rw [HD9.out]
              · have := HX.out.2.2.2.2; omega
              · have := HX.out.2.2.2.2; omega
              · have := HM.out; have := HX.out.2.1; omega
              · have := HM.out; have := HX.out.2.2.2.2; omega
            obtain ⟨c10, hc10⟩ : ∃ c10, c10 = c9.at A := ⟨_, rfl⟩
            rw [← hc10] at HY
            go_upto_region 14 with fail
            rw [← hwy]
            clear hwy hc10 x1 xz hXs
            obtain ⟨q0, q1, q2, q3, q4, q5, q6, q7, q8, q9, q10, q11, q12⟩ := HY.out.1.n.facts
            obtain ⟨z0, z1, z2, z3, z4, z5, z6, z7, z8, z9, z10, z11, z12⟩ := HY.out.1.n.fzs
            obtain ⟨x0, x1, x2, x3, x4, x5, x6, x7, x8, x9, x10, x11, x12⟩ := HY.out.1.sq.ss.iv.facts
            have hNy := HY.out.1.n.lt
            have hXy := HY.out.1.sq.ss.iv.lt
            go_wp2
            have hst := HY.out.1.n.store c10
            have hgp := st_gp (c := c10) HY.out.1.sq.ss.gp HY.out.2.2.1
            have hrd := st_rd (c := c10) HY.out.1.sq.ss.rd HY.out.2.2.2.1
            have hox := HY.out.1.sq.o.keep (kx_st (c' := c10) HY.out.1.n)
            have hsub := (HY.out.1.sub.keep (w' := st13 wy N c10) (fun g h1 h2 => st_other wy N c10 g h2 (by have := HY.out.2.2.2.2.2; omega)) (st_rest wy N c10).2.2.2 (kx_st (c' := c10) HY.out.1.n)).low HY.out.2.2.2.2.1
            have e10 := HY.out.2.1
            rw [HQ.out]
            rw [e10] at hox
            exact bodyPost_ret (v := itV c10) (results_cell_row rfl _ _ N 60 (cl c10).toArray (0, 0) _ rfl hst.h Tryz.underlying60 rfl infoI) rfl ⟨hgp, _, rfl, ⟨c10, rfl, e10, hox, hsub⟩, hrd⟩
          · have HQ : Hid (q = .error (3, (hd s.size r2).a)) := o5 _ (b6 h59)
            rw [wantU_no h59] at cW
            clear o5 o6 b5 b6 h59
            go_wp2_with fail
            refine cW.mono ?_
            rintro e wy ⟨hgy, B, rfl, hB, hA⟩
            unfold thrownT
            clear cW
            go_wp2
            exact ⟨rfl, Ans.of_err HQ.out (H8.out.sq.ss.gp.trans hgy) (Nat.le_trans H8.out.sq.ss.gp.size hB) hA⟩
    · -- a part
      obtain ⟨o5, o6⟩ := o4 h2
      have htb : (S.toList == [98, 121, 116, 101, 115]) = false := by rw [htl, beq_eq_false_iff_ne]; exact h2
      have cP := part_at w4 P d mb s ts H4.out.sq.ss.rd H4.out.gt hGP
      clear o1 o2 o3 o4 h1 h2 htl
      go_wp2_with fail
      refine cP.mono ?_
      rintro e w6 ⟨hg6, hans⟩
      cases hm : part nb s.size ts with
      | error kp =>
        obtain ⟨k1, p1⟩ := kp
        rw [hm] at hans
        obtain ⟨B, rfl, hB, hA⟩ := hans
        have HQ : Hid (q = .error (k1, p1)) := o5 _ hm
        unfold thrownT
        clear cP o5 o6 hm
        go_wp2
        exact ⟨rfl, Ans.of_err HQ.out (H4.out.sq.ss.gp.trans hg6) (Nat.le_trans H4.out.sq.ss.gp.size hB) hA⟩
      | ok dr =>
        obtain ⟨d1, r2⟩ := dr
        rw [hm] at hans
        obtain ⟨v, rfl, ⟨pc, rfl, ho⟩, hR6⟩ := hans
        have HQ : Hid (q = .ok (({ d1 with at_ := A }, .nil), r2)) := o6 _ _ hm
        have H7 := H4.out.go hg6 hR6 hPXM.1 hPXM.2.1 hPXM.2.2 hGP
        obtain ⟨x0, x1, x2, x3, x4, x5, x6, x7, x8, x9, x10, x11, x12⟩ := H7.sq.ss.iv.facts
        obtain ⟨z0, z1, z2, z3, z4, z5, z6, z7, z8, z9, z10, z11, z12⟩ := H7.sq.ss.iv.fzs
        have hXs := H7.sq.ss.iv.lt
        obtain ⟨c9, hc9⟩ : ∃ c9 : C, c9 = ⟨d1, pc, none, 0, 0⟩ := ⟨_, rfl⟩
        obtain ⟨w8, hw8⟩ : ∃ w8, w8 = st13 w6 X c9 := ⟨_, rfl⟩
        have H9 : Hid (Si w w8 P X N s r2 d mb c9 M .nil) := by
          rw [hw8, hc9]
          exact H7.store HX.out.2.1 hPXM.1 (fun e => HX.out.1 e) hGP ho ⟨rfl, rfl⟩
        have HD9 : Hid (c9.d = d1) := by show c9.d = _; rw [hc9]
        unfold itV
        rw [← hc9]
        have hcl : (cl c9).toArray = #[.int .i64 (c9.d.kd : Int), .int .i64 (c9.d.at_ : Int), .string (tx c9.d.nm), .string (tx c9.d.ty), .int .i64 (c9.d.wd : Int), .int .i64 (c9.d.od : Int), .bool c9.d.sg, .bool c9.d.mn, .pointer c9.pc, .int .i64 (c9.d.ru : Int), .string (tx c9.d.f1), .string (tx c9.d.l1), .slice c9.p c9.n c9.c] := rfl
        rw [hcl]
        clear hR6 ho H7 hg6 cP hc9 hm o5 o6 hcl
        go_upto_region 13 with fail
        change Code.wp _ _ _ _ (st13 w6 X c9)
        rw [← hw8]
        clear hw8 x0 x1 x2 x3 x4 x5 x6 x7 x8 x9 x10 x11 x12 z0 z1 z2 z3 z4 z5 z6 z7 z8 z9 z10 z11 z12 hXs
        have x1 : w8.cell? ⟨X, 1, none⟩ = some (.int .i64 (c9.d.at_ : Int)) := H9.out.sq.ss.iv.cell 1
        have xz := H9.out.sq.ss.iv.fz 1
        have hXs := H9.out.sq.ss.iv.lt
        obtain ⟨wy, hwy⟩ : ∃ wy, wy = w8.setCell ⟨X, 1, none⟩ (.int .i64 (A : Int)) := ⟨_, rfl⟩
        have HY : Hid (Si w wy P X N s r2 d mb (c9.at A) M .nil ∧ (c9.at A).d = { d1 with at_ := A } ∧ w.heap.size ≤ N ∧ P < N ∧ w.heap.size ≤ M ∧ N < M) := by
          rw [hwy]
          refine ⟨H9.out.put HX.out.2.1 HX.out.2.2.1 HX.out.2.2.2.1 (by have := HM.out; omega) hGP (set_at c9 A) ⟨rfl, rfl⟩ ⟨rfl, rfl, rfl⟩, ?_, ?_, ?_, ?_, ?_⟩
          · show ({ c9.d with at_ := A } : D) = _
            rw [HD9.out]
          · have := HX.out.2.2.2.2; omega
          · have := HX.out.2.2.2.2; omega
          · have := HM.out; have := HX.out.2.1; omega
          · have := HM.out; have := HX.out.2.2.2.2; omega
        obtain ⟨c10, hc10⟩ : ∃ c10, c10 = c9.at A := ⟨_, rfl⟩
        rw [← hc10] at HY
        go_upto_region 14 with fail
        rw [← hwy]
        clear hwy hc10 x1 xz hXs
        obtain ⟨q0, q1, q2, q3, q4, q5, q6, q7, q8, q9, q10, q11, q12⟩ := HY.out.1.n.facts
        obtain ⟨z0, z1, z2, z3, z4, z5, z6, z7, z8, z9, z10, z11, z12⟩ := HY.out.1.n.fzs
        obtain ⟨x0, x1, x2, x3, x4, x5, x6, x7, x8, x9, x10, x11, x12⟩ := HY.out.1.sq.ss.iv.facts
        have hNy := HY.out.1.n.lt
        have hXy := HY.out.1.sq.ss.iv.lt
        go_wp2
        have hst := HY.out.1.n.store c10
        have hgp := st_gp (c := c10) HY.out.1.sq.ss.gp HY.out.2.2.1
        have hrd := st_rd (c := c10) HY.out.1.sq.ss.rd HY.out.2.2.2.1
        have hox := HY.out.1.sq.o.keep (kx_st (c' := c10) HY.out.1.n)
        have hsub := (HY.out.1.sub.keep (w' := st13 wy N c10) (fun g h1 h2 => st_other wy N c10 g h2 (by have := HY.out.2.2.2.2.2; omega)) (st_rest wy N c10).2.2.2 (kx_st (c' := c10) HY.out.1.n)).low HY.out.2.2.2.2.1
        have e10 := HY.out.2.1
        rw [HQ.out]
        rw [e10] at hox
        exact bodyPost_ret (v := itV c10) (results_cell_row rfl _ _ N 60 (cl c10).toArray (0, 0) _ rfl hst.h Tryz.underlying60 rfl infoI) rfl ⟨hgp, _, rfl, ⟨c10, rfl, e10, hox, hsub⟩, hrd⟩
end Go.Proofs.YtococaecjecjgaaGreatDoor.tm
