/- Texts laid together: Tm2, Tm3, Tm4, LayR. -/
import Derived.Test.YtpanodaecjlgaaaGreatDoorZ13
import Derived.Test.YtpanodaecjlgaaaGreatDoorChecked
import Derived.Shelf.Strings.Repeat
/- A reader of a template's tokens: want, name; what lies where it is laid. -/
namespace Go.Proofs.YtpanodaecjlgaaaGreatDoor.tm
set_option linter.unusedVariables false
open Go.ChangeShapes Go.WideShapes Go.ChangeAt Go.RowKit
open mem lx ex

theorem Ans.err {α : Type} {V : World → Value → α → Prop} {P d mb : Nat} {s : ByteArray} {w w' : World} {c : Int} {p B : Nat} (hg : Gp P w w') (hB : w.heap.size ≤ B) (hA : AtX w' B c (p : Int)) : Ans (α := α) V P s d mb w (.error (c, p)) (thrownT B) w' := ⟨hg, B, rfl, hB, hA⟩
theorem tk_eq (t m : List UInt8) : ((tx t).toList == m) = decide (t = m) := by
  rw [tl_tx, Bool.eq_iff_iff]; simp
def wantU (en : Nat) (m : List UInt8) (ts : List Tk) : Rs Unit := match want en m ts with | .ok r => .ok ((), r) | .error e => .error e
theorem wantU_yes {en : Nat} {m : List UInt8} {ts : List Tk} (h : (hd en ts).t = m) : wantU en m ts = .ok ((), ts.tail) := by unfold wantU want; rw [if_pos h]
theorem wantU_no {en : Nat} {m : List UInt8} {ts : List Tk} (h : ¬ (hd en ts).t = m) : wantU en m ts = .error (3, (hd en ts).a) := by unfold wantU want; rw [if_neg h]
/-- A token's variable. -/
structure Tv (w : World) (N : Nat) (S : ByteArray) (a : Int) : Prop where
  h : w.heap[N]? = some (.cells #[.string S, .int .i64 a] 49 (0, 0))
theorem Tv.facts {w : World} {N : Nat} {S : ByteArray} {a : Int} (h : Tv w N S a) : w.cell? ⟨N, 0, none⟩ = some (.string S) ∧ w.cell? ⟨N, 1, none⟩ = some (.int .i64 a) ∧ w.frozen? ⟨N, 0, none⟩ = false ∧ w.frozen? ⟨N, 1, none⟩ = false ∧ N < w.heap.size := by
  obtain ⟨h⟩ := h
  exact ⟨by rw [cell_of h]; rfl, by rw [cell_of h]; rfl, by simp [World.frozen?, h], by simp [World.frozen?, h], lt_of_heap h⟩
theorem Tv.new (w : World) (S : ByteArray) (a : Int) : Tv (w.alloc (.cells #[.string S, .int .i64 a] 49)) w.heap.size S a := ⟨new_at _ _⟩
theorem Tv.bl {w w' : World} {N : Nat} {S : ByteArray} {a : Int} (h : Tv w N S a) (hb : Bl w w') : Tv w' N S a := ⟨by rw [Below.block hb N (lt_of_heap h.h)]; exact h.h⟩
theorem Tv.gp {w w' : World} {P N : Nat} {S : ByteArray} {a : Int} (h : Tv w N S a) (hb : Gp P w w') (hne : N ≠ P) : Tv w' N S a := ⟨by rw [hb.block N (lt_of_heap h.h) hne]; exact h.h⟩
theorem Tv.set {w : World} {N : Nat} {S S' : ByteArray} {a a' : Int} (h : Tv w N S a) : Tv ((w.setCell ⟨N, 0, none⟩ (.string S')).setCell ⟨N, 1, none⟩ (.int .i64 a')) N S' a' := ⟨by simp [World.setCell, Array.getElem?_modify, h.h]⟩
theorem Gp.two {P N : Nat} {w0 w : World} {x y : Value} (h : Gp P w0 w) (hN : w0.heap.size ≤ N) : Gp P w0 ((w.setCell ⟨N, 0, none⟩ x).setCell ⟨N, 1, none⟩ y) := (h.setNew hN x).setNew hN y
theorem RdT.two {w : World} {P N d mb : Nat} {s : ByteArray} {ts : List Tk} (h : RdT w P s ts d mb) (hN : P < N) (x y : Value) : RdT ((w.setCell ⟨N, 0, none⟩ x).setCell ⟨N, 1, none⟩ y) P s ts d mb := (h.behind (grown_set w N 0 x) hN).behind (grown_set _ N 1 y) hN
theorem ret_tok {P : Program} {w : World} {N : Nat} {S : ByteArray} {a : Int} (h : Tv w N S a) : w.heap[N]? = some (.cells #[.string S, .int .i64 a] 49 (0, 0)) := h.h
set_option maxRecDepth 10000 in
theorem want_at (m : ByteArray) (w : World) (P d mb : Nat) (s : ByteArray) (ts : List Tk) (h : RdT w P s ts d mb) :
    Calls Tryz.prog 57 #[.pointer (some ⟨P, 0, none⟩), .string m] w fun e w' => Ans (fun _ v (x : Unit) => v = tkV (hd s.size ts)) P s d mb w (wantU s.size (L m) ts) e w' := by
  have hb0 : Bl w (w.alloc (.cells #[.string ⟨#[]⟩, .int .i64 0] 49)) := (Bl.refl _).alloc _
  have cT := take_at _ P d mb s ts (h.step hb0)
  have hn0 := Tv.new w ⟨#[]⟩ 0
  obtain ⟨N, hN⟩ : ∃ N, N = w.heap.size := ⟨_, rfl⟩
  obtain ⟨w1, hw1⟩ : ∃ w1, w1 = w.alloc (.cells #[.string ⟨#[]⟩, .int .i64 0] 49) := ⟨_, rfl⟩
  have hPw := h.lt
  rw [← hw1] at cT hb0
  rw [← hw1, ← hN] at hn0
  obtain ⟨T, hT⟩ : ∃ T, T = hd s.size ts := ⟨_, rfl⟩
  rw [← hT] at cT ⊢
  have hthr := throw_at T 3
  have htl := tl_tx T.t
  have hPN : P < N := by omega
  unfold tkV at cT hthr ⊢
  obtain ⟨q, hq⟩ : ∃ q, q = wantU s.size (L m) ts := ⟨_, rfl⟩
  rw [← hq]
  have hqq : (T.t = L m → q = .ok ((), ts.tail)) ∧ (¬ T.t = L m → q = .error (3, T.a)) := by
    rw [hq, hT]
    exact ⟨fun h => wantU_yes h, fun h => wantU_no h⟩
  obtain ⟨S, hS⟩ : ∃ S, S = tx T.t := ⟨_, rfl⟩
  rw [← hS] at cT hthr htl ⊢
  have HR : Hid (RdT w P s ts d mb ∧ N = w.heap.size) := ⟨h, hN⟩
  clear h hPw hS hT hq
  go_enter Tryz.func57, Tryz.ntmps57
  go_wp2_with fail
  rw [← hw1]
  refine cT.mono ?_
  rintro e w2 ⟨rfl, hR2, hg2⟩
  have hT2 := hn0.gp hg2 (by omega)
  obtain ⟨g0, g1, z0, z1, hNs⟩ := hT2.facts
  have HG : Hid (Gp P w w2 ∧ RdT w2 P s ts.tail d mb ∧ Tv w2 N ⟨#[]⟩ 0) := ⟨(Gp.bl hb0).trans hg2, hR2, hT2⟩
  rw [← hN]
  clear hw1 hb0 hN hn0 hT2 hg2 hR2 cT
  have hml : m.toList = L m := ByteArray.toList_eq m
  by_cases hm : T.t = L m
  · have HQ : Hid (q = .ok ((), ts.tail)) := hqq.1 hm
    have hb : (S.toList == m.toList) = true := by rw [htl, hml, hm]; simp
    clear hm hqq htl hml hthr
    go_wp2
    have h0 : w.heap.size ≤ N := by have := HR.out.2; omega
    have hv := HG.out.2.2.set (S' := S) (a' := (T.a : Int))
    have hg := Gp.two (x := .string S) (y := .int .i64 (T.a : Int)) HG.out.1 h0
    have hr := HG.out.2.1.two hPN (.string S) (.int .i64 (T.a : Int))
    have hbl : Bl ((w2.setCell ⟨N, 0, none⟩ (.string S)).setCell ⟨N, 1, none⟩ (.int .i64 (T.a : Int))) (((w2.setCell ⟨N, 0, none⟩ (.string S)).setCell ⟨N, 1, none⟩ (.int .i64 (T.a : Int))).alloc (.cells #[.string S, .int .i64 (T.a : Int)] 49)) := (Bl.refl _).alloc _
    rw [HQ.out]
    exact bodyPost_ret (v := .agg #[.string S, .int .i64 (T.a : Int)]) (results_cell_row rfl _ _ N 49 #[.string S, .int .i64 (T.a : Int)] (0, 0) _ rfl (hv.bl hbl).h Tryz.underlying49 rfl infoT) rfl ⟨hg.trans (Gp.bl hbl), _, rfl, rfl, hr.step hbl⟩
  · have HQ : Hid (q = .error (3, T.a)) := hqq.2 hm
    have hb : (S.toList == m.toList) = false := by rw [htl, hml, beq_eq_false_iff_ne]; exact hm
    clear hm hqq htl hml
    go_wp2_with fail
    refine (hthr _).mono ?_
    rintro e w4 ⟨B, rfl, k1, k2, k3⟩
    unfold thrownT
    go_wp2
    have hs := HG.out.1.size
    have hs2 : w2.heap.size ≤ (w2.alloc (.cells #[.string S, .int .i64 (T.a : Int)] 49)).heap.size := ((Bl.refl _).alloc _).size
    refine ⟨rfl, ?_⟩
    rw [HQ.out]
    exact Ans.err (HG.out.1.trans (Gp.bl (((Bl.refl _).alloc _).trans k3))) (by omega) k2
end Go.Proofs.YtpanodaecjlgaaaGreatDoor.tm
/- A reader of a template's tokens: name. -/
namespace Go.Proofs.YtpanodaecjlgaaaGreatDoor.tm
set_option linter.unusedVariables false
open Go.ChangeShapes Go.WideShapes Go.ChangeAt Go.RowKit
open mem lx ex

theorem RdT.look {w : World} {P d mb : Nat} {s : ByteArray} {ts : List Tk} (h : RdT w P s ts d mb) (t : List UInt8) (ht : t.length ≤ 3000) :
    (Instr.lookup 66 (.map (some mb)) (.string (tx t)) true).run Tryz.prog w = .ok (.tuple #[.int .i64 (if resv t = true then wdV t else 0), .bool (resv t)]) w := by
  obtain ⟨⟨n, hm⟩, _⟩ := h.mp
  have := hm.look (tx t) (by rw [tx_size]; omega)
  rw [this]
  have e : (tx t).data.toList = t := L_tx t
  rw [e]
  cases hr : resv t with
  | true => simp
  | false => simp
theorem RdT.cells {w : World} {P d mb : Nat} {s : ByteArray} {ts : List Tk} (h : RdT w P s ts d mb) : ∃ p c, w.cell? ⟨P, 0, none⟩ = some (.string s) ∧ w.cell? ⟨P, 1, none⟩ = some (.slice p ts.length c) ∧ w.cell? ⟨P, 2, none⟩ = some (.int .i64 (d : Int)) ∧ w.cell? ⟨P, 3, none⟩ = some (.map (some mb)) ∧ (∀ j, w.frozen? ⟨P, j, none⟩ = false) ∧ tr.In w p ts ∧ ts.length ≤ c ∧ (∀ x, p = some x → x.block < P) := by
  obtain ⟨p, c, h1, h2, h3, h4⟩ := h.ex
  exact ⟨p, c, by rw [cell_of h1]; rfl, by rw [cell_of h1]; rfl, by rw [cell_of h1]; rfl, by rw [cell_of h1]; rfl, fun j => by simp [World.frozen?, h1], h3, h2, h4⟩
theorem name_is (en : Nat) (ts : List Tk) : (resv (hd en ts).t = true ∨ isN (hd en ts).t = false → name en ts = .error (3, (hd en ts).a)) ∧ (resv (hd en ts).t = false → isN (hd en ts).t = true → 12 < (hd en ts).t.length → name en ts = .error (4, (hd en ts).a)) ∧ (resv (hd en ts).t = false → isN (hd en ts).t = true → ¬ 12 < (hd en ts).t.length → name en ts = .ok ((hd en ts).t, ts.tail)) := by
  unfold name
  refine ⟨fun h => by rw [if_pos h], fun h1 h2 h3 => by rw [if_neg (by rw [h1, h2]; simp), if_pos h3], fun h1 h2 h3 => by rw [if_neg (by rw [h1, h2]; simp), if_neg h3]⟩
set_option maxRecDepth 10000 in
set_option maxHeartbeats 1000000 in
theorem name_at (w : World) (P d mb : Nat) (s : ByteArray) (ts : List Tk) (h : RdT w P s ts d mb) :
    Calls Tryz.prog 59 #[.pointer (some ⟨P, 0, none⟩)] w fun e w' => Ans (fun _ v t => v = tkV ⟨t, (hd s.size ts).a⟩) P s d mb w (name s.size ts) e w' := by
  have hb0 : Bl w (w.alloc (.cells #[.string ⟨#[]⟩, .int .i64 0] 49)) := (Bl.refl _).alloc _
  have cT := take_at _ P d mb s ts (h.step hb0)
  have hn0 := Tv.new w ⟨#[]⟩ 0
  obtain ⟨N, hN⟩ : ∃ N, N = w.heap.size := ⟨_, rfl⟩
  obtain ⟨w1, hw1⟩ : ∃ w1, w1 = w.alloc (.cells #[.string ⟨#[]⟩, .int .i64 0] 49) := ⟨_, rfl⟩
  have hPw := h.lt
  have hlen := h.hdlen
  rw [← hw1] at cT hb0
  rw [← hw1, ← hN] at hn0
  obtain ⟨o1, o2, o3⟩ := name_is s.size ts
  obtain ⟨T, hT⟩ : ∃ T, T = hd s.size ts := ⟨_, rfl⟩
  rw [← hT] at cT o1 o2 o3 hlen ⊢
  have cN := Name_at (tx T.t)
  rw [L_tx, isN_nmb] at cN
  have hthr := throw_at T
  have hPN : P < N := by omega
  have HO : Hid (T = hd s.size ts) := hT
  unfold tkV at cT hthr
  obtain ⟨q, hq⟩ : ∃ q, q = name s.size ts := ⟨_, rfl⟩
  rw [← hq] at o1 o2 o3 ⊢
  have hsz : (tx T.t).size = T.t.length := tx_size _
  obtain ⟨b, hb⟩ : ∃ b, b = resv T.t := ⟨_, rfl⟩
  obtain ⟨S, hS⟩ : ∃ S, S = tx T.t := ⟨_, rfl⟩
  rw [← hS] at cT hthr cN hsz
  have HR : Hid (RdT w P s ts d mb ∧ N = w.heap.size ∧ S = tx T.t ∧ b = resv T.t) := ⟨h, hN, hS, hb⟩
  rw [← hb] at o1 o2 o3
  clear h hPw hS hT hq hb
  go_enter Tryz.func59, Tryz.ntmps59
  go_wp2_with fail
  rw [← hw1]
  refine cT.mono ?_
  rintro e w2 ⟨rfl, hR2, hg2⟩
  have hT2 := hn0.gp hg2 (by omega)
  have hn2 := Tv.new w2 S (T.a : Int)
  obtain ⟨N2, hN2⟩ : ∃ N2, N2 = w2.heap.size := ⟨_, rfl⟩
  obtain ⟨w3, hw3⟩ : ∃ w3, w3 = w2.alloc (.cells #[.string S, .int .i64 (T.a : Int)] 49) := ⟨_, rfl⟩
  have hb23 : Bl w2 w3 := by rw [hw3]; exact (Bl.refl _).alloc _
  rw [← hw3, ← hN2] at hn2
  have hR3 := (hR2.step hb23).step (Bl.refl w3).drew
  have hlk := hR3.look T.t hlen
  rw [← HR.out.2.2.1, ← HR.out.2.2.2] at hlk
  obtain ⟨p, c, d0, d1, d2, d3, dz, _⟩ := hR3.cells
  obtain ⟨g0, g1, z0, z1, hNs⟩ := (hn2.bl (Bl.refl w3).drew).facts
  obtain ⟨r, hr⟩ : ∃ r, r = (if b = true then wdV T.t else 0) := ⟨_, rfl⟩
  rw [← hr] at hlk
  have HG : Hid (Gp P w w3 ∧ RdT w3 P s ts.tail d mb ∧ Tv w3 N ⟨#[]⟩ 0 ∧ Tv w3 N2 S (T.a : Int)) := ⟨((Gp.bl hb0).trans hg2).trans (Gp.bl hb23), hR2.step hb23, hT2.bl hb23, hn2⟩
  have HM : Hid (N2 = w2.heap.size ∧ Bl w2 w3 ∧ N < w2.heap.size) := ⟨hN2, hb23, hT2.facts.2.2.2.2⟩
  clear hr hn2 hb0 hn0 hT2 hg2 hR2 cT hR3 hb23 hw1
  go_upto_region 2 with fail
  rw [← hN, ← hN2, ← hw3]
  clear hw3 hN2 hN
  go_region
  have HW : Hid (Gp P w w3.drew ∧ RdT w3.drew P s ts.tail d mb ∧ Tv w3.drew N ⟨#[]⟩ 0 ∧ Tv w3.drew N2 S (T.a : Int) ∧ w.heap.size ≤ N) := ⟨HG.out.1.trans (Gp.bl (Bl.refl _).drew), HG.out.2.1.step (Bl.refl _).drew, HG.out.2.2.1.bl (Bl.refl _).drew, HG.out.2.2.2.bl (Bl.refl _).drew, by have := HR.out.2.1; omega⟩
  obtain ⟨y0, y1, x0, x1, hNN⟩ := HW.out.2.2.1.facts
  obtain ⟨W, hW⟩ : ∃ W, W = w3.drew := ⟨_, rfl⟩
  rw [← hW] at HW g0 g1 z0 z1 hNs y0 y1 x0 x1 hNN ⊢
  have hNe : ¬ N = N2 := by
    have h1 := HM.out.1
    have h2 := HR.out.2.1
    have h3 := HG.out.1.size
    have h4 := HM.out.2.2
    omega
  clear hlk d0 d1 d2 d3 dz hW
  -- a word that may not stand there
  have bad : ∀ (W' : World) (c : Int) (e : Ending) (w4 : World), Bl W W' → (∃ B, e = thrownT B ∧ W'.heap.size ≤ B ∧ AtX w4 B c (T.a : Int) ∧ Bl W' w4) → q = .error (c, T.a) → ∃ B, e = thrownT B ∧ Ans (fun _ v (t : List UInt8) => v = tkV ⟨t, T.a⟩) P s d mb w q e w4 := by
    rintro W' c e w4 hb ⟨B, rfl, k1, k2, k3⟩ hq
    refine ⟨B, rfl, ?_⟩
    rw [hq]
    exact Ans.err (HW.out.1.trans (Gp.bl (hb.trans k3))) (by have := HW.out.1.size; have := hb.size; omega) k2
  have HB : Hid (∀ (W' : World) (c : Int) (e : Ending) (w4 : World), Bl W W' → (∃ B, e = thrownT B ∧ W'.heap.size ≤ B ∧ AtX w4 B c (T.a : Int) ∧ Bl W' w4) → q = .error (c, T.a) → ∃ B, e = thrownT B ∧ Ans (fun _ v (t : List UInt8) => v = tkV ⟨t, T.a⟩) P s d mb w q e w4) := bad
  clear bad
  have hb1 : Bl W (W.alloc (.cells #[.string S, .int .i64 (T.a : Int)] 49)) := (Bl.refl _).alloc _
  cases hbb : b with
  | true =>
    have HQ : Hid (q = .error (3, T.a)) := o1 (Or.inl hbb)
    clear o1 o2 o3 hbb
    go_wp2_with fail
    refine (hthr _ _).mono ?_
    rintro e w4 hh
    obtain ⟨B, rfl, hans⟩ := HB.out _ _ _ _ (Bl.refl _) hh HQ.out
    clear hh
    unfold thrownT
    go_wp2
    exact ⟨rfl, hans⟩
  | false =>
    by_cases hn : isN T.t = true
    · rw [hn] at cN
      by_cases h12 : 12 < T.t.length
      · have HQ : Hid (q = .error (4, T.a)) := o2 hbb hn h12
        rw [← hsz] at h12
        have h12' : (12 : Int) < (S.size : Int) := by omega
        clear o1 o2 o3 hbb hn hsz
        go_wp2_with fail
        refine (cN _).mono ?_
        rintro e w1 ⟨rfl, rfl⟩
        go_wp2_with fail
        refine (hthr _ _).mono ?_
        rintro e w4 hh
        obtain ⟨B, rfl, hans⟩ := HB.out _ _ _ _ (Bl.refl _) hh HQ.out
        clear hh
        unfold thrownT
        go_wp2
        exact ⟨rfl, hans⟩
      · have HQ : Hid (q = .ok (T.t, ts.tail)) := o3 hbb hn h12
        rw [← hsz] at h12
        have h12' : ¬ (12 : Int) < (S.size : Int) := by omega
        clear o1 o2 o3 hbb hn hsz
        go_wp2_with fail
        refine (cN _).mono ?_
        rintro e w1 ⟨rfl, rfl⟩
        go_wp2
        have hv := HW.out.2.2.1.set (S' := S) (a' := (T.a : Int))
        have hg := Gp.two (x := .string S) (y := .int .i64 (T.a : Int)) HW.out.1 HW.out.2.2.2.2
        have hr := HW.out.2.1.two hPN (.string S) (.int .i64 (T.a : Int))
        rw [HQ.out]
        exact bodyPost_ret (v := .agg #[.string S, .int .i64 (T.a : Int)]) (results_cell_row rfl _ _ N 49 #[.string S, .int .i64 (T.a : Int)] (0, 0) _ rfl hv.h Tryz.underlying49 rfl infoT) rfl ⟨hg, _, rfl, (by show Value.agg _ = Value.agg _; rw [HR.out.2.2.1]), hr⟩
    · rw [Bool.not_eq_true] at hn
      rw [hn] at cN
      have HQ : Hid (q = .error (3, T.a)) := o1 (Or.inr hn)
      clear o1 o2 o3 hbb hn hsz
      go_wp2_with fail
      refine (cN _).mono ?_
      rintro e w1 ⟨rfl, rfl⟩
      go_wp2_with fail
      refine (hthr _ _).mono ?_
      rintro e w4 hh
      obtain ⟨B, rfl, hans⟩ := HB.out _ _ _ _ (Bl.refl _) hh HQ.out
      clear hh
      unfold thrownT
      go_wp2
      exact ⟨rfl, hans⟩
end Go.Proofs.YtpanodaecjlgaaaGreatDoor.tm
/- Where the mark stands that ends an expression. -/
namespace Go.Proofs.YtpanodaecjlgaaaGreatDoor.tm
set_option linter.unusedVariables false
open Go.ChangeShapes Go.WideShapes Go.ChangeAt Go.RowKit
open mem lx ex

theorem mark_is (m : ByteArray) (b : Nat) (t : Tk) (w : World) (hb : w.cell? ⟨b, 0, none⟩ = some (.string m)) : Calls Tryz.prog 127 #[tkV t, .pointer (some ⟨b, 0, none⟩)] w fun e w' => e = .returned (.bool (decide (t.t = L m))) ∧ Bl w w' := by
  have hb' := at_bl ((Bl.refl w).alloc (.cells #[.string (tx t.t), .int .i64 (t.a : Int)] 49)) hb
  have hlt : b < w.heap.size := by
    rcases Nat.lt_or_ge b w.heap.size with h | h
    · exact h
    · simp [World.cell?, Array.getElem?_eq_none h] at hb
  have hne : ¬ b = w.heap.size := by omega
  have htl := tl_tx t.t
  have hml : m.toList = L m := ByteArray.toList_eq m
  have hD : (decide (t.t = L m)) = ((tx t.t).toList == m.toList) := by rw [htl, hml, Bool.eq_iff_iff]; simp
  unfold tkV
  rw [hD]
  clear hD htl hml
  generalize tx t.t = S at *
  go_enter Tryz.func127, Tryz.ntmps127
  go_wp2
  go_ret
  exact ⟨rfl, (Bl.refl _).alloc _⟩
theorem upto_facts (m : List UInt8) (ts : List Tk) : (upto m ts).length ≤ ts.length ∧ (∀ i (h : i < ts.length), i < (upto m ts).length → ts[i].t ≠ m) ∧ ((h : (upto m ts).length < ts.length) → ts[(upto m ts).length].t = m) := by
  induction ts with
  | nil => exact ⟨Nat.le_refl _, fun i h => absurd h (Nat.not_lt_zero _), fun h => absurd h (Nat.not_lt_zero _)⟩
  | cons t ts ih =>
    obtain ⟨h1, h2, h3⟩ := ih
    by_cases ht : t.t = m
    · have e : upto m (t :: ts) = [] := by
        unfold upto
        rw [List.takeWhile_cons_of_neg (p := fun t : Tk => t.t != m) (by simp [ht])]
      simp only [e, List.length_nil]
      exact ⟨Nat.zero_le _, fun i _ h => absurd h (Nat.not_lt_zero _), fun _ => ht⟩
    · have e : upto m (t :: ts) = t :: upto m ts := by
        unfold upto
        rw [List.takeWhile_cons_of_pos (p := fun t : Tk => t.t != m) (by simpa using ht)]
      simp only [e, List.length_cons]
      refine ⟨by omega, fun i h h' => ?_, fun h => ?_⟩
      · cases i with
        | zero => exact ht
        | succ i => exact h2 i (by simpa using h) (by omega)
      · exact h3 (by simpa using h)
/-- Where it stands, or -1. -/
def whereM (m : List UInt8) (ts : List Tk) : Int := if (upto m ts).length < ts.length then ((upto m ts).length : Int) else -1
set_option maxRecDepth 10000 in
theorem index_at (m : ByteArray) (b : Nat) (ts : List Tk) (p : Option Addr) (c : Nat) (w : World) (hin : tr.In w p ts) (hl : ts.length ≤ c) (hn : ts.length ≤ 3000) (hb : w.cell? ⟨b, 0, none⟩ = some (.string m)) :
    Calls Tryz.prog 126 #[.slice p ts.length c, .func (.func 127) #[] #[.pointer (some ⟨b, 0, none⟩)]] w fun e w' => e = .returned (.int .i64 (whereM (L m) ts)) ∧ Bl w w' := by
  obtain ⟨U, hU⟩ : ∃ U, U = (upto (L m) ts).length := ⟨_, rfl⟩
  obtain ⟨u1, u2, u3⟩ := upto_facts (L m) ts
  rw [← hU] at u1 u2
  have hW : whereM (L m) ts = if U < ts.length then (U : Int) else -1 := by unfold whereM; rw [hU]
  have u3' : ∀ (h : U < ts.length), ts[U].t = L m := by subst hU; exact u3
  rw [hW]
  clear hW u3 hU
  obtain ⟨n, hnn⟩ : ∃ n, n = ts.length := ⟨_, rfl⟩
  have HI : Hid (tr.In w p ts ∧ n = ts.length ∧ (∀ i (h : i < ts.length), i < U → ts[i].t ≠ L m) ∧ (∀ (h : U < ts.length), ts[U].t = L m)) := ⟨hin, hnn, u2, u3'⟩
  rw [← hnn] at u1 hl hn ⊢
  clear hin u2 u3' hnn
  have hsl : p = none → n = 0 := fun h => by
    rcases HI.out.1 with h1 | ⟨x, h1, _⟩
    · rw [HI.out.2.1, h1]; rfl
    · rw [h] at h1; cases h1
  clear hsl
  go_enter Tryz.func126, Tryz.ntmps126
  go_wp2
  go_loopw [8] (fun i wr => ∃ k : Nat, k ≤ U ∧ i = .int .i64 (k : Int) ∧ Hid (Bl w wr)) (fun i _ => n - (intOf i).toNat)
  case atStart => exact ⟨0, by omega, rfl, Bl.refl _⟩
  case round =>
    obtain ⟨k, hk, rfl, HB⟩ := hrel
    by_cases hkn : k < n
    · have d1 : decide ((k : Int) < (n : Int)) = true := decide_eq_true (by omega)
      have hk' : k < ts.length := by have := HI.out.2.1; omega
      obtain ⟨x, hx, q0, q1⟩ := (HI.out.1.step HB.out).at' k hk'
      have HT : Hid (k < U → ts[k].t ≠ L m) := HI.out.2.2.1 k hk'
      have HT2 : Hid (k = U → ts[k].t = L m) := fun h => by subst h; exact HI.out.2.2.2 hk'
      generalize ts[k] = t at *
      have cM := mark_is m b t wr (at_bl HB.out hb)
      subst hx
      unfold tkV at cM
      have hnn : ¬ n ≤ k := by omega
      by_cases hkU : k < U
      · have hD : decide (t.t = L m) = false := decide_eq_false (HT.out hkU)
        rw [hD] at cM
        clear hD
        go_wp2_with fail
        refine cM.mono ?_
        rintro e w2 ⟨rfl, hb2⟩
        go_wp2
        go_roundw
        case rel => exact ⟨k + 1, by omega, by go_num, HB.out.trans hb2⟩
        case measure => simp [intOf]; omega
      · obtain rfl : k = U := by omega
        have hD : decide (t.t = L m) = true := decide_eq_true (HT2.out rfl)
        rw [hD] at cM
        clear hD
        go_wp2_with fail
        refine cM.mono ?_
        rintro e w2 ⟨rfl, hb2⟩
        go_wp2
        go_ret
        exact ⟨ret_int rfl, HB.out.trans hb2⟩
    · have d1 : decide ((k : Int) < (n : Int)) = false := decide_eq_false (by omega)
      have hUn : ¬ U < n := by omega
      go_wp2
      go_ret
      exact ⟨ret_int rfl, HB.out⟩
end Go.Proofs.YtpanodaecjlgaaaGreatDoor.tm
/- The library's own texts that a call comes to, as this program has them: laid on the shelf's. -/
namespace Go.Proofs.YtpanodaecjlgaaaGreatDoor.layR
open Go.Shelf
def rf : FuncId → FuncId
  | 99 => 83
  | 105 => 129
  | 165 => 147
  | 166 => 38
  | 169 => 40
  | 170 => 148
  | 206 => 106
  | 212 => 146
  | 240 => 61
  | 241 => 158
  | 263 => 157
  | 264 => 153
  | 276 => 92
  | 277 => 167
  | x => x
def rt : TypeId → TypeId
  | 0 => 0
  | 3 => 3
  | 4 => 4
  | 5 => 5
  | 9 => 9
  | 20 => 20
  | 37 => 78
  | 46 => 186
  | 51 => 200
  | 53 => 157
  | 70 => 77
  | 72 => 80
  | 75 => 30
  | 76 => 81
  | 80 => 56
  | 109 => 210
  | 127 => 121
  | 146 => 201
  | 148 => 216
  | 164 => 134
  | x => x
def rg : Nat → Nat

  | x => x
def ren : Ren := ⟨rf, rt, rg⟩
set_option maxRecDepth 100000 in
theorem laid105 : Lays.n105 Tryz.prog ren where
  mixed := by kernel_rfl
  f99 := by kernel_rfl
  f105 := by kernel_rfl
  f165 := by kernel_rfl
  f166 := by kernel_rfl
  f169 := by kernel_rfl
  f170 := by kernel_rfl
  f206 := by kernel_rfl
  f212 := by kernel_rfl
  f240 := by kernel_rfl
  f241 := by kernel_rfl
  f263 := by kernel_rfl
  f264 := by kernel_rfl
  f276 := by kernel_rfl
  f277 := by kernel_rfl
  t0 := by kernel_rfl
  a0 := fun _ => by kernel_rfl
  z0 := fun _ => by kernel_rfl
  v0 := fun _ => by kernel_rfl
  t3 := by kernel_rfl
  a3 := fun _ => by kernel_rfl
  z3 := fun _ => by kernel_rfl
  v3 := fun _ => by kernel_rfl
  t4 := by kernel_rfl
  a4 := fun _ => by kernel_rfl
  z4 := fun _ => by kernel_rfl
  v4 := fun _ => by kernel_rfl
  t5 := by kernel_rfl
  a5 := fun _ => by kernel_rfl
  z5 := fun _ => by kernel_rfl
  v5 := fun _ => by kernel_rfl
  t9 := by kernel_rfl
  a9 := fun _ => by kernel_rfl
  z9 := fun _ => by kernel_rfl
  v9 := fun _ => by kernel_rfl
  t20 := by kernel_rfl
  a20 := fun _ => by kernel_rfl
  z20 := fun _ => by kernel_rfl
  v20 := fun _ => by kernel_rfl
  t37 := by kernel_rfl
  a37 := fun _ => by kernel_rfl
  z37 := fun _ => by kernel_rfl
  v37 := fun _ => by kernel_rfl
  t46 := by kernel_rfl
  a46 := fun _ => by kernel_rfl
  z46 := fun _ => by kernel_rfl
  v46 := fun _ => by kernel_rfl
  t51 := by kernel_rfl
  a51 := fun _ => by kernel_rfl
  z51 := fun _ => by kernel_rfl
  v51 := fun _ => by kernel_rfl
  t53 := by kernel_rfl
  a53 := fun _ => by kernel_rfl
  z53 := fun _ => by kernel_rfl
  v53 := fun _ => by kernel_rfl
  t70 := by kernel_rfl
  a70 := fun _ => by kernel_rfl
  z70 := fun _ => by kernel_rfl
  v70 := fun _ => by kernel_rfl
  t72 := by kernel_rfl
  a72 := fun _ => by kernel_rfl
  z72 := fun _ => by kernel_rfl
  v72 := fun _ => by kernel_rfl
  t75 := by kernel_rfl
  a75 := fun _ => by kernel_rfl
  z75 := fun _ => by kernel_rfl
  v75 := fun _ => by kernel_rfl
  t76 := by kernel_rfl
  a76 := fun _ => by kernel_rfl
  z76 := fun _ => by kernel_rfl
  v76 := fun _ => by kernel_rfl
  t109 := by kernel_rfl
  a109 := fun _ => by kernel_rfl
  z109 := fun _ => by kernel_rfl
  v109 := fun _ => by kernel_rfl
  t127 := by kernel_rfl
  a127 := fun _ => by kernel_rfl
  z127 := fun _ => by kernel_rfl
  v127 := fun _ => by kernel_rfl
  t146 := by kernel_rfl
  a146 := fun _ => by kernel_rfl
  z146 := fun _ => by kernel_rfl
  v146 := fun _ => by kernel_rfl
  t148 := by kernel_rfl
  a148 := fun _ => by kernel_rfl
  z148 := fun _ => by kernel_rfl
  v148 := fun _ => by kernel_rfl
  t164 := by kernel_rfl
  a164 := fun _ => by kernel_rfl
  z164 := fun _ => by kernel_rfl
  v164 := fun _ => by kernel_rfl
set_option maxRecDepth 100000 in
theorem extra : Builder.Extra Tryz.prog ren where
  sizeBuilder := by kernel_rfl
  liesBuilder := by kernel_rfl
  t5 := by kernel_rfl
  a5 := fun _ => by kernel_rfl
  z5 := fun _ => by kernel_rfl
  v5 := fun _ => by kernel_rfl
  infoByte := by kernel_rfl
  cellsByte := by kernel_rfl
  sizeByte := by kernel_rfl
  neB5 := by decide
end Go.Proofs.YtpanodaecjlgaaaGreatDoor.layR
