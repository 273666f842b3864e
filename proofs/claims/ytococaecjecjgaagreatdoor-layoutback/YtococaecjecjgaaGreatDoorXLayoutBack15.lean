/- Texts laid together: TmH, TmI, TmJ, TmK, TmL. -/
import Derived.Test.YtococaecjecjgaaGreatDoorXLayoutBack14
import Derived.Test.YtococaecjecjgaaGreatDoorXLayoutBack11
import Derived.BigQuiet
import Derived.Test.YtococaecjecjgaaGreatDoorXLayoutBack8
/- Parse of package tmpl, whole. -/
namespace Go.Proofs.YtococaecjecjgaaGreatDoor.tm
set_option linter.unusedVariables false
open Go.ChangeShapes Go.WideShapes Go.ChangeAt Go.RowKit Go.Shelf
open mem lx ex

theorem IsTs.keep {w w' : World} {ok : Nat → Prop} {v : Value} {l : List Ty} (h : IsTs w ok v l) (hk : ∀ g, ok g → g < w.heap.size → w'.heap[g]? = w.heap[g]?) (hs : w.heap.size ≤ w'.heap.size) (hx : Kx w w') : IsTs w' ok v l := by
  obtain ⟨p, c, cs, h1, h2, h3⟩ := h
  exact ⟨p, c, cs, h1, h2.keep hk hs, h3.keep hk hs hx⟩
theorem IsTs.setv {w : World} {b base : Nat} {v x y : Value} {t : TypeId} {l : List Ty} (h : IsTs w (fun g => base ≤ g) v l) (hv : Vr w b y t) (ht : t ≠ 152) (hb : b < base) : IsTs (w.setCell ⟨b, 0, none⟩ x) (fun g => base ≤ g) v l :=
  h.keep (fun g hg hlt => (grown_set w b 0 x).block g hlt (fun e => by injection e with e; omega)) (by simp [World.setCell]) (Kx.set hv ht)
/-- What a text's structs are, or what is told, and where. -/
noncomputable def prT (l : List UInt8) : Except (Int × Nat) (List Ty) :=
  match (lx l 0).2 with
  | some p => .error (3, p)
  | none => typs nb l.length 8 (lx l 0).1
/-- What Parse answers. -/
def TPA (s : ByteArray) (w : World) (e : Ending) (w' : World) : Prop :=
  Bl w w' ∧ match prT (L s) with
  | .ok l => ∃ v, e = .returned (.tuple #[v, .nilIface]) ∧ IsTs w' (fun g => w.heap.size ≤ g) v l
  | .error (c, p) => ∃ B : Nat, e = .returned (.tuple #[.slice none 0 0, atV B]) ∧ w.heap.size ≤ B ∧ AtX w' B c (p : Int)
theorem TPA.of_err {s : ByteArray} {w w' : World} {c : Int} {p B : Nat} (hq : prT (L s) = .error (c, p)) (hb : Bl w w') (hB : w.heap.size ≤ B) (hA : AtX w' B c (p : Int)) : TPA s w (.returned (.tuple #[.slice none 0 0, atV B])) w' := by
  refine ⟨hb, ?_⟩
  rw [hq]
  exact ⟨B, rfl, hB, hA⟩
theorem TPA.of_ok {s : ByteArray} {w w' : World} {l : List Ty} {v : Value} (hq : prT (L s) = .ok l) (hb : Bl w w') (hv : IsTs w' (fun g => w.heap.size ≤ g) v l) : TPA s w (.returned (.tuple #[v, .nilIface])) w' := by
  refine ⟨hb, ?_⟩
  rw [hq]
  exact ⟨v, rfl, hv⟩
set_option maxRecDepth 10000 in
set_option maxHeartbeats 2000000 in
theorem Parse_at (s : ByteArray) (w : World) (hs : s.size ≤ 3000) (hG : Gt w) :
    Calls Tryz.prog 32 #[.string s] w fun e w' => TPA s w e w' := by
  have hmf : ∀ (fn : Fn) (first cap : Array Value) (w : World), (Instr.makeFunc fn first cap).run Tryz.prog w = .ok (.func fn first cap) w := fun _ _ _ _ => rfl
  have cL := fun wx (hb : Bl w wx) => Lex_at s wx hs (hG.gd.ms.step hb)
  have H0 : Hid _ := PvT.new w
  obtain ⟨N, hN⟩ : ∃ N, N = w.heap.size := ⟨_, rfl⟩
  rw [← hN] at H0
  have HG : Hid (Gt w) := hG
  have hcl := H0.out.bl
  clear hG
  go_enter_defers Tryz.func32, Tryz.ntmps32
  go_wp2_with fail
  refine (cL _ hcl).mono ?_
  rintro e w2 ⟨hb2, hans⟩
  rw [← hN]
  have H2 : Hid _ := H0.out.step hb2
  have c1 := H2.out.v1.cell
  have c2 := H2.out.v2.cell
  have f1 := H2.out.v1.frozen
  have f2 := H2.out.v2.frozen
  have hsz : N + 2 ≤ ((w.alloc (.cells #[.slice none 0 0] 22)).alloc (.cells #[.nilIface] 34)).heap.size := by have := H0.out.v2.lt; omega
  rcases hans with ⟨g1, v, rfl, g2⟩ | ⟨p, B, g1, rfl, g2, g3⟩
  · obtain ⟨ts, hts⟩ : ∃ ts, ts = (lx (L s) 0).1 := ⟨_, rfl⟩
    have hprs : prT (L s) = typs nb s.size 8 ts := by
      unfold prT
      rw [g1, ← hts, L_len]
    have hsx : ∃ pre, lx (L s) 0 = (pre ++ ts, none) := ⟨[], by rw [hts, List.nil_append, ← g1]⟩
    rw [← hts] at g2
    obtain ⟨vp, vc, rfl, hvc, hin⟩ := g2.view
    have HX : Hid (prT (L s) = typs nb s.size 8 ts ∧ (∃ pre, lx (L s) 0 = (pre ++ ts, none)) ∧ ts.length ≤ vc) := ⟨hprs, hsx, hvc⟩
    have HO : Hid (tr.Own w2 (N + 2) (.slice vp ts.length vc) ts) := g2.low hsz
    clear g1 g2 hprs hsx hts cL hN hcl hsz hin hvc
    have cT := fun wx (hb : Bl w wx) => taken_at wx (HG.out.bl hb)
    have H2b : Hid (PvT w (w2.setCell ⟨N + 1, 0, none⟩ .nilIface) N (.slice none 0 0) .nilIface ∧ tr.Own (w2.setCell ⟨N + 1, 0, none⟩ .nilIface) (N + 2) (.slice vp ts.length vc) ts) := by
      refine ⟨H2.out.set2 _, HO.out.kept (grown_set _ _ _ _) ?_⟩
      intro x hx e
      injection e with e
      have := (HO.out.block x hx).1
      omega
    have hbw := H2b.out.1.bl
    go_wp2_with fail
    generalize w2.setCell ⟨N + 1, 0, none⟩ .nilIface = w3 at *
    refine (cT _ hbw).mono ?_
    rintro e w4 ⟨mb, rfl, hm1, hm2, hm3, hb4⟩
    have H4 : Hid (PvT w w4 N (.slice none 0 0) .nilIface ∧ tr.Own w4 (N + 2) (.slice vp ts.length vc) ts) := ⟨H2b.out.1.step hb4, H2b.out.2.step hb4⟩
    obtain ⟨P, hP⟩ : ∃ P, P = w4.heap.size := ⟨_, rfl⟩
    obtain ⟨w5, hw5⟩ : ∃ w5, w5 = w4.alloc (.cells #[.string s, .slice vp ts.length vc, .int .i64 0, .map (some mb)] 129) := ⟨_, rfl⟩
    have hb5 : Bl w4 w5 := by rw [hw5]; exact (Bl.refl _).alloc _
    have H5 : Hid (PvT w w5 N (.slice none 0 0) .nilIface ∧ N + 1 < P) := ⟨H4.out.1.step hb5, by have := H4.out.1.v2.lt; omega⟩
    have hR5 : RdT w5 P s ts 0 mb := by
      have hn := new_at w4 (.cells #[.string s, .slice vp ts.length vc, .int .i64 0, .map (some mb)] 129)
      rw [← hw5, ← hP] at hn
      obtain ⟨vp', vc', hv', hvc', hin'⟩ := (H4.out.2.step hb5).view
      have e1 : vp' = vp := by injection hv' with h1 _ _; exact h1.symm
      have e2 : vc' = vc := by injection hv' with _ _ h3; exact h3.symm
      subst e1 e2
      refine ⟨⟨vp', vc', hn, hvc', hin', fun x hx => ?_⟩, ⟨?_, by omega⟩, HX.out.2.1, hs⟩
      · have hb := H4.out.2.block
        have := (hb x.block (by rw [hx]; rfl)).2
        omega
      · obtain ⟨n, hn'⟩ := hm3
        exact ⟨n, hn'.step (row := none) ⟨hb5.os, hb5.tape, hb5.output, hb5.size, fun k hk _ => Below.block hb5 k hk⟩ (by simp)⟩
    have hG5 : Gt w5 := HG.out.bl H5.out.1.bl
    have hGP : 6 ≤ P := by
      have h1 := (HG.out.bl (H4.out.1.bl)).gd.lt
      omega
    have cR := types_at w5 P mb s ts hR5 hG5 hGP
    have hP5 := hR5.lt
    have HH : Hid (P < w5.heap.size ∧ w.heap.size ≤ w5.heap.size) := ⟨hP5, H5.out.1.bl.size⟩
    clear cT HO H2 H2b hbw hm1 hm2 hm3 hb4 H4 hb5 hR5 hG5 hGP hP5 c1 c2 f1 f2 H0 hb2
    go_wp2_with fail
    rw [← hP, ← hw5]
    clear hw5 hP
    refine cR.mono ?_
    rintro e w6 ⟨hg6, hans⟩
    clear cR
    have H6 : Hid (PvT w w6 N (.slice none 0 0) .nilIface) := H5.out.1.gp hg6 H5.out.2
    have hsz6 := hg6.size
    obtain ⟨q, hq⟩ : ∃ q, q = typs nb s.size 8 ts := ⟨_, rfl⟩
    rw [← hq] at hans
    have HXX : Hid (prT (L s) = q) := by rw [hq]; exact HX.out.1
    clear hq HX
    cases q with
    | error cp =>
      obtain ⟨c, p⟩ := cp
      obtain ⟨B, rfl, hB1, hB2⟩ := hans
      have HA9 : Hid (AtX w6 B c (p : Int) ∧ N + 1 < B ∧ w.heap.size ≤ B) := ⟨hB2, by have := HH.out; have := H5.out.2; omega, by have := HH.out; omega⟩
      unfold thrownT
      go_wp2
      refine leaves_cons (f := 58) (args := #[.pointer (some ⟨N, 0, none⟩), .pointer (some ⟨N + 1, 0, none⟩)]) (by simp) (by simp [go_sem]) ?_
      refine (tcatch_thrown N B w w6 _ _ c (p : Int) H6.out HA9.out.1 HA9.out.2.1).mono ?_
      rintro e u' wz ⟨rfl, rfl, HZ, hAZ⟩
      have c1' := HZ.v1.cell
      have c2' := HZ.v2.cell
      have hfin := TPA.of_err HXX.out HZ.bl HA9.out.2.2 hAZ
      unfold thrV
      simp [Leaves, settle, results, Tryz.results32, go_sem, c1', c2']
      exact hfin
    | ok l =>
      obtain ⟨v, rfl, hv⟩ := hans
      obtain ⟨tp, tn, tc, rfl⟩ : ∃ tp tn tc, v = .slice tp tn tc := by
        obtain ⟨p, c, cs, h1, _⟩ := hv
        exact ⟨_, _, _, h1⟩
      obtain ⟨v, hve⟩ : ∃ v, v = Value.slice tp tn tc := ⟨_, rfl⟩
      rw [← hve] at hv
      have d1 := H6.out.v1.cell
      have d2 := H6.out.v2.cell
      have e1 := H6.out.v1.frozen
      have e2 := H6.out.v2.frozen
      have hbase : N + 1 < w5.heap.size := by have := HH.out.1; have := H5.out.2; omega
      have H9 := (H6.out.set1 v).set2 .nilIface
      have hx9 : IsTs ((w6.setCell ⟨N, 0, none⟩ v).setCell ⟨N + 1, 0, none⟩ .nilIface) (fun g => w5.heap.size ≤ g) v l := (hv.setv H6.out.v1 (by decide) (by omega)).setv (H6.out.set1 v).v2 (by decide) hbase
      have hx10 : IsTs ((w6.setCell ⟨N, 0, none⟩ v).setCell ⟨N + 1, 0, none⟩ .nilIface) (fun g => w.heap.size ≤ g) v l := by
        obtain ⟨pp, cc, cs, k1, k2, k3⟩ := hx9
        exact ⟨pp, cc, cs, k1, k2.mono (fun g hg _ => by have := HH.out.2; omega), k3.mono (fun g hg _ => by have := HH.out.2; omega)⟩
      have H10 : Hid (PvT w ((w6.setCell ⟨N, 0, none⟩ v).setCell ⟨N + 1, 0, none⟩ .nilIface) N v .nilIface ∧ IsTs ((w6.setCell ⟨N, 0, none⟩ v).setCell ⟨N + 1, 0, none⟩ .nilIface) (fun g => w.heap.size ≤ g) v l) := ⟨H9, hx10⟩
      rw [hve] at H10
      clear H9 hx9 hx10 hv hve
      go_wp2
      refine leaves_cons (f := 58) (args := #[.pointer (some ⟨N, 0, none⟩), .pointer (some ⟨N + 1, 0, none⟩)]) (by simp) (by simp [go_sem]) ?_
      refine (tcatch_idle _ _ _).mono ?_
      rintro e u' wz ⟨rfl, rfl, hbz⟩
      have HZ := H10.out.1.step hbz
      have c1' := HZ.v1.cell
      have c2' := HZ.v2.cell
      have hfin := TPA.of_ok HXX.out HZ.bl (H10.out.2.bl hbz)
      simp [Leaves, settle, results, Tryz.results32, go_sem, c1', c2']
      exact hfin
  · have HB : Hid (prT (L s) = .error (3, p) ∧ AtX w2 B 3 (p : Int) ∧ N + 1 < B) := by
      refine ⟨by unfold prT; rw [g1], g3, ?_⟩
      omega
    have HN : Hid (w.heap.size ≤ B) := by
      have h1 := H2.out.n
      show w.heap.size ≤ B
      omega
    clear g1 g2 g3 cL hN H0 hcl hsz hb2
    go_wp2
    have HW : Hid (PvT w (w2.setCell ⟨N + 1, 0, none⟩ (.iface 113 (.pointer (some ⟨B, 0, none⟩)))) N (.slice none 0 0) (.iface 113 (.pointer (some ⟨B, 0, none⟩))) ∧ AtX (w2.setCell ⟨N + 1, 0, none⟩ (.iface 113 (.pointer (some ⟨B, 0, none⟩)))) B 3 (p : Int)) := ⟨H2.out.set2 _, HB.out.2.1.set (by have := HB.out.2.2; omega)⟩
    generalize w2.setCell ⟨N + 1, 0, none⟩ (.iface 113 (.pointer (some ⟨B, 0, none⟩))) = W at HW ⊢
    clear c1 c2 f1 f2
    have c1 := HW.out.1.v1.cell
    have c2 := HW.out.1.v2.cell
    have f1 := HW.out.1.v1.frozen
    have f2 := HW.out.1.v2.frozen
    refine wp_calm ?_
    go_region
    all_goals
      refine Calm.in ?_
      have H9 : Hid (PvT w ((W.setCell ⟨N, 0, none⟩ (.slice none 0 0)).setCell ⟨N + 1, 0, none⟩ (.iface 113 (.pointer (some ⟨B, 0, none⟩)))).drew N (.slice none 0 0) (.iface 113 (.pointer (some ⟨B, 0, none⟩))) ∧ AtX ((W.setCell ⟨N, 0, none⟩ (.slice none 0 0)).setCell ⟨N + 1, 0, none⟩ (.iface 113 (.pointer (some ⟨B, 0, none⟩)))).drew B 3 (p : Int)) := ⟨((HW.out.1.set1 _).set2 _).step (Bl.refl _).drew, (HW.out.2.set (x := .slice none 0 0) (b := N) (by have := HB.out.2.2; omega)).set (b := N + 1) (by have := HB.out.2.2; omega)⟩
      generalize ((W.setCell ⟨N, 0, none⟩ (.slice none 0 0)).setCell ⟨N + 1, 0, none⟩ (.iface 113 (.pointer (some ⟨B, 0, none⟩)))).drew = W9 at H9 ⊢
      clear c1 c2 f1 f2
      have c1 := H9.out.1.v1.cell
      have c2 := H9.out.1.v2.cell
      have hfin := TPA.of_err HB.out.1 H9.out.1.bl HN.out H9.out.2
      go_simp
      go_wp2
      simp [bodyPostD, Leaves, results, Tryz.results32, go_sem, c1, c2]
      exact hfin
end Go.Proofs.YtococaecjecjgaaGreatDoor.tm
/- Templates, printed: what an item begins with. -/
namespace Go.Proofs.YtococaecjecjgaaGreatDoor.tm
set_option linter.unusedVariables false
open Go.ChangeShapes Go.WideShapes Go.ChangeAt Go.RowKit Go.Shelf
open mem lx ex

theorem eqNum (s : ByteArray) (a b a' b' : Int) (c c' : Bool) (w : World) : (binOp .eql 176 (.agg #[.string s, .int .i64 a, .int .i64 b, .bool c]) (.agg #[.string s, .int .i64 a', .int .i64 b', .bool c'])).run Tryz.prog w = .ok (.bool (decide (a = a') && (decide (b = b') && (c == c')))) w := by
  rw [run_eql_struct]
  go_simp
  by_cases h1 : a = a'
  · by_cases h2 : b = b'
    · rw [if_pos h1, if_pos h2]
      by_cases h3 : c = c' <;> simp [h1, h2, h3]
    · rw [if_pos h1, if_neg h2]; simp [h2]
  · rw [if_neg h1]; simp [h1]
/-- What an item begins with: no such number before this one. -/
def noW (d : D) (j : Nat) : Prop := ∀ p ∈ numW.take j, (p.2.1 == d.wd && p.2.2.1 == d.od && p.2.2.2 == d.sg) = false
theorem kw_no {d : D} (h2 : d.kd ≠ 2) (h3 : d.kd ≠ 3) (h : noW d 12) : kw d = [] := by
  unfold kw
  rw [if_neg h2, if_neg h3]
  have : numW.find? (fun p => p.2.1 == d.wd && p.2.2.1 == d.od && p.2.2.2 == d.sg) = none := by
    rw [List.find?_eq_none]
    intro p hp
    rw [h p hp]; decide
  rw [this]; rfl
theorem kw_yes {d : D} (h2 : d.kd ≠ 2) (h3 : d.kd ≠ 3) {j : Nat} {p : List UInt8 × Nat × Nat × Bool} (h : noW d j) (hp : numW[j]? = some p) (hm : (p.2.1 == d.wd && p.2.2.1 == d.od && p.2.2.2 == d.sg) = true) : kw d = p.1 := by
  unfold kw
  rw [if_neg h2, if_neg h3]
  obtain ⟨hj, he⟩ := List.getElem?_eq_some_iff.1 hp
  have : numW.find? (fun p => p.2.1 == d.wd && p.2.2.1 == d.od && p.2.2.2 == d.sg) = some p := by
    rw [List.find?_eq_some_iff_getElem]
    refine ⟨hm, j, hj, he, fun k hk => ?_⟩
    have hm2 : numW[k]'(by omega) ∈ numW.take j := by
      rw [List.mem_take_iff_getElem]
      exact ⟨k, by omega, rfl⟩
    rw [h _ hm2]; decide
  rw [this]; rfl
theorem noW_step {d : D} {j : Nat} {p : List UInt8 × Nat × Nat × Bool} (h : noW d j) (hp : numW[j]? = some p) (hm : (p.2.1 == d.wd && p.2.2.1 == d.od && p.2.2.2 == d.sg) = false) : noW d (j + 1) := by
  intro q hq
  rw [List.take_add_one, List.mem_append] at hq
  rcases hq with hq | hq
  · exact h q hq
  · rw [hp] at hq
    simp at hq
    rw [hq]; exact hm
set_option maxRecDepth 10000 in
set_option maxHeartbeats 2000000 in
theorem kw_at (w : World) (c : C) (hG : Gt w) :
    Calls Tryz.prog 156 #[itV c] w fun e w' => e = .returned (.string (tx (kw c.d))) ∧ Bl w w' := by
  have hb1 : Bl w (w.alloc (.cells (cl c).toArray 60)) := (Bl.refl _).alloc _
  obtain ⟨N, hN⟩ : ∃ N, N = w.heap.size := ⟨_, rfl⟩
  obtain ⟨w1, hw1⟩ : ∃ w1, w1 = w.alloc (.cells (cl c).toArray 60) := ⟨_, rfl⟩
  have hv1 : Iv w1 N c := ⟨by rw [hw1, hN]; exact new_at _ _⟩
  rw [← hw1] at hb1
  have H1 : Hid (Bl w w1 ∧ Iv w1 N c ∧ Gt w1) := ⟨hb1, hv1, hG.bl hb1⟩
  obtain ⟨a0, a1, a2, a3, a4, a5, a6, a7, a8, a9, a10, a11, a12⟩ := hv1.facts
  clear hb1 hv1 hG a1 a2 a7 a8 a9 a10 a11 a12 a4 a5 a6
  unfold itV
  go_enter Tryz.func156, Tryz.ntmps156
  go_upto_region 1 with fail
  change Code.wp _ _ _ _ (w.alloc (.cells (cl c).toArray 60))
  rw [← hw1, ← hN]
  clear hw1 hN
  by_cases k2 : c.d.kd = 2
  · have HK : Hid (kw c.d = wBytes) := by show kw c.d = wBytes; unfold kw; rw [if_pos k2]
    rw [k2] at a0
    go_wp2
    rw [HK.out]
    go_ret
    first | exact ⟨rfl, H1.out.1⟩ | exact H1.out.1
  · by_cases k3 : c.d.kd = 3
    · have HK : Hid (kw c.d = c.d.ty) := by show kw c.d = c.d.ty; unfold kw; rw [if_neg k2, if_pos k3]
      rw [k3] at a0
      go_wp2
      rw [HK.out]
      go_ret
      first | exact ⟨rfl, H1.out.1⟩ | exact H1.out.1
    · have k2' : ¬ ((c.d.kd : Int) = 2) := by omega
      have k3' : ¬ ((c.d.kd : Int) = 3) := by omega
      have HK : Hid (¬ c.d.kd = 2 ∧ ¬ c.d.kd = 3) := ⟨k2, k3⟩
      clear k2 k3 a3
      go_upto_region 6 with fail
      have hR : Hid (w1.rangeAt 0 0 nuL) := H1.out.2.2.nu
      clear a0
      refine wp_region_lit ?_
      refine wpList_load_mid rfl 177 _ rfl 0 0 rfl nuL _ hR.out Tryz.underlying177 rfl info48 ?_
      generalize hAV : Value.agg nuL.toArray = AV
      have HAV : Hid (Value.agg nuL.toArray = AV) := hAV
      clear hAV hR
      go_wp2
      go_loopw [14] (fun i wr => ∃ j : Nat, j ≤ 12 ∧ i = .int .i64 (j : Int) ∧ Hid (noW c.d j ∧ Bl w1 wr)) (fun i _ => 12 - (intOf i).toNat)
      case atStart => exact ⟨0, by omega, rfl, ⟨(fun p hp => by simp at hp), Bl.refl _⟩⟩
      case round =>
        obtain ⟨j, hj, rfl, HB⟩ := hrel
        by_cases h12 : j < 12
        · have d1 : decide ((j : Int) < 12) = true := decide_eq_true (by omega)
          obtain ⟨p, hp⟩ : ∃ p, numW[j]? = some p := ⟨_, List.getElem?_eq_getElem (show j < numW.length from h12)⟩
          have hix := fun w => run_num w j p hp
          rw [HAV.out] at hix
          obtain ⟨w7, hw7⟩ : ∃ w7, w7 = wr.alloc (.cells #[.string (tx p.1), .int .i64 (p.2.1 : Int), .int .i64 (p.2.2.1 : Int), .bool p.2.2.2] 176) := ⟨_, rfl⟩
          have hb7 : Bl wr w7 := by rw [hw7]; exact (Bl.refl _).alloc _
          obtain ⟨M, hM⟩ : ∃ M, M = wr.heap.size := ⟨_, rfl⟩
          have h7 : w7.heap[M]? = some (.cells #[.string (tx p.1), .int .i64 (p.2.1 : Int), .int .i64 (p.2.2.1 : Int), .bool p.2.2.2] 176 (0, 0)) := by rw [hw7, hM]; exact new_at _ _
          have g0 : w7.cell? ⟨M, 0, none⟩ = some (.string (tx p.1)) := by rw [cell_of h7]; rfl
          have g1 : w7.cell? ⟨M, 1, none⟩ = some (.int .i64 (p.2.1 : Int)) := by rw [cell_of h7]; rfl
          have g2 : w7.cell? ⟨M, 2, none⟩ = some (.int .i64 (p.2.2.1 : Int)) := by rw [cell_of h7]; rfl
          have g3 : w7.cell? ⟨M, 3, none⟩ = some (.bool p.2.2.2) := by rw [cell_of h7]; rfl
          obtain ⟨a0, a1, a2, a3, a4, a5, a6, a7, a8, a9, a10, a11, a12⟩ := (H1.out.2.1.bl (HB.out.2.trans hb7)).facts
          have heq := fun w => eqNum (tx p.1) (p.2.1 : Int) (p.2.2.1 : Int) (c.d.wd : Int) (c.d.od : Int) p.2.2.2 c.d.sg w
          have hM7 := lt_of_heap h7
          obtain ⟨bq, hbq⟩ : ∃ bq : Bool, bq = (decide ((p.2.1 : Int) = (c.d.wd : Int)) && (decide ((p.2.2.1 : Int) = (c.d.od : Int)) && (p.2.2.2 == c.d.sg))) := ⟨_, rfl⟩
          rw [← hbq] at heq
          have hbq' : bq = (p.2.1 == c.d.wd && p.2.2.1 == c.d.od && p.2.2.2 == c.d.sg) := by
            rw [hbq, Bool.and_assoc]
            congr 1
            · rw [Bool.eq_iff_iff]; simp; omega
            · congr 1
              rw [Bool.eq_iff_iff]; simp; omega
          have H7 : Hid (Bl w1 w7 ∧ Bl w w7) := ⟨HB.out.2.trans hb7, (H1.out.1.trans HB.out.2).trans hb7⟩
          have HP : Hid (noW c.d j ∧ numW[j]? = some p ∧ bq = (p.2.1 == c.d.wd && p.2.2.1 == c.d.od && p.2.2.2 == c.d.sg)) := ⟨HB.out.1, hp, hbq'⟩
          unfold numV at hix
          clear hp h7 hb7 a0 a1 a2 a3 a7 a8 a9 a10 a11 a12 hbq hbq'
          go_upto_region 9 with fail
          rw [← hw7, ← hM]
          clear hw7 hM
          cases bq with
          | true =>
            have HK2 : Hid (kw c.d = p.1) := kw_yes HK.out.1 HK.out.2 HP.out.1 HP.out.2.1 HP.out.2.2.symm
            go_wp2
            rw [HK2.out]
            go_ret
            first | exact ⟨rfl, H7.out.2⟩ | exact H7.out.2
          | false =>
            have HN2 : Hid (noW c.d (j + 1)) := noW_step HP.out.1 HP.out.2.1 HP.out.2.2.symm
            go_wp2
            go_roundw
            case rel => exact ⟨j + 1, by omega, by go_num, HN2.out, H7.out.1⟩
            case measure => simp [intOf]; omega
        · obtain rfl : j = 12 := by omega
          have HK2 : Hid (kw c.d = [] ∧ Bl w wr) := ⟨kw_no HK.out.1 HK.out.2 HB.out.1, H1.out.1.trans HB.out.2⟩
          go_wp2
          rw [HK2.out.1]
          go_ret
          first | exact ⟨rfl, HK2.out.2⟩ | exact HK2.out.2
end Go.Proofs.YtococaecjecjgaaGreatDoor.tm
/- Templates, printed: an item that has no others. -/
namespace Go.Proofs.YtococaecjecjgaaGreatDoor.tm
set_option linter.unusedVariables false
open Go.ChangeShapes Go.WideShapes Go.ChangeAt Go.RowKit Go.Shelf
open mem lx ex

theorem kw_len {d : D} (h : WD d) (h4 : d.kd ≠ 4) : (kw d).length ≤ 12 := by
  unfold kw
  rcases h with h | h | h | h
  · exact absurd h.1 h4
  · rw [if_pos h.1]; decide
  · rw [if_neg (by rw [h.1]; decide), if_pos h.1]; exact h.2.1.2.2.1
  · rw [if_neg (by rw [h.1]; decide), if_neg (by rw [h.1]; decide)]
    have key : ∀ p ∈ numW, p.1.length ≤ 12 := by decide
    cases hf : numW.find? (fun p => p.2.1 == d.wd && p.2.2.1 == d.od && p.2.2.2 == d.sg) with
    | none => exact Nat.zero_le _
    | some p => exact key p (List.mem_of_find?_eq_some hf)
theorem ret_s {s s' : ByteArray} (h : s = s') : Ending.returned (.string s) = .returned (.string s') := by rw [h]
set_option maxRecDepth 10000 in
set_option maxHeartbeats 4000000 in
theorem partW_at (w : World) (c : C) (hG : Gt w) (hd : WD c.d) (h4 : c.d.kd ≠ 4) (hx : IsO w c.pc c.d.ct) (hl : (txO c.d.ct).length ≤ 1000000) :
    Calls Tryz.prog 127 #[itV c] w fun e w' => e = .returned (.string (tx (paT c.d))) ∧ Bl w w' := by
  have hb1 : Bl w (w.alloc (.cells (cl c).toArray 60)) := (Bl.refl _).alloc _
  obtain ⟨N, hN⟩ : ∃ N, N = w.heap.size := ⟨_, rfl⟩
  obtain ⟨w1, hw1⟩ : ∃ w1, w1 = w.alloc (.cells (cl c).toArray 60) := ⟨_, rfl⟩
  have hv1 : Iv w1 N c := ⟨by rw [hw1, hN]; exact new_at _ _⟩
  rw [← hw1] at hb1
  have H1 : Hid (Bl w w1 ∧ Iv w1 N c ∧ Gt w1 ∧ IsO w1 c.pc c.d.ct) := ⟨hb1, hv1, hG.bl hb1, hx.keep (Kx.bl hb1)⟩
  have HD : Hid (WD c.d ∧ c.d.kd ≠ 4 ∧ (txO c.d.ct).length ≤ 1000000) := ⟨hd, h4, hl⟩
  obtain ⟨q0, q1, q2, q3, q4, q5, q6, q7, q8, q9, q10, q11, q12⟩ := (hv1.bl (Bl.refl w1).drew).facts
  have hbd := (Bl.refl w1).drew
  have cK := fun wx (hb : Bl w1 wx) => kw_at wx c (H1.out.2.2.1.bl hb)
  obtain ⟨K, hK⟩ : ∃ K, K = tx (kw c.d) := ⟨_, rfl⟩
  obtain ⟨M, hM⟩ : ∃ M, M = tx c.d.nm := ⟨_, rfl⟩
  rw [← hK] at cK
  rw [← hM] at q2
  have hKs : K.size ≤ 12 := by rw [hK, tx_size]; exact kw_len hd h4
  have hMs : M.size ≤ 12 := by rw [hM, tx_size]; exact (wd_nm hd h4).2.2.1
  have HS : Hid (K = tx (kw c.d) ∧ M = tx c.d.nm) := ⟨hK, hM⟩
  have hz1 : ¬ 9223372036854775807 < K.size + 1 := by omega
  have hz2 : ¬ 9223372036854775807 < K.size + 1 + M.size := by omega
  have HB : Hid (Bl w1 w1.drew) := hbd
  clear hbd hb1 hv1 hG hd h4 hx hl hK
  unfold itV cl at cK ⊢
  rw [← hM] at cK
  go_enter Tryz.func127, Tryz.ntmps127
  go_upto_region 1 with fail
  change Code.wp _ _ _ _ (w.alloc (.cells (cl c).toArray 60))
  rw [← hw1, ← hN]
  clear hw1 hN hM
  go_region_held3 (fun w' => w'.cell? ⟨N, 0, none⟩ = some (.int .i64 (c.d.kd : Int)) ∧ w'.cell? ⟨N, 1, none⟩ = some (.int .i64 (c.d.at_ : Int)) ∧ w'.cell? ⟨N, 2, none⟩ = some (.string M) ∧ w'.cell? ⟨N, 3, none⟩ = some (.string (tx c.d.ty)) ∧ w'.cell? ⟨N, 4, none⟩ = some (.int .i64 (c.d.wd : Int)) ∧ w'.cell? ⟨N, 5, none⟩ = some (.int .i64 (c.d.od : Int)) ∧ w'.cell? ⟨N, 6, none⟩ = some (.bool c.d.sg) ∧ w'.cell? ⟨N, 7, none⟩ = some (.bool c.d.mn) ∧ w'.cell? ⟨N, 8, none⟩ = some (.pointer c.pc) ∧ w'.cell? ⟨N, 9, none⟩ = some (.int .i64 (c.d.ru : Int)) ∧ w'.cell? ⟨N, 10, none⟩ = some (.string (tx c.d.f1)) ∧ w'.cell? ⟨N, 11, none⟩ = some (.string (tx c.d.l1)) ∧ w'.cell? ⟨N, 12, none⟩ = some (.slice c.p c.n c.c)) (refine ⟨?_, ?_, ?_, ?_, ?_, ?_, ?_, ?_, ?_, ?_, ?_, ?_, ?_⟩ <;> first | assumption | exact at_bl ((Bl.refl _).drew) (by assumption))
    (first
      | (go_at_call 156; (with_reducible refine (cK _ HB.out).mono ?_); rintro e w6 ⟨rfl, hb6⟩
         have HB6 : Hid (Bl w1 w6) := HB.out.trans hb6
         obtain ⟨s0, s1, s2, s3, s4, s5, s6, s7, s8, s9, s10, s11, s12⟩ := (H1.out.2.1.bl HB6.out).facts
         rw [← HS.out.2] at s2
         clear hb6))
  clear q0 q1 q2 q3 q4 q5 q6 q7 q8 q9 q10 q11 q12 cK
  obtain ⟨S1, hS1⟩ : ∃ S1, S1 = K ++ ⟨#[32]⟩ ++ M := ⟨_, rfl⟩
  have HS1 : Hid (S1 = tx (kw c.d ++ [32] ++ c.d.nm)) := by
    show S1 = _
    rw [hS1, HS.out.1, HS.out.2, show ({ data := #[32] } : ByteArray) = tx [32] from rfl, tx_app, tx_app]
  have hS1s : S1.size ≤ 25 := by
    rw [hS1, ByteArray.size_append, ByteArray.size_append]
    show K.size + 1 + M.size ≤ 25
    omega
  rw [← hS1]
  clear hS1
  by_cases hm : c.d.mn = true ∨ c.d.kd = 2
  · obtain ⟨x, hx, wx⟩ := mn_some HD.out.1 HD.out.2.1 hm
    have hru : c.d.ru = 0 := by
      rcases HD.out.1 with h | h | h | h
      · exact absurd h.1 HD.out.2.1
      · exact h.2.2.2.2.1
      · exact h.2.2.2.2.2.2.1
      · rcases h.2.2.2.2 with h' | h'
        · exact h'.2.2.1
        · exfalso
          rcases hm with hm | hm
          · rw [h'.1] at hm; cases hm
          · rw [h.1] at hm; cases hm
    have hxx : IsX w6 (.pointer c.pc) x := by
      have := H1.out.2.2.2
      rw [hx] at this
      exact IsX.keep (Kx.bl HB6.out) this
    have hln : (txt x).length ≤ 1000000 := by have := HD.out.2.2; rw [hx] at this; exact this
    have hG6 := H1.out.2.2.1.bl HB6.out
    have cT := Text_at x (.pointer c.pc) w6 hxx hG6.gd.pw hG6.gd.lt wx.2.1.fit (by omega)
    obtain ⟨TT, hTT⟩ : ∃ TT, TT = tx (txt x) := ⟨_, rfl⟩
    have hTTs : TT.size ≤ 1000000 := by rw [hTT, tx_size]; exact hln
    rw [← hTT] at cT
    have HTT : Hid (TT = tx (txt x)) := hTT
    clear hTT hxx hln hG6
    rcases Bool.eq_false_or_eq_true c.d.mn with hmn | hmn
    · have HQ : Hid (paT c.d = kw c.d ++ [32] ++ c.d.nm ++ ([91] ++ txt x ++ [93])) := by
        show paT c.d = _
        unfold paT mnT ruT
        rw [if_pos hm, if_pos (Or.inl hru), hx]
        simp [txO]
      rw [hru] at s9
      rw [hmn] at s7
      clear hm hru hx wx
      go_upto_region 3 with fail
      go_wp2_with fail
      refine cT.mono ?_
      rintro e w7 ⟨rfl, hb7⟩
      have H7 : Hid (Bl w w7) := (H1.out.1.trans HB6.out).trans hb7
      have s9 := at_bl hb7 s9
      clear hb7 s0 s1 s2 s3 s4 s5 s6 s7 s8 s10 s11 s12 cT
      go_wp2
      go_ret
      exact ⟨ret_s (by rw [HQ.out, HS1.out, HTT.out, show ({ data := #[91] } : ByteArray) = tx [91] from rfl, show ({ data := #[93] } : ByteArray) = tx [93] from rfl, tx_app, tx_app, tx_app]), H7.out⟩
    · have hk2 : c.d.kd = 2 := by
        rcases hm with h | h
        · rw [hmn] at h; cases h
        · exact h
      have HQ : Hid (paT c.d = kw c.d ++ [32] ++ c.d.nm ++ ([91] ++ txt x ++ [93])) := by
        show paT c.d = _
        unfold paT mnT ruT
        rw [if_pos hm, if_pos (Or.inl hru), hx]
        simp [txO]
      rw [hru] at s9
      rw [hmn] at s7
      rw [hk2] at s0
      clear hk2
      clear hm hru hx wx
      go_upto_region 3 with fail
      go_wp2_with fail
      refine cT.mono ?_
      rintro e w7 ⟨rfl, hb7⟩
      have H7 : Hid (Bl w w7) := (H1.out.1.trans HB6.out).trans hb7
      have s9 := at_bl hb7 s9
      clear hb7 s0 s1 s2 s3 s4 s5 s6 s7 s8 s10 s11 s12 cT
      go_wp2
      go_ret
      exact ⟨ret_s (by rw [HQ.out, HS1.out, HTT.out, show ({ data := #[91] } : ByteArray) = tx [91] from rfl, show ({ data := #[93] } : ByteArray) = tx [93] from rfl, tx_app, tx_app, tx_app]), H7.out⟩
  · have hmn : c.d.mn = false := by cases hc : c.d.mn with | true => exact absurd (Or.inl hc) hm | false => rfl
    have hk2 : ¬ ((c.d.kd : Int) = 2) := fun e => hm (Or.inr (by omega))
    have hP0 : paT c.d = kw c.d ++ [32] ++ c.d.nm ++ ruT c.d := by
      unfold paT mnT
      rw [if_neg hm]
      simp
    have HP0 : Hid (paT c.d = kw c.d ++ [32] ++ c.d.nm ++ ruT c.d) := hP0
    have H6 : Hid (Bl w w6) := H1.out.1.trans HB6.out
    rw [hmn] at s7
    clear hP0 hm hmn
    by_cases hr0 : c.d.ru = 0
    · have HQ : Hid (paT c.d = kw c.d ++ [32] ++ c.d.nm) := by
        show paT c.d = _
        rw [HP0.out]
        unfold ruT
        rw [if_pos (Or.inl hr0)]
        simp
      rw [hr0] at s9
      clear hr0 s1 s2 s3 s4 s5 s6 s8 s10 s11 s12
      go_wp2
      go_ret
      exact ⟨ret_s (by rw [HQ.out, HS1.out]), H6.out⟩
    · obtain ⟨wr, hkd, _, hct⟩ := ru_wr HD.out.1 hr0
      have hG6 := H1.out.2.2.1.bl HB6.out
      obtain ⟨F, hF⟩ : ∃ F, F = tx c.d.f1 := ⟨_, rfl⟩
      obtain ⟨G, hGe⟩ : ∃ G, G = tx c.d.l1 := ⟨_, rfl⟩
      have hf1 : NM c.d.f1 := by
        rcases wr with h | h | h
        · exact absurd h.1 hr0
        · exact h.2.1
        · exact h.2.1
      have hl1 : c.d.l1.length ≤ 12 := by
        rcases wr with h | h | h
        · exact absurd h.1 hr0
        · rw [h.2.2]; exact Nat.zero_le _
        · exact h.2.2.2.2.1
      have hFs : F.size ≤ 12 := by rw [hF, tx_size]; exact hf1.2.2.1
      have hGs : G.size ≤ 12 := by rw [hGe, tx_size]; exact hl1
      have hFl : F.toList = c.d.f1 := by rw [ByteArray.toList_eq, hF]; simp [tx]
      have hGl : G.toList = c.d.l1 := by rw [ByteArray.toList_eq, hGe]; simp [tx]
      rw [← hF] at s10
      rw [← hGe] at s11
      have HFG : Hid (F = tx c.d.f1 ∧ G = tx c.d.l1) := ⟨hF, hGe⟩
      obtain ⟨WW, hWW, hWs, HWW⟩ : ∃ WW : ByteArray, w6.cell? ⟨2, c.d.ru, none⟩ = some (.string WW) ∧ WW.size ≤ 12 ∧ Hid (WW = tx (rw_ c.d.ru)) := by
        have k : ∀ (j : Nat) (v : Value), ruL[j]? = some v → w6.cell? ⟨2, 0 + j, none⟩ = some v := hG6.ru
        have hru : c.d.ru = 1 ∨ c.d.ru = 2 ∨ c.d.ru = 3 := by
          rcases wr with h | h | h
          · exact absurd h.1 hr0
          · rcases h.1 with e | e
            · exact Or.inl e
            · exact Or.inr (Or.inl e)
          · exact Or.inr (Or.inr h.1)
        rcases hru with e | e | e
        · rw [e]; exact ⟨_, k 1 _ rfl, by rw [tx_size]; decide, rfl⟩
        · rw [e]; exact ⟨_, k 2 _ rfl, by rw [tx_size]; decide, rfl⟩
        · rw [e]; exact ⟨_, k 3 _ rfl, by rw [tx_size]; decide, rfl⟩
      have hru : c.d.ru = 1 ∨ c.d.ru = 2 ∨ (c.d.ru = 3 ∧ c.d.l1 = c.d.f1) ∨ (c.d.ru = 3 ∧ c.d.l1 ≠ c.d.f1) := by
        rcases wr with h | h | h
        · exact absurd h.1 hr0
        · rcases h.1 with e | e
          · exact Or.inl e
          · exact Or.inr (Or.inl e)
        · by_cases hl : c.d.l1 = c.d.f1
          · exact Or.inr (Or.inr (Or.inl ⟨h.1, hl⟩))
          · exact Or.inr (Or.inr (Or.inr ⟨h.1, hl⟩))
      have hcat : S1 ++ (⟨#[32, 61, 32]⟩ ++ WW ++ ⟨#[32]⟩ ++ F) = tx (kw c.d ++ [32] ++ c.d.nm ++ ([32, 61, 32] ++ rw_ c.d.ru ++ [32] ++ c.d.f1)) := by
        rw [HS1.out, HWW.out, HFG.out.1, show ({ data := #[32, 61, 32] } : ByteArray) = tx [32, 61, 32] from rfl, show ({ data := #[32] } : ByteArray) = tx [32] from rfl, tx_app, tx_app, tx_app, tx_app]
      have hcat2 : S1 ++ (⟨#[32, 61, 32]⟩ ++ WW ++ ⟨#[32]⟩ ++ F) ++ (⟨#[32]⟩ ++ G) = tx (kw c.d ++ [32] ++ c.d.nm ++ ([32, 61, 32] ++ rw_ c.d.ru ++ [32] ++ c.d.f1) ++ ([32] ++ c.d.l1)) := by
        rw [hcat, HFG.out.2, show ({ data := #[32] } : ByteArray) = tx [32] from rfl, tx_app, tx_app]
      have HC : Hid (S1 ++ (⟨#[32, 61, 32]⟩ ++ WW ++ ⟨#[32]⟩ ++ F) = tx (kw c.d ++ [32] ++ c.d.nm ++ ([32, 61, 32] ++ rw_ c.d.ru ++ [32] ++ c.d.f1)) ∧ S1 ++ (⟨#[32, 61, 32]⟩ ++ WW ++ ⟨#[32]⟩ ++ F) ++ (⟨#[32]⟩ ++ G) = tx (kw c.d ++ [32] ++ c.d.nm ++ ([32, 61, 32] ++ rw_ c.d.ru ++ [32] ++ c.d.f1) ++ ([32] ++ c.d.l1))) := ⟨hcat, hcat2⟩
      clear hcat hcat2 wr hct hkd hf1 hl1 hF hGe hG6
      clear s1 s2 s3 s4 s5 s6 s8 s12
      have hbd6 := (Bl.refl w6).drew
      rcases hru with e | e | ⟨e, hl⟩ | ⟨e, hl⟩
      · have HQ : Hid (paT c.d = kw c.d ++ [32] ++ c.d.nm ++ ([32, 61, 32] ++ rw_ c.d.ru ++ [32] ++ c.d.f1)) := by
          show paT c.d = _
          rw [HP0.out]
          unfold ruT
          rw [if_neg (by omega), if_neg (fun hc => by omega)]
          simp
        skip
        rw [e] at s9 hWW
        clear e hr0  hFl hGl
        have s9d := at_bl hbd6 s9
        have s10d := at_bl hbd6 s10
        have s11d := at_bl hbd6 s11
        have hWd := at_bl hbd6 hWW
        have HBD : Hid (Bl w w6.drew) := H6.out.trans hbd6
        clear hbd6
        go_upto_region 6 with fail
        go_region
        all_goals
          generalize w6.drew = w7 at *
          go_wp2
          go_ret
          exact ⟨ret_s (by rw [HQ.out]; exact HC.out.1), HBD.out⟩
      · have HQ : Hid (paT c.d = kw c.d ++ [32] ++ c.d.nm ++ ([32, 61, 32] ++ rw_ c.d.ru ++ [32] ++ c.d.f1)) := by
          show paT c.d = _
          rw [HP0.out]
          unfold ruT
          rw [if_neg (by omega), if_neg (fun hc => by omega)]
          simp
        skip
        rw [e] at s9 hWW
        clear e hr0  hFl hGl
        have s9d := at_bl hbd6 s9
        have s10d := at_bl hbd6 s10
        have s11d := at_bl hbd6 s11
        have hWd := at_bl hbd6 hWW
        have HBD : Hid (Bl w w6.drew) := H6.out.trans hbd6
        clear hbd6
        go_upto_region 6 with fail
        go_region
        all_goals
          generalize w6.drew = w7 at *
          go_wp2
          go_ret
          exact ⟨ret_s (by rw [HQ.out]; exact HC.out.1), HBD.out⟩
      · have HQ : Hid (paT c.d = kw c.d ++ [32] ++ c.d.nm ++ ([32, 61, 32] ++ rw_ c.d.ru ++ [32] ++ c.d.f1)) := by
          show paT c.d = _
          rw [HP0.out]
          unfold ruT
          rw [if_neg (by omega), if_neg (fun hc => hc.2 hl)]
          simp
        have hb : (G.toList == F.toList) = true := by rw [hFl, hGl, hl]; simp
        rw [e] at s9 hWW
        clear e hr0 hl hFl hGl
        have s9d := at_bl hbd6 s9
        have s10d := at_bl hbd6 s10
        have s11d := at_bl hbd6 s11
        have hWd := at_bl hbd6 hWW
        have HBD : Hid (Bl w w6.drew) := H6.out.trans hbd6
        clear hbd6
        go_upto_region 6 with fail
        go_region
        all_goals
          generalize w6.drew = w7 at *
          go_wp2
          go_ret
          exact ⟨ret_s (by rw [HQ.out]; exact HC.out.1), HBD.out⟩
      · have HQ : Hid (paT c.d = kw c.d ++ [32] ++ c.d.nm ++ ([32, 61, 32] ++ rw_ c.d.ru ++ [32] ++ c.d.f1) ++ ([32] ++ c.d.l1)) := by
          show paT c.d = _
          rw [HP0.out]
          unfold ruT
          rw [if_neg (by omega), if_pos ⟨e, hl⟩]
          simp
        have hb : (G.toList == F.toList) = false := by rw [hFl, hGl]; simpa using hl
        rw [e] at s9 hWW
        clear e hr0 hl hFl hGl
        have s9d := at_bl hbd6 s9
        have s10d := at_bl hbd6 s10
        have s11d := at_bl hbd6 s11
        have hWd := at_bl hbd6 hWW
        have HBD : Hid (Bl w w6.drew) := H6.out.trans hbd6
        clear hbd6
        go_upto_region 6 with fail
        go_region
        all_goals
          generalize w6.drew = w7 at *
          go_wp2
          go_ret
          exact ⟨ret_s (by rw [HQ.out]; exact HC.out.2), HBD.out⟩
end Go.Proofs.YtococaecjecjgaaGreatDoor.tm
/- Templates, printed: items in their brackets. -/
namespace Go.Proofs.YtococaecjecjgaaGreatDoor.tm
set_option linter.unusedVariables false
open Go.ChangeShapes Go.WideShapes Go.ChangeAt Go.RowKit Go.Shelf
open mem lx ex bld

def Its.ps : Its → List (D × Its)
  | .nil => []
  | .cons d s t => (d, s) :: t.ps
theorem Its.ps_len (l : Its) : l.ps.length = l.len := by
  induction l with
  | nil => rfl
  | cons d s t _ it => simp [Its.ps, Its.len, it]
/-- An item as text. -/
def itx1 (pad : List UInt8) (e : D × Its) : List UInt8 := pad ++ [32, 32] ++ (if e.1.kd = 4 then wWhen ++ [32] ++ txO e.1.ct ++ [32, 123, 10] ++ itx (pad ++ [32, 32]) e.2 ++ pad ++ [32, 32, 125, 10] else paT e.1 ++ [59, 10])
theorem itx_ps (pad : List UInt8) (l : Its) : itx pad l = l.ps.flatMap (itx1 pad) := by
  induction l with
  | nil => rfl
  | cons d s t _ it => rw [itx, Its.ps, List.flatMap_cons, ← it]; rfl
def pre1 (pad : List UInt8) (l : Its) (j : Nat) : List UInt8 := (l.ps.take j).flatMap (itx1 pad)
theorem pre1_step (pad : List UInt8) (l : Its) (j : Nat) (e : D × Its) (h : l.ps[j]? = some e) : pre1 pad l (j + 1) = pre1 pad l j ++ itx1 pad e := by
  unfold pre1
  rw [List.take_add_one, h, List.flatMap_append]
  simp
theorem pre1_all (pad : List UInt8) (l : Its) : pre1 pad l l.len = itx pad l := by
  unfold pre1
  rw [← Its.ps_len, List.take_length, itx_ps]
theorem pre1_len (pad : List UInt8) (l : Its) (j : Nat) : (pre1 pad l j).length ≤ (itx pad l).length := by
  rw [itx_ps]
  conv => rhs; rw [← List.take_append_drop j l.ps, List.flatMap_append, List.length_append]
  exact Nat.le_add_right _ _
theorem Rep.at {w : World} {ok : Nat → Prop} {l : Its} : ∀ {cs : List C}, Rep w ok l cs → ∀ j, j < l.len → ∃ c d s, cs[j]? = some c ∧ l.ps[j]? = some (d, s) ∧ c.d = d ∧ IsO w c.pc d.ct ∧ ∃ cs2, ir.Lie w ok c.p c.n c.c cs2 ∧ Rep w ok s cs2 := by
  induction l with
  | nil => intro cs h j hj; exact absurd hj (Nat.not_lt_zero _)
  | cons d s t _ it =>
    intro cs h j hj
    obtain ⟨c, r, rfl, h2, h3, h4, h6⟩ := h
    cases j with
    | zero => exact ⟨c, d, s, rfl, rfl, h2, h3, h4⟩
    | succ j =>
      obtain ⟨c', d', s', k1, k2, k3⟩ := it h6 j (by simp [Its.len] at hj; omega)
      exact ⟨c', d', s', by simpa using k1, by simpa [Its.ps] using k2, k3⟩
theorem WI.at {k : Nat} {l : Its} (h : WI k l) : ∀ (j : Nat) (d : D) (s : Its), l.ps[j]? = some (d, s) → WD d ∧ (d.kd ≠ 4 → noSub s = true) ∧ (d.kd = 4 → 0 < k ∧ s.len ≤ 16 ∧ WI (k - 1) s) := by
  induction l with
  | nil => intro j d s hj; cases hj
  | cons d s t _ it =>
    intro j d' s' hj
    obtain ⟨w1, w2, w3, w4⟩ := h
    cases j with
    | zero => simp [Its.ps] at hj; obtain ⟨rfl, rfl⟩ := hj; exact ⟨w1, w2, w3⟩
    | succ j => exact it w4 j d' s' (by simpa [Its.ps] using hj)
theorem Rep.low {w w' : World} {B : Nat} {l : Its} {cs : List C} (h : Rep w (fun g => g < B) l cs) (hb : Below B w w') (hx : Kx w w') : Rep w' (fun g => g < B) l cs := h.keep (fun g hg _ => hb.block g hg) hb.size hx
theorem lie_low {w w' : World} {B : Nat} {p : Option Addr} {n c : Nat} {cs : List C} (h : ir.Lie w (fun g => g < B) p n c cs) (hb : Below B w w') : ir.Lie w' (fun g => g < B) p n c cs := h.keep (fun g hg _ => hb.block g hg) hb.size
theorem lie_at {w : World} {ok : Nat → Prop} {p : Option Addr} {n c : Nat} {l : List C} (h : ir.Lie w ok p n c l) (k : Nat) (y : C) (hy : l[k]? = some y) : ∃ x : Addr, p = some x ∧ ok x.block ∧ w.cell? (x.add (k * 13)) = (cl y)[0]? ∧ ∀ j u, (cl y)[j]? = some u → w.cell? ⟨(x.add (k * 13)).block, (x.add (k * 13)).off + j, none⟩ = some u := by
  obtain ⟨hk, hy'⟩ := List.getElem?_eq_some_iff.1 hy
  obtain ⟨x, e1, e2, e3, e4⟩ := h.at k hk
  rw [hy'] at e4
  refine ⟨x, e1, e3, ?_, e4⟩
  have h0 := e4 0 _ rfl
  obtain ⟨_, _, h3⟩ := h
  rcases h3 with h3 | ⟨g, e, _⟩
  · subst h3; exact absurd hk (Nat.not_lt_zero _)
  · rw [e] at e1
    injection e1 with e1
    subst e1
    rw [Addr.add_lit] at h0 ⊢
    exact h0
/-- How far writing has come. -/
structure Wb (B b : Nat) (w wr : World) (acc : List UInt8) : Prop where
  bd : Bd B b acc wr
  bl : Below B w wr
  kb : Kb b w wr
theorem Wb.bl' {B b : Nat} {w wr w' : World} {acc : List UInt8} (h : Wb B b w wr acc) (hb : Bl wr w') : Wb B b w w' acc := ⟨h.bd.bl hb, h.bl.trans (hb.mono h.bd.le), h.kb.trans (Kb.bl hb)⟩
theorem Wb.go {B b : Nat} {w wr w' : World} {acc acc' : List UInt8} (h : Wb B b w wr acc) (h1 : Bd B b acc' w') (h2 : Below B wr w') (h3 : Kb b wr w') : Wb B b w w' acc' := ⟨h1, h.bl.trans h2, h.kb.trans h3⟩
theorem Iv.kb {w w' : World} {b M : Nat} {c : C} (h : Iv w M c) (hk : Kb b w w') (hne : M ≠ b) : Iv w' M c := ⟨hk.same M _ h.h hne (fun c fz e => by injection e with _ e2 _; exact absurd e2 (by decide))⟩
theorem Gt.low {w w' : World} {B : Nat} (h : Gt w) (hb : Below B w w') (hB : 6 ≤ B) : Gt w' := h.below (hb.mono hB)
theorem txO_le {d : D} (h : WD d) (h4 : d.kd ≠ 4) : (txO d.ct).length ≤ (paT d).length := by
  have key : (d.mn = true ∨ d.kd = 2) → (txO d.ct).length ≤ (paT d).length := by
    intro hm
    unfold paT mnT
    rw [if_pos hm]
    simp only [List.length_append, List.length_cons, List.length_nil]
    omega
  rcases h with h | h | h | h
  · exact absurd h.1 h4
  · exact key (Or.inr h.1)
  · rcases h.2.2.2.2.2.2.2.2.2 with h' | h'
    · exact key (Or.inl h'.1)
    · rw [h'.2]; exact Nat.zero_le _
  · rcases h.2.2.2.2 with h' | h'
    · exact key (Or.inl h'.1)
    · rw [h'.2.1]; exact Nat.zero_le _
/-- What writing items in their brackets does. -/
def BlkW (k : Nat) : Prop := ∀ (l : Its) (B b : Nat) (acc pad : List UInt8) (p : Option Addr) (c : Nat) (cs : List C) (w : World), WI k l → l.len ≤ 16 → Bd B b acc w → ir.Lie w (fun g => g < B) p l.len c cs → Rep w (fun g => g < B) l cs → Gt w → 6 ≤ B →
  acc.length + (itx pad l).length + pad.length + 10 ≤ 1000000 →
  Calls Tryz.prog 94 #[.pointer (some ⟨b, 0, none⟩), .slice p l.len c, .string (tx pad)] w fun e w' => Wrote B b acc ([32, 123, 10] ++ itx pad l ++ pad ++ [125, 10]) w e w'
set_option maxRecDepth 10000 in
set_option maxHeartbeats 4000000 in
theorem block_w (k : Nat) (hrec : ∀ k', k' < k → BlkW k') : BlkW k := by
  intro l B b acc pad p c cs w hw hlen hB hlie hrep hG hNG hl
  have c0 := write_at B b acc ⟨#[32, 123, 10]⟩ w hB (by show acc.length + 3 ≤ _; omega)
  obtain ⟨PS, hPS⟩ : ∃ PS, PS = tx pad := ⟨_, rfl⟩
  have hPSs : PS.size ≤ 1000000 := by rw [hPS, tx_size]; omega
  have H0 : Hid (WI k l ∧ Bd B b acc w ∧ ir.Lie w (fun g => g < B) p l.len c cs ∧ Rep w (fun g => g < B) l cs ∧ Gt w ∧ 6 ≤ B ∧ acc.length + (itx pad l).length + pad.length + 10 ≤ 1000000 ∧ PS = tx pad) := ⟨hw, hB, hlie, hrep, hG, hNG, hl, hPS⟩
  rw [← hPS]
  obtain ⟨n, hn⟩ : ∃ n, n = l.len := ⟨_, rfl⟩
  rw [← hn] at hlen ⊢
  have Hn : Hid (n = l.len) := hn
  clear hw hB hlie hrep hG hNG hl hPS hn
  go_enter Tryz.func94, Tryz.ntmps94
  go_wp2_with fail
  refine c0.mono ?_
  rintro e w1 ⟨rfl, hB1, hb1, hk1⟩
  have H1 : Hid (Wb B b w w1 (acc ++ [32, 123, 10])) := ⟨hB1, hb1, hk1⟩
  clear hB1 hb1 hk1 c0
  go_wp2
  go_loopw [12] (fun i wr => ∃ j : Nat, j ≤ n ∧ i = .int .i64 (j : Int) ∧ Hid (Wb B b w wr (acc ++ [32, 123, 10] ++ pre1 pad l j))) (fun i _ => n - (intOf i).toNat)
  case atStart => exact ⟨0, by omega, rfl, by show Wb B b w w1 (acc ++ [32, 123, 10] ++ pre1 pad l 0); have := H1.out; simpa [pre1] using this⟩
  case round =>
    clear H1
    obtain ⟨j, hj, rfl, HB⟩ := hrel
    by_cases hjn : j < n
    · have d1 : decide ((j : Int) < (n : Int)) = true := decide_eq_true (by omega)
      have i0 : (0 : Int) ≤ (j : Int) := by omega
      have i1 : (j : Int) < (n : Int) := by omega
      obtain ⟨x, d, s, e1, e2, e3, e4, cs2, e5, e6⟩ := H0.out.2.2.2.1.at j (by rw [← Hn.out]; exact hjn)
      have hkx : Kx w wr := Kb.kx HB.out.kb H0.out.2.1
      subst e3
      obtain ⟨X, rfl, _, g0', g⟩ := lie_at (lie_low H0.out.2.2.1 HB.out.bl) j x e1
      have g0 : wr.cell? (X.add (j * 13)) = some (.int .i64 (x.d.kd : Int)) := g0'
      clear g0'
      have g1 := g 1 _ rfl
      have g2 := g 2 _ rfl
      have g3 := g 3 _ rfl
      have g4 := g 4 _ rfl
      have g5 := g 5 _ rfl
      have g6 := g 6 _ rfl
      have g7 := g 7 _ rfl
      have g8 := g 8 _ rfl
      have g9 := g 9 _ rfl
      have g10 := g 10 _ rfl
      have g11 := g 11 _ rfl
      have g12 := g 12 _ rfl
      clear g e1
      obtain ⟨w3, hw3⟩ : ∃ w3, w3 = wr.alloc (.cells (cl x).toArray 60) := ⟨_, rfl⟩
      obtain ⟨M, hM⟩ : ∃ M, M = wr.heap.size := ⟨_, rfl⟩
      have hv3 : Iv w3 M x := ⟨by rw [hw3, hM]; exact new_at _ _⟩
      have hbl3 : Bl wr w3 := by rw [hw3]; exact (Bl.refl _).alloc _
      have hMb : M ≠ b := by have := HB.out.bd.lt; omega
      have hpl : (pre1 pad l (j + 1)).length ≤ (itx pad l).length := pre1_len pad l (j + 1)
      rw [pre1_step pad l j _ e2, List.length_append] at hpl
      have hbase := H0.out.2.2.2.2.2.2.1
      have W3 := HB.out.bl' hbl3
      have hit : (itx1 pad (x.d, s)).length = pad.length + 2 + (if x.d.kd = 4 then wWhen ++ [32] ++ txO x.d.ct ++ [32, 123, 10] ++ itx (pad ++ [32, 32]) s ++ pad ++ [32, 32, 125, 10] else paT x.d ++ [59, 10]).length := by
        unfold itx1
        rw [List.length_append, List.length_append]
        rfl
      have cW := write_at B b _ (PS ++ ⟨#[32, 32]⟩) w3 W3.bd (by
        rw [ByteArray.size_append]
        show _ + (_ + 2) ≤ _
        simp only [List.length_append, List.length_cons, List.length_nil]
        omega)
      have hpp : (PS ++ ⟨#[32, 32]⟩ : ByteArray) = tx (pad ++ [32, 32]) := by rw [H0.out.2.2.2.2.2.2.2, show ({ data := #[32, 32] } : ByteArray) = tx [32, 32] from rfl, tx_app]
      have hppl : (PS ++ ⟨#[32, 32]⟩ : ByteArray).data.toList = pad ++ [32, 32] := by rw [hpp]; exact L_tx _
      rw [hppl] at cW
      obtain ⟨w1', w2', w3'⟩ := H0.out.1.at j _ _ e2
      have HI : Hid (WD x.d ∧ (x.d.kd ≠ 4 → noSub s = true) ∧ (x.d.kd = 4 → 0 < k ∧ s.len ≤ 16 ∧ WI (k - 1) s)) := ⟨w1', w2', w3'⟩
      have HL : Hid ((pre1 pad l j).length + (itx1 pad (x.d, s)).length ≤ (itx pad l).length ∧ (itx1 pad (x.d, s)).length = pad.length + 2 + (if x.d.kd = 4 then wWhen ++ [32] ++ txO x.d.ct ++ [32, 123, 10] ++ itx (pad ++ [32, 32]) s ++ pad ++ [32, 32, 125, 10] else paT x.d ++ [59, 10]).length ∧ acc.length + (itx pad l).length + pad.length + 10 ≤ 1000000) := ⟨hpl, hit, hbase⟩
      have HE : Hid (l.ps[j]? = some (x.d, s) ∧ (PS ++ ⟨#[32, 32]⟩ : ByteArray) = tx (pad ++ [32, 32])) := ⟨e2, hpp⟩
      have H3 : Hid (Wb B b w w3 (acc ++ [32, 123, 10] ++ pre1 pad l j) ∧ Iv w3 M x) := ⟨W3, hv3⟩
      clear hpl hit hbase W3 hv3 hbl3 hpp hppl w1' w2' w3' e2 hkx
      go_upto_region 4 with fail
      change Code.wp _ _ _ _ (wr.alloc (.cells (cl x).toArray 60))
      rw [← hw3, ← hM]
      clear hw3 hM g0 g1 g2 g3 g4 g5 g6 g7 g8 g9 g10 g11 g12
      go_wp2_with fail
      refine cW.mono ?_
      rintro e w4 ⟨rfl, hB4, hb4, hk4⟩
      have H4 : Hid (Wb B b w w4 (acc ++ [32, 123, 10] ++ pre1 pad l j ++ (pad ++ [32, 32])) ∧ Iv w4 M x) := ⟨H3.out.1.go hB4 hb4 hk4, H3.out.2.kb hk4 hMb⟩
      clear hB4 hb4 hk4 cW
      obtain ⟨a0, a1, a2, a3, a4, a5, a6, a7, a8, a9, a10, a11, a12⟩ := H4.out.2.facts
      have hkx4 : Kx w w4 := Kb.kx H4.out.1.kb H0.out.2.1
      have hG4 : Gt w4 := H0.out.2.2.2.2.1.low H4.out.1.bl H0.out.2.2.2.2.2.1
      by_cases hk4 : x.d.kd = 4
      · obtain ⟨ex, hex, wx⟩ : ∃ e, x.d.ct = some e ∧ WX e := by
          rcases HI.out.1 with h | h | h | h
          · exact h.2.1
          · rw [h.1] at hk4; cases hk4
          · rw [h.1] at hk4; cases hk4
          · rw [h.1] at hk4; cases hk4
        obtain ⟨u1, u2, u3⟩ := HI.out.2.2 hk4
        have hlen4 := HL.out
        rw [if_pos hk4, hex] at hlen4
        simp only [List.length_append, List.length_cons, List.length_nil] at hlen4
        have hxx : IsX w4 (.pointer x.pc) ex := by
          have := e4
          rw [hex] at this
          exact IsX.keep hkx4 this
        have hwl : wWhen.length = 4 := rfl
        have htl : (txt ex).length ≤ 1000000 := by have h1 : (txO (some ex)).length = (txt ex).length := rfl; omega
        have cT := Text_at ex (.pointer x.pc) w4 hxx hG4.gd.pw hG4.gd.lt wx.2.1.fit (by omega)
        obtain ⟨TT, hTT⟩ : ∃ TT, TT = tx (txt ex) := ⟨_, rfl⟩
        have hTTs : TT.size ≤ 1000000 := by rw [hTT, tx_size]; exact htl
        rw [← hTT] at cT
        have hen : x.n = s.len := by rw [e5.1]; exact e6.len.1
        have HX : Hid (TT = tx (txt ex) ∧ x.d.ct = some ex ∧ x.d.kd = 4) := ⟨hTT, hex, hk4⟩
        have HU : Hid (0 < k ∧ s.len ≤ 16 ∧ WI (k - 1) s ∧ ir.Lie w (fun g => g < B) x.p s.len x.c cs2 ∧ Rep w (fun g => g < B) s cs2 ∧ x.n = s.len) := ⟨u1, u2, u3, by rw [← hen]; exact e5, e6, hen⟩
        rw [hk4] at a0
        clear hTT hxx htl wx u1 u2 u3 hex hk4 a1 a2 a3 a4 a5 a6 a7 a9 a10 a11 hen
        go_wp2_with fail
        refine cT.mono ?_
        rintro e w5 ⟨rfl, hb5⟩
        have H5 : Hid (Wb B b w w5 (acc ++ [32, 123, 10] ++ pre1 pad l j ++ (pad ++ [32, 32])) ∧ Iv w5 M x) := ⟨H4.out.1.bl' hb5, H4.out.2.bl hb5⟩
        have cW := write_at B b _ (⟨#[119, 104, 101, 110, 32]⟩ ++ TT) w5 H5.out.1.bd (by
          rw [ByteArray.size_append]
          show _ + (5 + _) ≤ _
          simp only [List.length_append, List.length_cons, List.length_nil]
          omega)
        have hppl : (⟨#[119, 104, 101, 110, 32]⟩ ++ TT : ByteArray).data.toList = wWhen ++ [32] ++ txt ex := by
          rw [HX.out.1, show ({ data := #[119, 104, 101, 110, 32] } : ByteArray) = tx (wWhen ++ [32]) from rfl, tx_app]
          exact L_tx _
        rw [hppl] at cW
        clear hppl hb5 cT a0 a8 a12
        go_wp2_with fail
        refine cW.mono ?_
        rintro e w6 ⟨rfl, hB6, hb6, hk6⟩
        have H6 : Hid (Wb B b w w6 (acc ++ [32, 123, 10] ++ pre1 pad l j ++ (pad ++ [32, 32]) ++ (wWhen ++ [32] ++ txt ex)) ∧ Iv w6 M x) := ⟨H5.out.1.go hB6 hb6 hk6, H5.out.2.kb hk6 hMb⟩
        have cR := hrec (k - 1) (by have := HU.out.1; omega) s B b _ (pad ++ [32, 32]) x.p x.c cs2 w6 HU.out.2.2.1 HU.out.2.1 hB6 (lie_low HU.out.2.2.2.1 H6.out.1.bl) (HU.out.2.2.2.2.1.low H6.out.1.bl (Kb.kx H6.out.1.kb H0.out.2.1)) (H0.out.2.2.2.2.1.low H6.out.1.bl H0.out.2.2.2.2.2.1) H0.out.2.2.2.2.2.1 (by
          have h1 : (txO (some ex)).length = (txt ex).length := rfl
          simp only [List.length_append, List.length_cons, List.length_nil]
          omega)
        rw [← HE.out.2, ← HU.out.2.2.2.2.2] at cR
        obtain ⟨b0, b1, b2, b3, b4, b5, b6, b7, b8, b9, b10, b11, b12⟩ := H6.out.2.facts
        clear hB6 hb6 hk6 cW b0 b1 b2 b3 b4 b5 b6 b7 b8 b9 b10 b11
        go_wp2_with fail
        refine cR.mono ?_
        rintro e w7 ⟨rfl, hB7, hb7, hk7⟩
        have H7 : Hid (Wb B b w w7 (acc ++ [32, 123, 10] ++ pre1 pad l (j + 1))) := by
          show Wb B b w w7 _
          rw [pre1_step pad l j _ HE.out.1]
          have h7 := H6.out.1.go hB7 hb7 hk7
          unfold itx1
          rw [if_pos (show (x.d, s).1.kd = 4 from HX.out.2.2)]
          have e9 : acc ++ [32, 123, 10] ++ (pre1 pad l j ++ (pad ++ [32, 32] ++ (wWhen ++ [32] ++ txO (x.d, s).1.ct ++ [32, 123, 10] ++ itx (pad ++ [32, 32]) (x.d, s).2 ++ pad ++ [32, 32, 125, 10]))) = acc ++ [32, 123, 10] ++ pre1 pad l j ++ (pad ++ [32, 32]) ++ (wWhen ++ [32] ++ txt ex) ++ ([32, 123, 10] ++ itx (pad ++ [32, 32]) s ++ (pad ++ [32, 32]) ++ [125, 10]) := by
            rw [show (x.d, s).1.ct = some ex from HX.out.2.1]
            simp [txO]
          rw [e9]
          exact h7
        clear hB7 hb7 hk7 cR b12
        go_wp2
        go_roundw
        case rel => exact ⟨j + 1, by omega, by go_num, H7.out⟩
        case measure => simp [intOf]; omega
      · have hlen4 := HL.out
        rw [if_neg hk4] at hlen4
        simp only [List.length_append, List.length_cons, List.length_nil] at hlen4
        have htx := txO_le HI.out.1 hk4
        have cP := partW_at w4 x hG4 HI.out.1 hk4 (e4.keep hkx4) (by omega)
        obtain ⟨TT, hTT⟩ : ∃ TT, TT = tx (paT x.d) := ⟨_, rfl⟩
        have hTTs : TT.size ≤ 1000000 := by rw [hTT, tx_size]; omega
        rw [← hTT] at cP
        have HX : Hid (TT = tx (paT x.d) ∧ ¬ x.d.kd = 4) := ⟨hTT, hk4⟩
        have hk4' : ¬ ((x.d.kd : Int) = 4) := by omega
        unfold itV cl at cP
        have hTl : TT.size = (paT x.d).length := by rw [hTT, tx_size]
        clear hTT hk4
        go_wp2_with fail
        refine cP.mono ?_
        rintro e w5 ⟨rfl, hb5⟩
        have H5 : Hid (Wb B b w w5 (acc ++ [32, 123, 10] ++ pre1 pad l j ++ (pad ++ [32, 32]))) := H4.out.1.bl' hb5
        have cW := write_at B b _ (TT ++ ⟨#[59, 10]⟩) w5 H5.out.bd (by
          rw [ByteArray.size_append]
          show _ + (_ + 2) ≤ _
          simp only [List.length_append, List.length_cons, List.length_nil]
          omega)
        have hppl : (TT ++ ⟨#[59, 10]⟩ : ByteArray).data.toList = paT x.d ++ [59, 10] := by
          rw [HX.out.1, show ({ data := #[59, 10] } : ByteArray) = tx [59, 10] from rfl, tx_app]
          exact L_tx _
        rw [hppl] at cW
        clear hppl hb5 cP a0 a1 a2 a3 a4 a5 a6 a7 a8 a9 a10 a11 a12
        go_wp2_with fail
        refine cW.mono ?_
        rintro e w6 ⟨rfl, hB6, hb6, hk6⟩
        have H7 : Hid (Wb B b w w6 (acc ++ [32, 123, 10] ++ pre1 pad l (j + 1))) := by
          show Wb B b w w6 _
          rw [pre1_step pad l j _ HE.out.1]
          have h7 := H5.out.go hB6 hb6 hk6
          unfold itx1
          rw [if_neg (show ¬ (x.d, s).1.kd = 4 from HX.out.2)]
          have e9 : acc ++ [32, 123, 10] ++ (pre1 pad l j ++ (pad ++ [32, 32] ++ (paT (x.d, s).1 ++ [59, 10]))) = acc ++ [32, 123, 10] ++ pre1 pad l j ++ (pad ++ [32, 32]) ++ (paT x.d ++ [59, 10]) := by simp
          rw [e9]
          exact h7
        clear hB6 hb6 hk6 cW
        go_wp2
        go_roundw
        case rel => exact ⟨j + 1, by omega, by go_num, H7.out⟩
        case measure => simp [intOf]; omega
    · obtain rfl : j = n := by omega
      have hb := H0.out.2.2.2.2.2.2.1
      have hpe : pre1 pad l j = itx pad l := by rw [Hn.out]; exact pre1_all pad l
      have cW := write_at B b _ (PS ++ ⟨#[125, 10]⟩) wr HB.out.bd (by
        rw [ByteArray.size_append, hpe]
        show _ + (_ + 2) ≤ _
        simp only [List.length_append, List.length_cons, List.length_nil]
        omega)
      have hppl : (PS ++ ⟨#[125, 10]⟩ : ByteArray).data.toList = pad ++ [125, 10] := by
        rw [H0.out.2.2.2.2.2.2.2, show ({ data := #[125, 10] } : ByteArray) = tx [125, 10] from rfl, tx_app]
        exact L_tx _
      rw [hppl, hpe] at cW
      have HP : Hid (pre1 pad l j = itx pad l) := hpe
      clear hppl hpe hb
      go_wp2_with fail
      refine cW.mono ?_
      rintro e w6 ⟨rfl, hB6, hb6, hk6⟩
      have H7 := HB.out.go hB6 hb6 hk6
      have e9 : acc ++ [32, 123, 10] ++ itx pad l ++ (pad ++ [125, 10]) = acc ++ ([32, 123, 10] ++ itx pad l ++ pad ++ [125, 10]) := by simp
      rw [e9] at H7
      go_wp2
      go_end0
      exact ⟨rfl, H7.bd, H7.bl, H7.kb⟩
theorem block_wa (k : Nat) : BlkW k := by
  induction k using Nat.strongRecOn with
  | ind k ih => exact block_w k ih
end Go.Proofs.YtococaecjecjgaaGreatDoor.tm
/- Templates, printed. -/
namespace Go.Proofs.YtococaecjecjgaaGreatDoor.tm
set_option linter.unusedVariables false
open Go.ChangeShapes Go.WideShapes Go.ChangeAt Go.RowKit Go.Shelf
open mem lx ex bld

def pre2 (l : List Ty) (j : Nat) : List UInt8 := (l.take j).flatMap tyx
theorem pre2_step (l : List Ty) (j : Nat) (t : Ty) (h : l[j]? = some t) : pre2 l (j + 1) = pre2 l j ++ tyx t := by
  unfold pre2
  rw [List.take_add_one, h, List.flatMap_append]
  simp
theorem pre2_all (l : List Ty) : pre2 l l.length = ptxt l := by
  unfold pre2
  rw [List.take_length]; rfl
theorem pre2_len (l : List Ty) (j : Nat) : (pre2 l j).length ≤ (ptxt l).length := by
  unfold ptxt
  conv => rhs; rw [← List.take_append_drop j l, List.flatMap_append, List.length_append]
  exact Nat.le_add_right _ _
theorem RepT.at {w : World} {ok : Nat → Prop} {l : List Ty} : ∀ {cs : List CT}, RepT w ok l cs → ∀ j, j < l.length → ∃ c t, cs[j]? = some c ∧ l[j]? = some t ∧ c.nm = t.nm ∧ c.a = t.at_ ∧ ∃ cs2, ir.Lie w ok c.p c.n c.c cs2 ∧ Rep w ok t.l cs2 := by
  induction l with
  | nil => intro cs h j hj; exact absurd hj (Nat.not_lt_zero _)
  | cons t l it =>
    intro cs h j hj
    obtain ⟨c, r, rfl, h2, h3, h4, h6⟩ := h
    cases j with
    | zero => exact ⟨c, t, rfl, rfl, h2, h3, h4⟩
    | succ j =>
      obtain ⟨c', t', k1, k2, k3⟩ := it h6 j (by simpa using hj)
      exact ⟨c', t', by simpa using k1, by simpa using k2, k3⟩
theorem lieT_low {w w' : World} {B : Nat} {p : Option Addr} {n c : Nat} {cs : List CT} (h : sr.Lie w (fun g => g < B) p n c cs) (hb : Below B w w') : sr.Lie w' (fun g => g < B) p n c cs := h.keep (fun g hg _ => hb.block g hg) hb.size
theorem lieT_at {w : World} {ok : Nat → Prop} {p : Option Addr} {n c : Nat} {l : List CT} (h : sr.Lie w ok p n c l) (k : Nat) (y : CT) (hy : l[k]? = some y) : ∃ x : Addr, p = some x ∧ ok x.block ∧ w.cell? (x.add (k * 3)) = (clT y)[0]? ∧ ∀ j u, (clT y)[j]? = some u → w.cell? ⟨(x.add (k * 3)).block, (x.add (k * 3)).off + j, none⟩ = some u := by
  obtain ⟨hk, hy'⟩ := List.getElem?_eq_some_iff.1 hy
  obtain ⟨x, e1, e2, e3, e4⟩ := h.at k hk
  rw [hy'] at e4
  refine ⟨x, e1, e3, ?_, e4⟩
  have h0 := e4 0 _ rfl
  obtain ⟨_, _, h3⟩ := h
  rcases h3 with h3 | ⟨g, e, _⟩
  · subst h3; exact absurd hk (Nat.not_lt_zero _)
  · rw [e] at e1
    injection e1 with e1
    subst e1
    rw [Addr.add_lit] at h0 ⊢
    exact h0
set_option maxRecDepth 10000 in
set_option maxHeartbeats 4000000 in
theorem Print_at (l : List Ty) (v : Value) (w : World) (ok : Nat → Prop) (h : IsTs w ok v l) (hw : WT l) (hG : Gt w) (hl : (ptxt l).length + 20 ≤ 1000000) :
    Calls Tryz.prog 56 #[v] w fun e w' => e = .returned (.string (tx (ptxt l))) ∧ Bl w w' := by
  obtain ⟨p, c, cs, rfl, h1, h2⟩ := h
  have h1 := h1.mono (ok' := fun g => g < w.heap.size) (fun g _ hg => hg)
  have h2 := h2.mono (ok' := fun g => g < w.heap.size) (fun g _ hg => hg)
  have hNG : 6 ≤ w.heap.size := by have := hG.gd.lt; omega
  have hb0 := Bd.new w
  obtain ⟨B, hB⟩ : ∃ B, B = w.heap.size := ⟨_, rfl⟩
  obtain ⟨w1, hw1⟩ : ∃ w1, w1 = w.alloc (.cells #[.pointer none, .slice none 0 0] 81) := ⟨_, rfl⟩
  have hbl : Bl w w1 := by rw [hw1]; exact (Bl.refl _).alloc _
  rw [← hw1, ← hB] at hb0
  rw [← hB] at h1 h2 hNG
  have hbl' : Below B w w1 := by rw [hB]; exact hbl
  obtain ⟨n, hn⟩ : ∃ n, n = l.length := ⟨_, rfl⟩
  have hn8 : n ≤ 8 := by rw [hn]; exact hw.1
  have H1 : Hid (Wb B B w1 w1 [] ∧ sr.Lie w1 (fun g => g < B) p l.length c cs ∧ RepT w1 (fun g => g < B) l cs ∧ Gt w1 ∧ 6 ≤ B ∧ WT l ∧ (ptxt l).length + 20 ≤ 1000000 ∧ n = l.length ∧ Below B w w1) :=
    ⟨⟨hb0, Below.refl _ _, Kb.refl _ _⟩, lieT_low h1 hbl', h2.keep (fun g hg _ => hbl'.block g hg) hbl'.size (Kx.bl hbl), hG.bl hbl, hNG, hw, hl, hn, hbl'⟩
  have HBe : Hid (B = w.heap.size) := hB
  rw [← hn]
  clear h1 h2 hNG hb0 hbl hbl' hn hw hG hl
  go_enter Tryz.func56, Tryz.ntmps56
  go_upto_region 2 with fail
  rw [← hw1, ← hB]
  clear hw1 hB
  go_wp2
  go_loopw [8] (fun i wr => ∃ j : Nat, j ≤ n ∧ i = .int .i64 (j : Int) ∧ Hid (Wb B B w1 wr (pre2 l j))) (fun i _ => n - (intOf i).toNat)
  case atStart => exact ⟨0, by omega, rfl, H1.out.1⟩
  case round =>
    obtain ⟨j, hj, rfl, HB⟩ := hrel
    obtain ⟨H10, Hlie, Hrep, HGt, HNG, HWT, Hl, Hn, Hbl⟩ := H1.out
    by_cases hjn : j < n
    · have d1 : decide ((j : Int) < (n : Int)) = true := decide_eq_true (by omega)
      have i0 : (0 : Int) ≤ (j : Int) := by omega
      have i1 : (j : Int) < (n : Int) := by omega
      obtain ⟨x, t, e1, e2, e3, e4, cs2, e5, e6⟩ := Hrep.at j (by rw [← Hn]; exact hjn)
      have hkx : Kx w1 wr := Kb.kx HB.out.kb H10.bd
      obtain ⟨X, rfl, _, g0', g⟩ := lieT_at (lieT_low Hlie HB.out.bl) j x e1
      have g0 : wr.cell? (X.add (j * 3)) = some (.string (tx x.nm)) := g0'
      clear g0'
      have g1 := g 1 _ rfl
      have g2 := g 2 _ rfl
      clear g e1
      obtain ⟨w3, hw3⟩ : ∃ w3, w3 = wr.alloc (.cells (clT x).toArray 96) := ⟨_, rfl⟩
      obtain ⟨M, hM⟩ : ∃ M, M = wr.heap.size := ⟨_, rfl⟩
      have hv3 : w3.heap[M]? = some (.cells (clT x).toArray 96 (0, 0)) := by rw [hw3, hM]; exact new_at _ _
      have hbl3 : Bl wr w3 := by rw [hw3]; exact (Bl.refl _).alloc _
      have hMb : M ≠ B := by have := HB.out.bd.lt; omega
      have hpl := pre2_len l (j + 1)
      rw [pre2_step l j _ e2, List.length_append] at hpl
      have W3 := HB.out.bl' hbl3
      have hit : (tyx t).length = 7 + t.nm.length + 3 + (itx [] t.l).length + 2 := by
        unfold tyx
        simp only [List.length_append, List.length_cons, List.length_nil]
        rw [show wStruct.length = 6 from rfl]
      obtain ⟨t1, t2, t3⟩ := HWT.2 t (List.mem_of_getElem? e2)
      obtain ⟨NMs, hNM⟩ : ∃ NMs, NMs = tx x.nm := ⟨_, rfl⟩
      have hNMs : NMs.size ≤ 12 := by rw [hNM, tx_size, e3]; exact t1.2.2.1
      have cW := write_at B B _ (⟨#[115, 116, 114, 117, 99, 116, 32]⟩ ++ NMs) w3 W3.bd (by
        rw [ByteArray.size_append]
        show _ + (7 + _) ≤ _
        omega)
      have hppl : (⟨#[115, 116, 114, 117, 99, 116, 32]⟩ ++ NMs : ByteArray).data.toList = wStruct ++ [32] ++ t.nm := by
        rw [hNM, e3, show ({ data := #[115, 116, 114, 117, 99, 116, 32] } : ByteArray) = tx (wStruct ++ [32]) from rfl, tx_app]
        exact L_tx _
      rw [hppl] at cW
      have hen : x.n = t.l.len := by rw [e5.1]; exact e6.len.1
      have H3 : Hid (Wb B B w1 w3 (pre2 l j) ∧ w3.heap[M]? = some (.cells (clT x).toArray 96 (0, 0)) ∧ l[j]? = some t ∧ t.l.len ≤ 16 ∧ WI 7 t.l ∧ x.n = t.l.len ∧ ir.Lie w1 (fun g => g < B) x.p t.l.len x.c cs2 ∧ Rep w1 (fun g => g < B) t.l cs2) := ⟨W3, hv3, e2, t2, t3, hen, by rw [← hen]; exact e5, e6⟩
      have HL : Hid ((pre2 l j).length + (tyx t).length ≤ (ptxt l).length ∧ (tyx t).length = 7 + t.nm.length + 3 + (itx [] t.l).length + 2 ∧ (ptxt l).length + 20 ≤ 1000000) := ⟨hpl, hit, Hl⟩
      have hMs : M < w3.heap.size := lt_of_heap hv3
      have c0 : w3.cell? ⟨M, 0, none⟩ = some (.string NMs) := by rw [cell_of hv3, hNM]; rfl
      clear hpl hit W3 hv3 hbl3 hppl t1 t2 t3 e2 e3 e4 e5 e6 hkx H10 Hlie Hrep HGt HNG HWT Hl Hbl hen Hn hNM
      go_upto_region 5 with fail
      change Code.wp _ _ _ _ (wr.alloc (.cells (clT x).toArray 96))
      rw [← hw3, ← hM]
      clear hw3 hM g0 g1 g2
      go_wp2_with fail
      refine cW.mono ?_
      rintro e w4 ⟨rfl, hB4, hb4, hk4⟩
      have H4 : Hid (Wb B B w1 w4 (pre2 l j ++ (wStruct ++ [32] ++ t.nm)) ∧ w4.heap[M]? = some (.cells (clT x).toArray 96 (0, 0))) := ⟨H3.out.1.go hB4 hb4 hk4, hk4.same M _ H3.out.2.1 hMb (fun c fz e => by injection e with _ e2 _; exact absurd e2 (by decide))⟩
      have c2 : w4.cell? ⟨M, 2, none⟩ = some (.slice x.p x.n x.c) := by rw [cell_of H4.out.2]; rfl
      have hlens := HL.out
      have cR := block_wa 7 t.l B B _ [] x.p x.c cs2 w4 H3.out.2.2.2.2.1 H3.out.2.2.2.1 hB4 (lie_low H3.out.2.2.2.2.2.2.1 H4.out.1.bl) (H3.out.2.2.2.2.2.2.2.low H4.out.1.bl (Kb.kx H4.out.1.kb H1.out.1.bd)) (H1.out.2.2.2.1.low H4.out.1.bl H1.out.2.2.2.2.1) H1.out.2.2.2.2.1 (by
        simp only [List.length_append, List.length_cons, List.length_nil]
        rw [show wStruct.length = 6 from rfl]
        omega)
      rw [← H3.out.2.2.2.2.2.1] at cR
      rw [show tx [] = (⟨#[]⟩ : ByteArray) from rfl] at cR
      clear hB4 hb4 hk4 cW c0 hlens
      go_wp2_with fail
      refine cR.mono ?_
      rintro e w7 ⟨rfl, hB7, hb7, hk7⟩
      have H7 : Hid (Wb B B w1 w7 (pre2 l (j + 1))) := by
        show Wb B B w1 w7 _
        rw [pre2_step l j _ H3.out.2.2.1]
        have h7 := H4.out.1.go hB7 hb7 hk7
        have e9 : pre2 l j ++ tyx t = pre2 l j ++ (wStruct ++ [32] ++ t.nm) ++ ([32, 123, 10] ++ itx [] t.l ++ [] ++ [125, 10]) := by
          unfold tyx
          simp
        rw [e9]
        exact h7
      clear hB7 hb7 hk7 cR c2
      go_wp2
      go_roundw
      case rel => exact ⟨j + 1, by omega, by go_num, H7.out⟩
      case measure => simp [intOf]; omega
    · obtain rfl : j = n := by omega
      have hpe : pre2 l j = ptxt l := by rw [Hn]; exact pre2_all l
      have hB9 := HB.out.bd
      rw [hpe] at hB9
      have HBl : Hid (Below B w wr) := Hbl.trans HB.out.bl
      clear H10 Hlie Hrep HGt HNG HWT Hl Hn Hbl hpe
      go_wp2_with fail
      refine (string_at _ _ _ _ hB9).mono ?_
      rintro e w3 ⟨rfl, hb3, _⟩
      have HBl3 : Hid (Bl w w3) := by
        have := HBl.out.trans hb3
        rw [HBe.out] at this
        exact this
      clear hb3 hB9
      go_wp2
      go_ret
      exact ⟨rfl, HBl3.out⟩
end Go.Proofs.YtococaecjecjgaaGreatDoor.tm
