/- Texts laid together: TmV, TmH, TmI, TmJ, TmK. -/
import Derived.Test.YtococaecjecjgaaGreatDoorXLayoutReads19
import Derived.Test.YtococaecjecjgaaGreatDoorXLayoutReads18
import Derived.BigQuiet
import Derived.Test.YtococaecjecjgaaGreatDoorXLayoutReads8
/- Templates: what is written is read, whole (pure). -/
namespace Go.Proofs.YtococaecjecjgaaGreatDoor.tm
set_option linter.unusedVariables false
open lx ex

section
variable {en : Nat}
end
end Go.Proofs.YtococaecjecjgaaGreatDoor.tm
/- Parse of package tmpl, whole. -/
namespace Go.Proofs.YtococaecjecjgaaGreatDoor.tm
set_option linter.unusedVariables false
open Go.ChangeShapes Go.WideShapes Go.ChangeAt Go.RowKit Go.Shelf
open mem lx ex

theorem IsTs.keep {w w' : World} {ok : Nat → Prop} {v : Value} {l : List Ty} (h : IsTs w ok v l) (hk : ∀ g, ok g → g < w.heap.size → w'.heap[g]? = w.heap[g]?) (hs : w.heap.size ≤ w'.heap.size) (hx : Kx w w') : IsTs w' ok v l := by
  obtain ⟨p, c, cs, h1, h2, h3⟩ := h
  exact ⟨p, c, cs, h1, h2.keep hk hs, h3.keep hk hs hx⟩
theorem IsTs.setv {w : World} {b base : Nat} {v x y : Value} {t : TypeId} {l : List Ty} (h : IsTs w (fun g => base ≤ g) v l) (hv : Vr w b y t) (ht : t ≠ 152) (hb : b < base) : IsTs (w.setCell ⟨b, 0, none⟩ x) (fun g => base ≤ g) v l :=
  h.keep (fun g hg hlt => (grown_set w b 0 x).block g hlt (fun e => by injection e with e; omega)) (by simp [World.setCell]) (Kx.set hv ht)
/-- What a text's structs are, or what is told, and where. -/
noncomputable def prT (l : List UInt8) : Except (Int × Nat) (List Ty) :=
  match (lx l 0).2 with
  | some p => .error (3, p)
  | none => typs nb l.length 8 (lx l 0).1
/-- What Parse answers. -/
def TPA (s : ByteArray) (w : World) (e : Ending) (w' : World) : Prop :=
  Bl w w' ∧ match prT (L s) with
  | .ok l => ∃ v, e = .returned (.tuple #[v, .nilIface]) ∧ IsTs w' (fun g => w.heap.size ≤ g) v l
  | .error (c, p) => ∃ B : Nat, e = .returned (.tuple #[.slice none 0 0, atV B]) ∧ w.heap.size ≤ B ∧ AtX w' B c (p : Int)
theorem TPA.of_err {s : ByteArray} {w w' : World} {c : Int} {p B : Nat} (hq : prT (L s) = .error (c, p)) (hb : Bl w w') (hB : w.heap.size ≤ B) (hA : AtX w' B c (p : Int)) : TPA s w (.returned (.tuple #[.slice none 0 0, atV B])) w' := by
  refine ⟨hb, ?_⟩
  rw [hq]
  exact ⟨B, rfl, hB, hA⟩
theorem TPA.of_ok {s : ByteArray} {w w' : World} {l : List Ty} {v : Value} (hq : prT (L s) = .ok l) (hb : Bl w w') (hv : IsTs w' (fun g => w.heap.size ≤ g) v l) : TPA s w (.returned (.tuple #[v, .nilIface])) w' := by
  refine ⟨hb, ?_⟩
  rw [hq]
  exact ⟨v, rfl, hv⟩
set_option maxRecDepth 10000 in
set_option maxHeartbeats 2000000 in
theorem Parse_at (s : ByteArray) (w : World) (hs : s.size ≤ 3000) (hG : Gt w) :
    Calls Tryz.prog 32 #[.string s] w fun e w' => TPA s w e w' := by
  have hmf : ∀ (fn : Fn) (first cap : Array Value) (w : World), (Instr.makeFunc fn first cap).run Tryz.prog w = .ok (.func fn first cap) w := fun _ _ _ _ => rfl
  have cL := fun wx (hb : Bl w wx) => Lex_at s wx hs (hG.gd.ms.step hb)
  have H0 : Hid _ := PvT.new w
  obtain ⟨N, hN⟩ : ∃ N, N = w.heap.size := ⟨_, rfl⟩
  rw [← hN] at H0
  have HG : Hid (Gt w) := hG
  have hcl := H0.out.bl
  clear hG
  go_enter_defers Tryz.func32, Tryz.ntmps32
  go_wp2_with fail
  refine (cL _ hcl).mono ?_
  rintro e w2 ⟨hb2, hans⟩
  rw [← hN]
  have H2 : Hid _ := H0.out.step hb2
  have c1 := H2.out.v1.cell
  have c2 := H2.out.v2.cell
  have f1 := H2.out.v1.frozen
  have f2 := H2.out.v2.frozen
  have hsz : N + 2 ≤ ((w.alloc (.cells #[.slice none 0 0] 22)).alloc (.cells #[.nilIface] 34)).heap.size := by have := H0.out.v2.lt; omega
  rcases hans with ⟨g1, v, rfl, g2⟩ | ⟨p, B, g1, rfl, g2, g3⟩
  · obtain ⟨ts, hts⟩ : ∃ ts, ts = (lx (L s) 0).1 := ⟨_, rfl⟩
    have hprs : prT (L s) = typs nb s.size 8 ts := by
      unfold prT
      rw [g1, ← hts, L_len]
    have hsx : ∃ pre, lx (L s) 0 = (pre ++ ts, none) := ⟨[], by rw [hts, List.nil_append, ← g1]⟩
    rw [← hts] at g2
    obtain ⟨vp, vc, rfl, hvc, hin⟩ := g2.view
    have HX : Hid (prT (L s) = typs nb s.size 8 ts ∧ (∃ pre, lx (L s) 0 = (pre ++ ts, none)) ∧ ts.length ≤ vc) := ⟨hprs, hsx, hvc⟩
    have HO : Hid (tr.Own w2 (N + 2) (.slice vp ts.length vc) ts) := g2.low hsz
    clear g1 g2 hprs hsx hts cL hN hcl hsz hin hvc
    have cT := fun wx (hb : Bl w wx) => taken_at wx (HG.out.bl hb)
    have H2b : Hid (PvT w (w2.setCell ⟨N + 1, 0, none⟩ .nilIface) N (.slice none 0 0) .nilIface ∧ tr.Own (w2.setCell ⟨N + 1, 0, none⟩ .nilIface) (N + 2) (.slice vp ts.length vc) ts) := by
      refine ⟨H2.out.set2 _, HO.out.kept (grown_set _ _ _ _) ?_⟩
      intro x hx e
      injection e with e
      have := (HO.out.block x hx).1
      omega
    have hbw := H2b.out.1.bl
    go_wp2_with fail
    generalize w2.setCell ⟨N + 1, 0, none⟩ .nilIface = w3 at *
    refine (cT _ hbw).mono ?_
    rintro e w4 ⟨mb, rfl, hm1, hm2, hm3, hb4⟩
    have H4 : Hid (PvT w w4 N (.slice none 0 0) .nilIface ∧ tr.Own w4 (N + 2) (.slice vp ts.length vc) ts) := ⟨H2b.out.1.step hb4, H2b.out.2.step hb4⟩
    obtain ⟨P, hP⟩ : ∃ P, P = w4.heap.size := ⟨_, rfl⟩
    obtain ⟨w5, hw5⟩ : ∃ w5, w5 = w4.alloc (.cells #[.string s, .slice vp ts.length vc, .int .i64 0, .map (some mb)] 129) := ⟨_, rfl⟩
    have hb5 : Bl w4 w5 := by rw [hw5]; exact (Bl.refl _).alloc _
    have H5 : Hid (PvT w w5 N (.slice none 0 0) .nilIface ∧ N + 1 < P) := ⟨H4.out.1.step hb5, by have := H4.out.1.v2.lt; omega⟩
    have hR5 : RdT w5 P s ts 0 mb := by
      have hn := new_at w4 (.cells #[.string s, .slice vp ts.length vc, .int .i64 0, .map (some mb)] 129)
      rw [← hw5, ← hP] at hn
      obtain ⟨vp', vc', hv', hvc', hin'⟩ := (H4.out.2.step hb5).view
      have e1 : vp' = vp := by injection hv' with h1 _ _; exact h1.symm
      have e2 : vc' = vc := by injection hv' with _ _ h3; exact h3.symm
      subst e1 e2
      refine ⟨⟨vp', vc', hn, hvc', hin', fun x hx => ?_⟩, ⟨?_, by omega⟩, HX.out.2.1, hs⟩
      · have hb := H4.out.2.block
        have := (hb x.block (by rw [hx]; rfl)).2
        omega
      · obtain ⟨n, hn'⟩ := hm3
        exact ⟨n, hn'.step (row := none) ⟨hb5.os, hb5.tape, hb5.output, hb5.size, fun k hk _ => Below.block hb5 k hk⟩ (by simp)⟩
    have hG5 : Gt w5 := HG.out.bl H5.out.1.bl
    have hGP : 6 ≤ P := by
      have h1 := (HG.out.bl (H4.out.1.bl)).gd.lt
      omega
    have cR := types_at w5 P mb s ts hR5 hG5 hGP
    have hP5 := hR5.lt
    have HH : Hid (P < w5.heap.size ∧ w.heap.size ≤ w5.heap.size) := ⟨hP5, H5.out.1.bl.size⟩
    clear cT HO H2 H2b hbw hm1 hm2 hm3 hb4 H4 hb5 hR5 hG5 hGP hP5 c1 c2 f1 f2 H0 hb2
    go_wp2_with fail
    rw [← hP, ← hw5]
    clear hw5 hP
    refine cR.mono ?_
    rintro e w6 ⟨hg6, hans⟩
    clear cR
    have H6 : Hid (PvT w w6 N (.slice none 0 0) .nilIface) := H5.out.1.gp hg6 H5.out.2
    have hsz6 := hg6.size
    obtain ⟨q, hq⟩ : ∃ q, q = typs nb s.size 8 ts := ⟨_, rfl⟩
    rw [← hq] at hans
    have HXX : Hid (prT (L s) = q) := by rw [hq]; exact HX.out.1
    clear hq HX
    cases q with
    | error cp =>
      obtain ⟨c, p⟩ := cp
      obtain ⟨B, rfl, hB1, hB2⟩ := hans
      have HA9 : Hid (AtX w6 B c (p : Int) ∧ N + 1 < B ∧ w.heap.size ≤ B) := ⟨hB2, by have := HH.out; have := H5.out.2; omega, by have := HH.out; omega⟩
      unfold thrownT
      go_wp2
      refine leaves_cons (f := 58) (args := #[.pointer (some ⟨N, 0, none⟩), .pointer (some ⟨N + 1, 0, none⟩)]) (by simp) (by simp [go_sem]) ?_
      refine (tcatch_thrown N B w w6 _ _ c (p : Int) H6.out HA9.out.1 HA9.out.2.1).mono ?_
      rintro e u' wz ⟨rfl, rfl, HZ, hAZ⟩
      have c1' := HZ.v1.cell
      have c2' := HZ.v2.cell
      have hfin := TPA.of_err HXX.out HZ.bl HA9.out.2.2 hAZ
      unfold thrV
      simp [Leaves, settle, results, Tryz.results32, go_sem, c1', c2']
      exact hfin
    | ok l =>
      obtain ⟨v, rfl, hv⟩ := hans
      obtain ⟨tp, tn, tc, rfl⟩ : ∃ tp tn tc, v = .slice tp tn tc := by
        obtain ⟨p, c, cs, h1, _⟩ := hv
        exact ⟨_, _, _, h1⟩
      obtain ⟨v, hve⟩ : ∃ v, v = Value.slice tp tn tc := ⟨_, rfl⟩
      rw [← hve] at hv
      have d1 := H6.out.v1.cell
      have d2 := H6.out.v2.cell
      have e1 := H6.out.v1.frozen
      have e2 := H6.out.v2.frozen
      have hbase : N + 1 < w5.heap.size := by have := HH.out.1; have := H5.out.2; omega
      have H9 := (H6.out.set1 v).set2 .nilIface
      have hx9 : IsTs ((w6.setCell ⟨N, 0, none⟩ v).setCell ⟨N + 1, 0, none⟩ .nilIface) (fun g => w5.heap.size ≤ g) v l := (hv.setv H6.out.v1 (by decide) (by omega)).setv (H6.out.set1 v).v2 (by decide) hbase
      have hx10 : IsTs ((w6.setCell ⟨N, 0, none⟩ v).setCell ⟨N + 1, 0, none⟩ .nilIface) (fun g => w.heap.size ≤ g) v l := by
        obtain ⟨pp, cc, cs, k1, k2, k3⟩ := hx9
        exact ⟨pp, cc, cs, k1, k2.mono (fun g hg _ => by have := HH.out.2; omega), k3.mono (fun g hg _ => by have := HH.out.2; omega)⟩
      have H10 : Hid (PvT w ((w6.setCell ⟨N, 0, none⟩ v).setCell ⟨N + 1, 0, none⟩ .nilIface) N v .nilIface ∧ IsTs ((w6.setCell ⟨N, 0, none⟩ v).setCell ⟨N + 1, 0, none⟩ .nilIface) (fun g => w.heap.size ≤ g) v l) := ⟨H9, hx10⟩
      rw [hve] at H10
      clear H9 hx9 hx10 hv hve
      go_wp2
      refine leaves_cons (f := 58) (args := #[.pointer (some ⟨N, 0, none⟩), .pointer (some ⟨N + 1, 0, none⟩)]) (by simp) (by simp [go_sem]) ?_
      refine (tcatch_idle _ _ _).mono ?_
      rintro e u' wz ⟨rfl, rfl, hbz⟩
      have HZ := H10.out.1.step hbz
      have c1' := HZ.v1.cell
      have c2' := HZ.v2.cell
      have hfin := TPA.of_ok HXX.out HZ.bl (H10.out.2.bl hbz)
      simp [Leaves, settle, results, Tryz.results32, go_sem, c1', c2']
      exact hfin
  · have HB : Hid (prT (L s) = .error (3, p) ∧ AtX w2 B 3 (p : Int) ∧ N + 1 < B) := by
      refine ⟨by unfold prT; rw [g1], g3, ?_⟩
      omega
    have HN : Hid (w.heap.size ≤ B) := by
      have h1 := H2.out.n
      show w.heap.size ≤ B
      omega
    clear g1 g2 g3 cL hN H0 hcl hsz hb2
    go_wp2
    have HW : Hid (PvT w (w2.setCell ⟨N + 1, 0, none⟩ (.iface 113 (.pointer (some ⟨B, 0, none⟩)))) N (.slice none 0 0) (.iface 113 (.pointer (some ⟨B, 0, none⟩))) ∧ AtX (w2.setCell ⟨N + 1, 0, none⟩ (.iface 113 (.pointer (some ⟨B, 0, none⟩)))) B 3 (p : Int)) := ⟨H2.out.set2 _, HB.out.2.1.set (by have := HB.out.2.2; omega)⟩
    generalize w2.setCell ⟨N + 1, 0, none⟩ (.iface 113 (.pointer (some ⟨B, 0, none⟩))) = W at HW ⊢
    clear c1 c2 f1 f2
    have c1 := HW.out.1.v1.cell
    have c2 := HW.out.1.v2.cell
    have f1 := HW.out.1.v1.frozen
    have f2 := HW.out.1.v2.frozen
    refine wp_calm ?_
    go_region
    all_goals
      refine Calm.in ?_
      have H9 : Hid (PvT w ((W.setCell ⟨N, 0, none⟩ (.slice none 0 0)).setCell ⟨N + 1, 0, none⟩ (.iface 113 (.pointer (some ⟨B, 0, none⟩)))).drew N (.slice none 0 0) (.iface 113 (.pointer (some ⟨B, 0, none⟩))) ∧ AtX ((W.setCell ⟨N, 0, none⟩ (.slice none 0 0)).setCell ⟨N + 1, 0, none⟩ (.iface 113 (.pointer (some ⟨B, 0, none⟩)))).drew B 3 (p : Int)) := ⟨((HW.out.1.set1 _).set2 _).step (Bl.refl _).drew, (HW.out.2.set (x := .slice none 0 0) (b := N) (by have := HB.out.2.2; omega)).set (b := N + 1) (by have := HB.out.2.2; omega)⟩
      generalize ((W.setCell ⟨N, 0, none⟩ (.slice none 0 0)).setCell ⟨N + 1, 0, none⟩ (.iface 113 (.pointer (some ⟨B, 0, none⟩)))).drew = W9 at H9 ⊢
      clear c1 c2 f1 f2
      have c1 := H9.out.1.v1.cell
      have c2 := H9.out.1.v2.cell
      have hfin := TPA.of_err HB.out.1 H9.out.1.bl HN.out H9.out.2
      go_simp
      go_wp2
      simp [bodyPostD, Leaves, results, Tryz.results32, go_sem, c1, c2]
      exact hfin
end Go.Proofs.YtococaecjecjgaaGreatDoor.tm
/- Templates, printed: what an item begins with. -/
namespace Go.Proofs.YtococaecjecjgaaGreatDoor.tm
set_option linter.unusedVariables false
open Go.ChangeShapes Go.WideShapes Go.ChangeAt Go.RowKit Go.Shelf
open mem lx ex

end Go.Proofs.YtococaecjecjgaaGreatDoor.tm
/- Templates, printed: an item that has no others. -/
namespace Go.Proofs.YtococaecjecjgaaGreatDoor.tm
set_option linter.unusedVariables false
open Go.ChangeShapes Go.WideShapes Go.ChangeAt Go.RowKit Go.Shelf
open mem lx ex

theorem kw_len {d : D} (h : WD d) (h4 : d.kd ≠ 4) : (kw d).length ≤ 12 := by
  unfold kw
  rcases h with h | h | h | h
  · exact absurd h.1 h4
  · rw [if_pos h.1]; decide
  · rw [if_neg (by rw [h.1]; decide), if_pos h.1]; exact h.2.1.2.2.1
  · rw [if_neg (by rw [h.1]; decide), if_neg (by rw [h.1]; decide)]
    have key : ∀ p ∈ numW, p.1.length ≤ 12 := by decide
    cases hf : numW.find? (fun p => p.2.1 == d.wd && p.2.2.1 == d.od && p.2.2.2 == d.sg) with
    | none => exact Nat.zero_le _
    | some p => exact key p (List.mem_of_find?_eq_some hf)
end Go.Proofs.YtococaecjecjgaaGreatDoor.tm
/- Templates, printed: items in their brackets. -/
namespace Go.Proofs.YtococaecjecjgaaGreatDoor.tm
set_option linter.unusedVariables false
open Go.ChangeShapes Go.WideShapes Go.ChangeAt Go.RowKit Go.Shelf
open mem lx ex bld

def Its.ps : Its → List (D × Its)
  | .nil => []
  | .cons d s t => (d, s) :: t.ps
theorem Its.ps_len (l : Its) : l.ps.length = l.len := by
  induction l with
  | nil => rfl
  | cons d s t _ it => simp [Its.ps, Its.len, it]
theorem Rep.at {w : World} {ok : Nat → Prop} {l : Its} : ∀ {cs : List C}, Rep w ok l cs → ∀ j, j < l.len → ∃ c d s, cs[j]? = some c ∧ l.ps[j]? = some (d, s) ∧ c.d = d ∧ IsO w c.pc d.ct ∧ ∃ cs2, ir.Lie w ok c.p c.n c.c cs2 ∧ Rep w ok s cs2 := by
  induction l with
  | nil => intro cs h j hj; exact absurd hj (Nat.not_lt_zero _)
  | cons d s t _ it =>
    intro cs h j hj
    obtain ⟨c, r, rfl, h2, h3, h4, h6⟩ := h
    cases j with
    | zero => exact ⟨c, d, s, rfl, rfl, h2, h3, h4⟩
    | succ j =>
      obtain ⟨c', d', s', k1, k2, k3⟩ := it h6 j (by simp [Its.len] at hj; omega)
      exact ⟨c', d', s', by simpa using k1, by simpa [Its.ps] using k2, k3⟩
theorem WI.at {k : Nat} {l : Its} (h : WI k l) : ∀ (j : Nat) (d : D) (s : Its), l.ps[j]? = some (d, s) → WD d ∧ (d.kd ≠ 4 → noSub s = true) ∧ (d.kd = 4 → 0 < k ∧ s.len ≤ 16 ∧ WI (k - 1) s) := by
  induction l with
  | nil => intro j d s hj; cases hj
  | cons d s t _ it =>
    intro j d' s' hj
    obtain ⟨w1, w2, w3, w4⟩ := h
    cases j with
    | zero => simp [Its.ps] at hj; obtain ⟨rfl, rfl⟩ := hj; exact ⟨w1, w2, w3⟩
    | succ j => exact it w4 j d' s' (by simpa [Its.ps] using hj)
theorem Rep.low {w w' : World} {B : Nat} {l : Its} {cs : List C} (h : Rep w (fun g => g < B) l cs) (hb : Below B w w') (hx : Kx w w') : Rep w' (fun g => g < B) l cs := h.keep (fun g hg _ => hb.block g hg) hb.size hx
theorem lie_low {w w' : World} {B : Nat} {p : Option Addr} {n c : Nat} {cs : List C} (h : ir.Lie w (fun g => g < B) p n c cs) (hb : Below B w w') : ir.Lie w' (fun g => g < B) p n c cs := h.keep (fun g hg _ => hb.block g hg) hb.size
theorem lie_at {w : World} {ok : Nat → Prop} {p : Option Addr} {n c : Nat} {l : List C} (h : ir.Lie w ok p n c l) (k : Nat) (y : C) (hy : l[k]? = some y) : ∃ x : Addr, p = some x ∧ ok x.block ∧ w.cell? (x.add (k * 13)) = (cl y)[0]? ∧ ∀ j u, (cl y)[j]? = some u → w.cell? ⟨(x.add (k * 13)).block, (x.add (k * 13)).off + j, none⟩ = some u := by
  obtain ⟨hk, hy'⟩ := List.getElem?_eq_some_iff.1 hy
  obtain ⟨x, e1, e2, e3, e4⟩ := h.at k hk
  rw [hy'] at e4
  refine ⟨x, e1, e3, ?_, e4⟩
  have h0 := e4 0 _ rfl
  obtain ⟨_, _, h3⟩ := h
  rcases h3 with h3 | ⟨g, e, _⟩
  · subst h3; exact absurd hk (Nat.not_lt_zero _)
  · rw [e] at e1
    injection e1 with e1
    subst e1
    rw [Addr.add_lit] at h0 ⊢
    exact h0
/-- How far writing has come. -/
structure Wb (B b : Nat) (w wr : World) (acc : List UInt8) : Prop where
  bd : Bd B b acc wr
  bl : Below B w wr
  kb : Kb b w wr
theorem Wb.bl' {B b : Nat} {w wr w' : World} {acc : List UInt8} (h : Wb B b w wr acc) (hb : Bl wr w') : Wb B b w w' acc := ⟨h.bd.bl hb, h.bl.trans (hb.mono h.bd.le), h.kb.trans (Kb.bl hb)⟩
theorem Wb.go {B b : Nat} {w wr w' : World} {acc acc' : List UInt8} (h : Wb B b w wr acc) (h1 : Bd B b acc' w') (h2 : Below B wr w') (h3 : Kb b wr w') : Wb B b w w' acc' := ⟨h1, h.bl.trans h2, h.kb.trans h3⟩
theorem Iv.kb {w w' : World} {b M : Nat} {c : C} (h : Iv w M c) (hk : Kb b w w') (hne : M ≠ b) : Iv w' M c := ⟨hk.same M _ h.h hne (fun c fz e => by injection e with _ e2 _; exact absurd e2 (by decide))⟩
theorem Gt.low {w w' : World} {B : Nat} (h : Gt w) (hb : Below B w w') (hB : 6 ≤ B) : Gt w' := h.below (hb.mono hB)
end Go.Proofs.YtococaecjecjgaaGreatDoor.tm
