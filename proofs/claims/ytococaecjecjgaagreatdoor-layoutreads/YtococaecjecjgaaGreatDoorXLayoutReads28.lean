/- Texts laid together: Er1, RefDig1, RefDig3, RefDig4, Er2. -/
import Derived.Test.YtococaecjecjgaaGreatDoorXLayoutReads4
import Derived.Test.YtococaecjecjgaaGreatDoorXLayoutReads27
import Derived.Test.YtococaecjecjgaaGreatDoorXLayoutReads5
import Derived.WalkSpells
import Derived.Laws.Bits64b
import Derived.Laws.Externs
import Derived.Test.YtococaecjecjgaaGreatDoorXLayoutReads6
namespace Go.Proofs.YtococaecjecjgaaGreatDoor.ex
set_option linter.unusedVariables false
open Go.ChangeShapes Go.WideShapes Go.ChangeAt Go.RowKit
open mem lx

structure Ey (w : World) (P : Nat) (ts : List Tk) (en : Nat) (c p : Int) : Prop where
  ex : ∃ (q : Option Addr) (k : Nat), w.heap[P]? = some (.cells #[.slice q ts.length k, .int .i64 (en : Int), .int .i64 c, .int .i64 p] 91 (0, 0)) ∧ ts.length ≤ k ∧ tr.In w q ts ∧ (∀ x, q = some x → x.block < w.heap.size ∧ x.block < P)
  len : ts.length ≤ 3000
  tok : ∀ t ∈ ts, (t.t ≠ [] ∧ (32 : UInt8) ∉ t.t) ∧ t.t.length ≤ 3000
theorem Ey.step {w w' : World} {P : Nat} {ts : List Tk} {en : Nat} {c p : Int} (h : Ey w P ts en c p) (hb : Bl w w') : Ey w' P ts en c p := by
  obtain ⟨q, k, h1, h2, h3, h4⟩ := h.ex
  exact ⟨⟨q, k, by rw [Below.block hb P (lt_of_heap h1)]; exact h1, h2, h3.step hb, fun x hx => ⟨Nat.lt_of_lt_of_le (h4 x hx).1 hb.size, (h4 x hx).2⟩⟩, h.len, h.tok⟩
theorem Ey.is {w : World} {P : Nat} {ts : List Tk} {en : Nat} {c p : Int} (h : Ey w P ts en c p) : ∃ cs, w.heap[P]? = some (.cells cs 91 (0, 0)) := by
  obtain ⟨q, k, h1, _⟩ := h.ex
  exact ⟨_, h1⟩
theorem Ey.lt {w : World} {P : Nat} {ts : List Tk} {en : Nat} {c p : Int} (h : Ey w P ts en c p) : P < w.heap.size := by
  obtain ⟨cs, h1⟩ := h.is
  exact lt_of_heap h1
theorem Gp.kxE {P : Nat} {w w' : World} {ts : List Tk} {en : Nat} {c p : Int} (h : Gp P w w') (hp : Ey w P ts en c p) : Kx w w' := fun b cs' hb => by
  obtain ⟨cs, h1⟩ := hp.is
  rw [h.block b (lt_of_heap hb) (fun e => by rw [e, h1] at hb; simp at hb)]
  exact hb
theorem ldE (w : World) (P : Nat) (a b x y : Value) (h : w.heap[P]? = some (.cells #[a, b, x, y] 91 (0, 0))) : (loadVar 30 ⟨P, 2, none⟩).run Tryz.prog w = .ok (.agg #[x, y]) w :=
  run_loadVar_mid w P 2 30 [x, y] _ (fun j v hv => by
    rcases j with _ | _ | j
    · simp at hv; subst hv; rw [cell_of h]; rfl
    · simp at hv; subst hv; rw [cell_of h]; rfl
    · simp at hv) Tryz.underlying30 rfl infoF
theorem Ey.cells {w : World} {P : Nat} {ts : List Tk} {en : Nat} {c p : Int} (h : Ey w P ts en c p) : w.cell? ⟨P, 1, none⟩ = some (.int .i64 (en : Int)) ∧ w.cell? ⟨P, 2, none⟩ = some (.int .i64 c) ∧ w.cell? ⟨P, 3, none⟩ = some (.int .i64 p) ∧ (loadVar 30 ⟨P, 2, none⟩).run Tryz.prog w = .ok (.agg #[.int .i64 c, .int .i64 p]) w ∧ w.frozen? ⟨P, 2, none⟩ = false ∧ w.frozen? ⟨P, 3, none⟩ = false := by
  obtain ⟨q, k, h1, _⟩ := h.ex
  exact ⟨by rw [cell_of h1]; rfl, by rw [cell_of h1]; rfl, by rw [cell_of h1]; rfl, ldE w P _ _ _ _ h1, by simp [World.frozen?, h1], by simp [World.frozen?, h1]⟩
theorem stop_at (w : World) (P : Nat) (ts : List Tk) (en : Nat) (c p : Int) (h : Ey w P ts en c p) :
    Calls Tryz.prog 37 #[.pointer (some ⟨P, 0, none⟩)] w fun e w' => e = .returned (.bool (!(c == 0))) ∧ Bl w w' := by
  obtain ⟨c1, c2, c3, cF, _, _⟩ := h.cells
  clear h
  go_enter Tryz.func37, Tryz.ntmps37
  go_wp2
  go_ret
  exact ⟨rfl, (Bl.refl _).alloc _⟩
def see (c : Int) (en : Nat) (ts : List Tk) : List UInt8 := if c = 0 then (hd en ts).t else []
theorem text_at (w : World) (P : Nat) (ts : List Tk) (en : Nat) (c p : Int) (h : Ey w P ts en c p) :
    Calls Tryz.prog 38 #[.pointer (some ⟨P, 0, none⟩)] w fun e w' => e = .returned (.string (tx (see c en ts))) ∧ Bl w w' := by
  have cS := stop_at w P ts en c p h
  have HE : Hid (Ey w P ts en c p) := h
  clear h
  by_cases hc : c = 0
  · subst hc
    rw [show (!((0 : Int) == 0)) = false from rfl] at cS
    rw [show see 0 en ts = (hd en ts).t from if_pos rfl]
    go_enter Tryz.func38, Tryz.ntmps38
    go_wp2_with fail
    refine cS.mono ?_
    rintro e w2 ⟨rfl, hb⟩
    have HE2 : Hid (Ey w2 P ts en 0 p) := HE.out.step hb
    obtain ⟨q, k, h1, h2, h3, h4⟩ := HE2.out.ex
    have hP := lt_of_heap h1
    have c0 : w2.cell? ⟨P, 0, none⟩ = some (.slice q ts.length k) := by rw [cell_of h1]; rfl
    clear h1 cS
    cases ts with
    | nil =>
      rw [show ([] : List Tk).length = 0 from rfl] at c0
      clear h2 h3 h4
      go_wp2
      go_ret
      exact ⟨rfl, hb⟩
    | cons t ts =>
      have hl := HE2.out.len
      obtain ⟨x, rfl, g0, g1⟩ := h3.at' 0 (by simp)
      obtain ⟨n, hn⟩ : ∃ n, n = ts.length := ⟨_, rfl⟩
      rw [show (t :: ts).length = n + 1 by simp [hn]] at c0 h2 hl
      simp only [Nat.zero_mul, Addr.add_zero'] at g0 g1
      rw [show (t :: ts)[0] = t from rfl] at g0 g1
      have hne : ((((n + 1 : Nat) : Int)) == 0) = false := by rw [beq_eq_false_iff_ne]; omega
      clear h3 h4 hn g1
      go_wp2
      go_ret
      exact ⟨rfl, hb⟩
  · have hc' : (c == 0) = false := by rw [beq_eq_false_iff_ne]; exact hc
    rw [hc', show (!false) = true from rfl] at cS
    rw [show see c en ts = [] from if_neg hc]
    go_enter Tryz.func38, Tryz.ntmps38
    go_wp2_with fail
    refine cS.mono ?_
    rintro e w2 ⟨rfl, hb⟩
    go_wp2
    go_ret
    exact ⟨rfl, hb⟩
theorem place_at (w : World) (P : Nat) (ts : List Tk) (en : Nat) (c p : Int) (h : Ey w P ts en c p) :
    Calls Tryz.prog 40 #[.pointer (some ⟨P, 0, none⟩)] w fun e w' => e = .returned (.int .i64 ((hd en ts).a : Int)) ∧ w' = w := by
  have hl := h.len
  obtain ⟨q, k, h1, h2, h3, h4⟩ := h.ex
  have hP := lt_of_heap h1
  have c0 : w.cell? ⟨P, 0, none⟩ = some (.slice q ts.length k) := by rw [cell_of h1]; rfl
  have c1 : w.cell? ⟨P, 1, none⟩ = some (.int .i64 (en : Int)) := by rw [cell_of h1]; rfl
  clear h1 h
  cases ts with
  | nil =>
    rw [show ([] : List Tk).length = 0 from rfl] at c0
    clear h2 h3 h4
    go_enter Tryz.func40, Tryz.ntmps40
    go_wp2
    go_ret
    exact ⟨rfl, rfl⟩
  | cons t ts =>
    obtain ⟨x, rfl, g0, g1⟩ := h3.at' 0 (by simp)
    obtain ⟨n, hn⟩ : ∃ n, n = ts.length := ⟨_, rfl⟩
    rw [show (t :: ts).length = n + 1 by simp [hn]] at c0 h2 hl
    simp only [Nat.zero_mul, Addr.add_zero'] at g0 g1
    rw [show (t :: ts)[0] = t from rfl] at g0 g1
    have hne : ((((n + 1 : Nat) : Int)) == 0) = false := by rw [beq_eq_false_iff_ne]; omega
    clear h3 h4 hn
    go_enter Tryz.func40, Tryz.ntmps40
    go_wp2
    go_ret
    exact ⟨rfl, rfl⟩
theorem wrong_yes (w : World) (P : Nat) (ts : List Tk) (en : Nat) (p a b : Int) (h : Ey w P ts en 0 p) :
    Calls Tryz.prog 39 #[.pointer (some ⟨P, 0, none⟩), .int .i64 a, .int .i64 b] w fun e w' => e = .returned (.tuple #[]) ∧ Ey w' P ts en a b ∧ Gp P w w' := by
  have cS := stop_at w P ts en 0 p h
  rw [show (!((0 : Int) == 0)) = false from rfl] at cS
  have HE : Hid (Ey w P ts en 0 p) := h
  clear h
  go_enter Tryz.func39, Tryz.ntmps39
  go_wp2_with fail
  refine cS.mono ?_
  rintro e w2 ⟨rfl, hb⟩
  have HE2 : Hid (Ey w2 P ts en 0 p ∧ Bl w w2) := ⟨HE.out.step hb, hb⟩
  obtain ⟨c1, c2, c3, cF, z2, z3⟩ := HE2.out.1.cells
  have hP := HE2.out.1.lt
  clear hb cS
  go_wp2
  refine bodyPost_end (results_none rfl _ _ _) rfl ?_
  obtain ⟨q, k, h1, h2, h3, h4⟩ := HE2.out.1.ex
  have hg : Gp P w2 ((w2.setCell ⟨P, 2, none⟩ (.int .i64 a)).setCell ⟨P, 3, none⟩ (.int .i64 b)) := (Gp.set _).trans (Gp.set _)
  refine ⟨rfl, ⟨⟨q, k, ?_, h2, In.gp h3 hg (fun x hx => ⟨(h4 x hx).1, Nat.ne_of_lt (h4 x hx).2⟩), fun x hx => ⟨Nat.lt_of_lt_of_le (h4 x hx).1 hg.size, (h4 x hx).2⟩⟩, HE.out.len, HE.out.tok⟩, (Gp.bl HE2.out.2).trans hg⟩
  simp [World.setCell, Array.getElem?_modify, h1]
theorem wrong_no (w : World) (P : Nat) (ts : List Tk) (en : Nat) (c p a b : Int) (h : Ey w P ts en c p) (hc : c ≠ 0) :
    Calls Tryz.prog 39 #[.pointer (some ⟨P, 0, none⟩), .int .i64 a, .int .i64 b] w fun e w' => e = .returned (.tuple #[]) ∧ Bl w w' := by
  have cS := stop_at w P ts en c p h
  have hc' : (c == 0) = false := by rw [beq_eq_false_iff_ne]; exact hc
  rw [hc', show (!false) = true from rfl] at cS
  clear h hc hc'
  go_enter Tryz.func39, Tryz.ntmps39
  go_wp2_with fail
  refine cS.mono ?_
  rintro e w2 ⟨rfl, hb⟩
  go_wp2
  refine bodyPost_end (results_none rfl _ _ _) rfl ?_
  exact ⟨rfl, hb⟩
set_option maxRecDepth 10000 in
theorem pass_yes (w : World) (P : Nat) (t : Tk) (ts : List Tk) (en : Nat) (p : Int) (h : Ey w P (t :: ts) en 0 p) :
    Calls Tryz.prog 72 #[.pointer (some ⟨P, 0, none⟩)] w fun e w' => e = .returned (.string (tx t.t)) ∧ Ey w' P ts en 0 p ∧ Gp P w w' := by
  have cT := text_at w P (t :: ts) en 0 p h
  rw [show see 0 en (t :: ts) = t.t from if_pos rfl] at cT
  have HE : Hid (Ey w P (t :: ts) en 0 p) := h
  have hne := (h.tok t (by simp)).1.1
  have hem : (tx t.t).toList.isEmpty = false := by
    rw [tl_tx]
    cases h : t.t with
    | nil => exact absurd h hne
    | cons c r => rfl
  clear h hne
  obtain ⟨S, hS⟩ : ∃ S, S = tx t.t := ⟨_, rfl⟩
  rw [← hS] at cT hem ⊢
  clear hS
  go_enter Tryz.func72, Tryz.ntmps72
  go_wp2_with fail
  refine cT.mono ?_
  rintro e w2 ⟨rfl, hb⟩
  have HE2 : Hid (Ey w2 P (t :: ts) en 0 p ∧ Bl w w2) := ⟨HE.out.step hb, hb⟩
  obtain ⟨q, k, h1, h2, h3, h4⟩ := HE2.out.1.ex
  have hl := HE2.out.1.len
  obtain ⟨n, hn⟩ : ∃ n, n = ts.length := ⟨_, rfl⟩
  have hx : ∃ x, q = some x := by
    rcases h3 with h | ⟨x, h, _⟩
    · cases h
    · exact ⟨x, h⟩
  obtain ⟨x, rfl⟩ := hx
  obtain ⟨q1, q2, q3⟩ := h3.cut rfl h2
  have hc1 : 1 ≤ k := by simp at h2; omega
  have hlc : (t :: ts).length = n + 1 := by simp [hn]
  rw [hlc] at h1 h2 hl
  obtain ⟨xb1, xb2⟩ := h4 x rfl
  have hP := lt_of_heap h1
  have c0 : w2.cell? ⟨P, 0, none⟩ = some (.slice (some x) (n + 1) k) := by rw [cell_of h1]; rfl
  have z0 : w2.frozen? ⟨P, 0, none⟩ = false := by simp [World.frozen?, h1]
  obtain ⟨Q, hQ⟩ : ∃ Q, Q = (if k = 1 then some x else some ⟨x.block, x.off + 2, none⟩) := ⟨_, rfl⟩
  have hQ' : (if k = 1 then some x else some ⟨x.block, x.off + 2, none⟩) = Q := hQ.symm
  rw [← hQ] at q1
  have HQ : Hid (tr.In w2 Q ts ∧ n = ts.length ∧ ts.length ≤ k - 1 ∧ (∀ y, Q = some y → y.block = x.block) ∧ x.block < w2.heap.size ∧ x.block < P ∧ w2.heap[P]? = some (.cells #[.slice (some x) (n + 1) k, .int .i64 (en : Int), .int .i64 0, .int .i64 p] 91 (0, 0))) := by
    refine ⟨q1, hn, q3, fun y hy => ?_, xb1, xb2, h1⟩
    rw [hQ] at hy
    split at hy
    · injection hy with hy; rw [← hy]
    · injection hy with hy; rw [← hy]
  clear h1 h3 h4 hb cT q1 q2 q3 hQ hn hlc xb1 xb2
  go_wp2
  go_ret
  obtain ⟨s1, s2, s3, s4, r3, r4, h1⟩ := HQ.out
  have hg : Gp P w2 (w2.setCell ⟨P, 0, none⟩ (.slice Q n (k - 1))) := Gp.set _
  refine ⟨rfl, ⟨⟨Q, k - 1, ?_, s3, In.gp s1 hg (fun y hy => by have := s4 y hy; rw [this]; exact ⟨r3, Nat.ne_of_lt r4⟩), fun y hy => ?_⟩, by have := HE.out.len; simp at this; omega, fun u hu => HE.out.tok u (by simp [hu])⟩, (Gp.bl HE2.out.2).trans hg⟩
  · show _ = some (Obj.cells #[.slice Q ts.length (k - 1), _, _, _] _ _)
    rw [← s2]
    simp [World.setCell, Array.getElem?_modify, h1]
  · have := s4 y hy
    rw [this]
    exact ⟨Nat.lt_of_lt_of_le r3 hg.size, r4⟩
theorem pass_no (w : World) (P : Nat) (ts : List Tk) (en : Nat) (c p : Int) (h : Ey w P ts en c p) (hc : c ≠ 0) :
    Calls Tryz.prog 72 #[.pointer (some ⟨P, 0, none⟩)] w fun e w' => e = .returned (.string ⟨#[]⟩) ∧ Bl w w' := by
  have cT := text_at w P ts en c p h
  rw [show see c en ts = [] from if_neg hc] at cT
  have cP := fun wx (hb : Bl w wx) => place_at wx P ts en c p (h.step hb)
  have cW := fun wx (hb : Bl w wx) a b => wrong_no wx P ts en c p a b (h.step hb) hc
  have hem : (tx ([] : List UInt8)).toList.isEmpty = true := by rw [tl_tx]; rfl
  clear h hc
  generalize tx ([] : List UInt8) = S at *
  go_enter Tryz.func72, Tryz.ntmps72
  go_wp2_with fail
  refine cT.mono ?_
  rintro e w2 ⟨rfl, hb⟩
  go_wp2_with fail
  refine (cP _ hb).mono ?_
  rintro e w3 ⟨rfl, rfl⟩
  go_wp2_with fail
  refine (cW _ hb _ _).mono ?_
  rintro e w4 ⟨rfl, hb4⟩
  go_wp2
  go_ret
  exact ⟨rfl, hb.trans hb4⟩
theorem take_yes (w : World) (P : Nat) (t : Tk) (ts : List Tk) (en : Nat) (p : Int) (h : Ey w P (t :: ts) en 0 p) :
    Calls Tryz.prog 68 #[.pointer (some ⟨P, 0, none⟩), .string (tx t.t)] w fun e w' => e = .returned (.bool true) ∧ Ey w' P ts en 0 p ∧ Gp P w w' := by
  have cT := text_at w P (t :: ts) en 0 p h
  rw [show see 0 en (t :: ts) = t.t from if_pos rfl] at cT
  have cP := fun wx (hb : Bl w wx) => pass_yes wx P t ts en p (h.step hb)
  clear h
  generalize tx t.t = S at *
  have hq : (S.toList == S.toList) = true := by simp
  go_enter Tryz.func68, Tryz.ntmps68
  go_wp2_with fail
  refine cT.mono ?_
  rintro e w2 ⟨rfl, hb⟩
  go_wp2_with fail
  refine (cP _ hb).mono ?_
  rintro e w3 ⟨rfl, hE, hg⟩
  go_wp2
  go_ret
  exact ⟨rfl, hE, (Gp.bl hb).trans hg⟩
theorem take_no (w : World) (P : Nat) (ts : List Tk) (en : Nat) (c p : Int) (s : List UInt8) (h : Ey w P ts en c p) (hs : see c en ts ≠ s) :
    Calls Tryz.prog 68 #[.pointer (some ⟨P, 0, none⟩), .string (tx s)] w fun e w' => e = .returned (.bool false) ∧ Bl w w' := by
  have cT := text_at w P ts en c p h
  have hq : ((tx (see c en ts)).toList == (tx s).toList) = false := by rw [tl_tx, tl_tx, beq_eq_false_iff_ne]; exact hs
  clear h hs
  generalize tx (see c en ts) = S at *
  generalize tx s = S' at *
  go_enter Tryz.func68, Tryz.ntmps68
  go_wp2_with fail
  refine cT.mono ?_
  rintro e w2 ⟨rfl, hb⟩
  go_wp2
  go_ret
  exact ⟨rfl, hb⟩
theorem hold_at (t : List UInt8) (w : World) : Calls Tryz.prog 143 #[.string (tx t)] w fun e w' => e = .returned (.int .i64 (bd t : Int)) ∧ w' = w := by
  by_cases h0 : t = [61, 61]
  · subst h0
    show Calls Tryz.prog _ #[.string ⟨#[61, 61]⟩] w fun e w' => e = .returned (.int .i64 1) ∧ w' = w
    go_enter Tryz.func143, Tryz.ntmps143
    go_wp2
    go_ret
    exact ⟨rfl, rfl⟩
  by_cases h1 : t = [33, 61]
  · subst h1
    show Calls Tryz.prog _ #[.string ⟨#[33, 61]⟩] w fun e w' => e = .returned (.int .i64 1) ∧ w' = w
    go_enter Tryz.func143, Tryz.ntmps143
    go_wp2
    go_ret
    exact ⟨rfl, rfl⟩
  by_cases h2 : t = [60]
  · subst h2
    show Calls Tryz.prog _ #[.string ⟨#[60]⟩] w fun e w' => e = .returned (.int .i64 1) ∧ w' = w
    go_enter Tryz.func143, Tryz.ntmps143
    go_wp2
    go_ret
    exact ⟨rfl, rfl⟩
  by_cases h3 : t = [62]
  · subst h3
    show Calls Tryz.prog _ #[.string ⟨#[62]⟩] w fun e w' => e = .returned (.int .i64 1) ∧ w' = w
    go_enter Tryz.func143, Tryz.ntmps143
    go_wp2
    go_ret
    exact ⟨rfl, rfl⟩
  by_cases h4 : t = [43]
  · subst h4
    show Calls Tryz.prog _ #[.string ⟨#[43]⟩] w fun e w' => e = .returned (.int .i64 2) ∧ w' = w
    go_enter Tryz.func143, Tryz.ntmps143
    go_wp2
    go_ret
    exact ⟨rfl, rfl⟩
  by_cases h5 : t = [45]
  · subst h5
    show Calls Tryz.prog _ #[.string ⟨#[45]⟩] w fun e w' => e = .returned (.int .i64 2) ∧ w' = w
    go_enter Tryz.func143, Tryz.ntmps143
    go_wp2
    go_ret
    exact ⟨rfl, rfl⟩
  by_cases h6 : t = [124]
  · subst h6
    show Calls Tryz.prog _ #[.string ⟨#[124]⟩] w fun e w' => e = .returned (.int .i64 2) ∧ w' = w
    go_enter Tryz.func143, Tryz.ntmps143
    go_wp2
    go_ret
    exact ⟨rfl, rfl⟩
  by_cases h7 : t = [42]
  · subst h7
    show Calls Tryz.prog _ #[.string ⟨#[42]⟩] w fun e w' => e = .returned (.int .i64 3) ∧ w' = w
    go_enter Tryz.func143, Tryz.ntmps143
    go_wp2
    go_ret
    exact ⟨rfl, rfl⟩
  by_cases h8 : t = [38]
  · subst h8
    show Calls Tryz.prog _ #[.string ⟨#[38]⟩] w fun e w' => e = .returned (.int .i64 3) ∧ w' = w
    go_enter Tryz.func143, Tryz.ntmps143
    go_wp2
    go_ret
    exact ⟨rfl, rfl⟩
  have e0 : bd t = 0 := by unfold bd; rw [if_neg (by simp [h0, h1, h2, h3]), if_neg (by simp [h4, h5, h6]), if_neg (by simp [h7, h8])]
  have htl := tl_tx t
  have n0 : (t == [61, 61]) = false := by rw [beq_eq_false_iff_ne]; exact h0
  have n1 : (t == [33, 61]) = false := by rw [beq_eq_false_iff_ne]; exact h1
  have n2 : (t == [60]) = false := by rw [beq_eq_false_iff_ne]; exact h2
  have n3 : (t == [62]) = false := by rw [beq_eq_false_iff_ne]; exact h3
  have n4 : (t == [43]) = false := by rw [beq_eq_false_iff_ne]; exact h4
  have n5 : (t == [45]) = false := by rw [beq_eq_false_iff_ne]; exact h5
  have n6 : (t == [124]) = false := by rw [beq_eq_false_iff_ne]; exact h6
  have n7 : (t == [42]) = false := by rw [beq_eq_false_iff_ne]; exact h7
  have n8 : (t == [38]) = false := by rw [beq_eq_false_iff_ne]; exact h8
  rw [e0]
  generalize tx t = S at *
  clear h0 h1 h2 h3 h4 h5 h6 h7 h8 e0
  go_enter Tryz.func143, Tryz.ntmps143
  go_wp2
  go_ret
  exact ⟨rfl, rfl⟩
end Go.Proofs.YtococaecjecjgaaGreatDoor.ex
namespace Go.Proofs.YtococaecjecjgaaGreatDoor.digs
open Go.ChangeShapes Go.WideShapes Go.ChangeAt Go.RowKit
open mem dig

theorem within_yes (a l h : Int) (w : World) (h1 : l ≤ a) (h2 : a ≤ h) : Calls Tryz.prog 77 #[.int .i64 a, .int .i64 l, .int .i64 h] w fun e w' => e = .returned (.bool true) ∧ w' = w := by
  have hd : decide (a ≤ h) = true := by simpa using h2
  clear h2
  go_enter Tryz.func77, Tryz.ntmps77
  go_wp2
  go_ret
  exact ⟨rfl, rfl⟩
theorem within_no (a l h : Int) (w : World) (hn : a < l ∨ h < a) : Calls Tryz.prog 77 #[.int .i64 a, .int .i64 l, .int .i64 h] w fun e w' => e = .returned (.bool false) ∧ w' = w := by
  by_cases h1 : a < l
  · clear hn
    go_enter Tryz.func77, Tryz.ntmps77
    go_wp2
    go_ret
    exact ⟨rfl, rfl⟩
  · have h2 : h < a := by omega
    have hd : decide (a ≤ h) = false := by simp; omega
    clear hn
    go_enter Tryz.func77, Tryz.ntmps77
    go_wp2
    go_ret
    exact ⟨rfl, rfl⟩
set_option maxHeartbeats 4000000 in
set_option maxRecDepth 8000 in
theorem refDigit_at (c : Int) (w : World) (h0 : 0 ≤ c) (h1 : c < 256) : Calls Tryz.prog 199 #[.int .u8 c] w fun e w' => e = .returned (.int .i64 (dv c)) ∧ Gb w w' := by
  go_enter Tryz.func199, Tryz.ntmps199
  go_wp2
  refine wp_loop_rounds 17 ?_
  rw [rounds_succ]
  go_wp2
  refine wp_loop_rounds 3 ?_
  rw [rounds_succ]
  go_wp2
  · have hc : ((48 : Int) == c) = true := by assumption
    have hc' : c = 48 := by simpa using (beq_iff_eq.1 hc).symm
    go_ret
    exact ⟨ret_int (by rw [hc']; decide), Gb.alloc (Gb.refl _) _ _⟩
  have n48 : ((48 : Int) == c) = false := by assumption
  rw [rounds_succ]
  go_wp2
  rw [rounds_succ]
  go_wp2
  refine wp_loop_rounds 3 ?_
  rw [rounds_succ]
  go_wp2
  · have hc : ((49 : Int) == c) = true := by assumption
    have hc' : c = 49 := by simpa using (beq_iff_eq.1 hc).symm
    go_ret
    exact ⟨ret_int (by rw [hc']; decide), Gb.alloc (Gb.refl _) _ _⟩
  have n49 : ((49 : Int) == c) = false := by assumption
  rw [rounds_succ]
  go_wp2
  rw [rounds_succ]
  go_wp2
  refine wp_loop_rounds 3 ?_
  rw [rounds_succ]
  go_wp2
  · have hc : ((50 : Int) == c) = true := by assumption
    have hc' : c = 50 := by simpa using (beq_iff_eq.1 hc).symm
    go_ret
    exact ⟨ret_int (by rw [hc']; decide), Gb.alloc (Gb.refl _) _ _⟩
  have n50 : ((50 : Int) == c) = false := by assumption
  rw [rounds_succ]
  go_wp2
  rw [rounds_succ]
  go_wp2
  refine wp_loop_rounds 3 ?_
  rw [rounds_succ]
  go_wp2
  · have hc : ((51 : Int) == c) = true := by assumption
    have hc' : c = 51 := by simpa using (beq_iff_eq.1 hc).symm
    go_ret
    exact ⟨ret_int (by rw [hc']; decide), Gb.alloc (Gb.refl _) _ _⟩
  have n51 : ((51 : Int) == c) = false := by assumption
  rw [rounds_succ]
  go_wp2
  rw [rounds_succ]
  go_wp2
  refine wp_loop_rounds 3 ?_
  rw [rounds_succ]
  go_wp2
  · have hc : ((52 : Int) == c) = true := by assumption
    have hc' : c = 52 := by simpa using (beq_iff_eq.1 hc).symm
    go_ret
    exact ⟨ret_int (by rw [hc']; decide), Gb.alloc (Gb.refl _) _ _⟩
  have n52 : ((52 : Int) == c) = false := by assumption
  rw [rounds_succ]
  go_wp2
  rw [rounds_succ]
  go_wp2
  refine wp_loop_rounds 3 ?_
  rw [rounds_succ]
  go_wp2
  · have hc : ((53 : Int) == c) = true := by assumption
    have hc' : c = 53 := by simpa using (beq_iff_eq.1 hc).symm
    go_ret
    exact ⟨ret_int (by rw [hc']; decide), Gb.alloc (Gb.refl _) _ _⟩
  have n53 : ((53 : Int) == c) = false := by assumption
  rw [rounds_succ]
  go_wp2
  rw [rounds_succ]
  go_wp2
  refine wp_loop_rounds 3 ?_
  rw [rounds_succ]
  go_wp2
  · have hc : ((54 : Int) == c) = true := by assumption
    have hc' : c = 54 := by simpa using (beq_iff_eq.1 hc).symm
    go_ret
    exact ⟨ret_int (by rw [hc']; decide), Gb.alloc (Gb.refl _) _ _⟩
  have n54 : ((54 : Int) == c) = false := by assumption
  rw [rounds_succ]
  go_wp2
  rw [rounds_succ]
  go_wp2
  refine wp_loop_rounds 3 ?_
  rw [rounds_succ]
  go_wp2
  · have hc : ((55 : Int) == c) = true := by assumption
    have hc' : c = 55 := by simpa using (beq_iff_eq.1 hc).symm
    go_ret
    exact ⟨ret_int (by rw [hc']; decide), Gb.alloc (Gb.refl _) _ _⟩
  have n55 : ((55 : Int) == c) = false := by assumption
  rw [rounds_succ]
  go_wp2
  rw [rounds_succ]
  go_wp2
  refine wp_loop_rounds 3 ?_
  rw [rounds_succ]
  go_wp2
  · have hc : ((56 : Int) == c) = true := by assumption
    have hc' : c = 56 := by simpa using (beq_iff_eq.1 hc).symm
    go_ret
    exact ⟨ret_int (by rw [hc']; decide), Gb.alloc (Gb.refl _) _ _⟩
  have n56 : ((56 : Int) == c) = false := by assumption
  rw [rounds_succ]
  go_wp2
  rw [rounds_succ]
  go_wp2
  refine wp_loop_rounds 3 ?_
  rw [rounds_succ]
  go_wp2
  · have hc : ((57 : Int) == c) = true := by assumption
    have hc' : c = 57 := by simpa using (beq_iff_eq.1 hc).symm
    go_ret
    exact ⟨ret_int (by rw [hc']; decide), Gb.alloc (Gb.refl _) _ _⟩
  have n57 : ((57 : Int) == c) = false := by assumption
  rw [rounds_succ]
  go_wp2
  rw [rounds_succ]
  go_wp2
  refine wp_loop_rounds 3 ?_
  rw [rounds_succ]
  go_wp2
  · have hc : ((97 : Int) == c) = true := by assumption
    have hc' : c = 97 := by simpa using (beq_iff_eq.1 hc).symm
    go_ret
    exact ⟨ret_int (by rw [hc']; decide), Gb.alloc (Gb.refl _) _ _⟩
  have n97 : ((97 : Int) == c) = false := by assumption
  rw [rounds_succ]
  go_wp2
  · have hc : ((65 : Int) == c) = true := by assumption
    have hc' : c = 65 := by simpa using (beq_iff_eq.1 hc).symm
    go_ret
    exact ⟨ret_int (by rw [hc']; decide), Gb.alloc (Gb.refl _) _ _⟩
  have n65 : ((65 : Int) == c) = false := by assumption
  rw [rounds_succ]
  go_wp2
  rw [rounds_succ]
  go_wp2
  refine wp_loop_rounds 3 ?_
  rw [rounds_succ]
  go_wp2
  · have hc : ((98 : Int) == c) = true := by assumption
    have hc' : c = 98 := by simpa using (beq_iff_eq.1 hc).symm
    go_ret
    exact ⟨ret_int (by rw [hc']; decide), Gb.alloc (Gb.refl _) _ _⟩
  have n98 : ((98 : Int) == c) = false := by assumption
  rw [rounds_succ]
  go_wp2
  · have hc : ((66 : Int) == c) = true := by assumption
    have hc' : c = 66 := by simpa using (beq_iff_eq.1 hc).symm
    go_ret
    exact ⟨ret_int (by rw [hc']; decide), Gb.alloc (Gb.refl _) _ _⟩
  have n66 : ((66 : Int) == c) = false := by assumption
  rw [rounds_succ]
  go_wp2
  rw [rounds_succ]
  go_wp2
  refine wp_loop_rounds 3 ?_
  rw [rounds_succ]
  go_wp2
  · have hc : ((99 : Int) == c) = true := by assumption
    have hc' : c = 99 := by simpa using (beq_iff_eq.1 hc).symm
    go_ret
    exact ⟨ret_int (by rw [hc']; decide), Gb.alloc (Gb.refl _) _ _⟩
  have n99 : ((99 : Int) == c) = false := by assumption
  rw [rounds_succ]
  go_wp2
  · have hc : ((67 : Int) == c) = true := by assumption
    have hc' : c = 67 := by simpa using (beq_iff_eq.1 hc).symm
    go_ret
    exact ⟨ret_int (by rw [hc']; decide), Gb.alloc (Gb.refl _) _ _⟩
  have n67 : ((67 : Int) == c) = false := by assumption
  rw [rounds_succ]
  go_wp2
  rw [rounds_succ]
  go_wp2
  refine wp_loop_rounds 3 ?_
  rw [rounds_succ]
  go_wp2
  · have hc : ((100 : Int) == c) = true := by assumption
    have hc' : c = 100 := by simpa using (beq_iff_eq.1 hc).symm
    go_ret
    exact ⟨ret_int (by rw [hc']; decide), Gb.alloc (Gb.refl _) _ _⟩
  have n100 : ((100 : Int) == c) = false := by assumption
  rw [rounds_succ]
  go_wp2
  · have hc : ((68 : Int) == c) = true := by assumption
    have hc' : c = 68 := by simpa using (beq_iff_eq.1 hc).symm
    go_ret
    exact ⟨ret_int (by rw [hc']; decide), Gb.alloc (Gb.refl _) _ _⟩
  have n68 : ((68 : Int) == c) = false := by assumption
  rw [rounds_succ]
  go_wp2
  rw [rounds_succ]
  go_wp2
  refine wp_loop_rounds 3 ?_
  rw [rounds_succ]
  go_wp2
  · have hc : ((101 : Int) == c) = true := by assumption
    have hc' : c = 101 := by simpa using (beq_iff_eq.1 hc).symm
    go_ret
    exact ⟨ret_int (by rw [hc']; decide), Gb.alloc (Gb.refl _) _ _⟩
  have n101 : ((101 : Int) == c) = false := by assumption
  rw [rounds_succ]
  go_wp2
  · have hc : ((69 : Int) == c) = true := by assumption
    have hc' : c = 69 := by simpa using (beq_iff_eq.1 hc).symm
    go_ret
    exact ⟨ret_int (by rw [hc']; decide), Gb.alloc (Gb.refl _) _ _⟩
  have n69 : ((69 : Int) == c) = false := by assumption
  rw [rounds_succ]
  go_wp2
  rw [rounds_succ]
  go_wp2
  refine wp_loop_rounds 3 ?_
  rw [rounds_succ]
  go_wp2
  · have hc : ((102 : Int) == c) = true := by assumption
    have hc' : c = 102 := by simpa using (beq_iff_eq.1 hc).symm
    go_ret
    exact ⟨ret_int (by rw [hc']; decide), Gb.alloc (Gb.refl _) _ _⟩
  have n102 : ((102 : Int) == c) = false := by assumption
  rw [rounds_succ]
  go_wp2
  · have hc : ((70 : Int) == c) = true := by assumption
    have hc' : c = 70 := by simpa using (beq_iff_eq.1 hc).symm
    go_ret
    exact ⟨ret_int (by rw [hc']; decide), Gb.alloc (Gb.refl _) _ _⟩
  have n70 : ((70 : Int) == c) = false := by assumption
  rw [rounds_succ]
  go_wp2
  rw [rounds_succ]
  go_wp2
  go_ret
  refine ⟨ret_int ?_, Gb.alloc (Gb.refl _) _ _⟩
  simp only [beq_eq_false_iff_ne, ne_eq] at n48 n49 n50 n51 n52 n53 n54 n55 n56 n57 n97 n65 n98 n66 n99 n67 n100 n68 n101 n69 n102 n70
  unfold dv
  (repeat' split) <;> omega
end Go.Proofs.YtococaecjecjgaaGreatDoor.digs
namespace Go.Proofs.YtococaecjecjgaaGreatDoor.digs
open Go.ChangeShapes Go.WideShapes Go.ChangeAt Go.RowKit
open mem dig

theorem hide {p : Prop} (h : p) : Hid p := h
theorem and32 (a : Nat) (ha : a < 18446744073709551616) : bits .and .u64 (a : Int) 4294967295 = ((a % 4294967296 : Nat) : Int) := by
  have h := bits_and_u64_nat a 4294967295 ha (by omega)
  rw [show a &&& 4294967295 = a % 4294967296 from Nat.and_two_pow_sub_one_eq_mod a 32] at h
  exact h
theorem u64N (a : Nat) (ha : a < 18446744073709551616) : IntKind.u64.wrap (a : Int) = (a : Int) := by rw [IntKind.wrap_u64]; omega
theorem mul64_at (x B H L : Nat) (w : World) (hx : x < 18446744073709551616) (hb : B ≤ 16) (hH : H = x * B / 18446744073709551616) (hL : L = x * B % 18446744073709551616) :
    Calls Tryz.prog 200 #[.int .u64 x, .int .u64 B] w fun e w' => e = .returned (.tuple #[.int .u64 H, .int .u64 L]) ∧ w' = w := by
  have a1 := and32 x hx
  have a2 := and32 B (by omega)
  rw [Nat.mod_eq_of_lt (show B < 4294967296 by omega)] at a2
  obtain ⟨X0, h0⟩ : ∃ X0, X0 = x % 4294967296 := ⟨_, rfl⟩
  obtain ⟨X1, h1⟩ : ∃ X1, X1 = x / 4294967296 := ⟨_, rfl⟩
  obtain ⟨P0, p0⟩ : ∃ P0, P0 = X0 * B := ⟨_, rfl⟩
  obtain ⟨P1, p1⟩ : ∃ P1, P1 = X1 * B := ⟨_, rfl⟩
  have l0 : P0 ≤ X0 * 16 := by rw [p0]; exact Nat.mul_le_mul_left _ hb
  have l1 : P1 ≤ X1 * 16 := by rw [p1]; exact Nat.mul_le_mul_left _ hb
  have hxx : x * B = P1 * 4294967296 + P0 := by
    have e : x = X1 * 4294967296 + X0 := by omega
    rw [e, Nat.add_mul, p0, p1, Nat.mul_right_comm]
  rw [hxx] at hH hL
  obtain ⟨Q0, q0⟩ : ∃ Q0, Q0 = P0 / 4294967296 := ⟨_, rfl⟩
  obtain ⟨T, t⟩ : ∃ T, T = P1 + Q0 := ⟨_, rfl⟩
  obtain ⟨T0, t0⟩ : ∃ T0, T0 = T % 4294967296 := ⟨_, rfl⟩
  rw [← h0] at a1
  have b1 : (x : Int) / 4294967296 = (X1 : Int) := by omega
  have b2 : (B : Int) / 4294967296 = 0 := by omega
  have b3 : IntKind.u64.wrap ((X1 : Int) * (B : Int)) = (P1 : Int) := by rw [← Int.natCast_mul, ← p1]; exact u64N _ (by omega)
  have b4 : IntKind.u64.wrap ((X0 : Int) * (B : Int)) = (P0 : Int) := by rw [← Int.natCast_mul, ← p0]; exact u64N _ (by omega)
  have b5 : (P0 : Int) / 4294967296 = (Q0 : Int) := by omega
  have b6 : IntKind.u64.wrap ((P1 : Int) + (Q0 : Int)) = (T : Int) := by rw [← Int.natCast_add, ← t]; exact u64N _ (by omega)
  have b7 : bits .and .u64 (T : Int) 4294967295 = (T0 : Int) := by rw [t0]; exact and32 T (by omega)
  have b8 : (T : Int) / 4294967296 = (H : Int) := by omega
  have b9 : IntKind.u64.wrap ((x : Int) * (B : Int)) = (L : Int) := by rw [← Int.natCast_mul, hxx, IntKind.wrap_u64]; omega
  have c0 : IntKind.u64.wrap (T0 : Int) = (T0 : Int) := u64N _ (by omega)
  have c1 : (T0 : Int) / 4294967296 = 0 := by omega
  have c2 : IntKind.u64.wrap (H : Int) = (H : Int) := u64N _ (by omega)
  clear hH hL h0 h1 p0 p1 l0 l1 hxx q0 t t0
  go_enter Tryz.func200, Tryz.ntmps200
  go_wp2
  go_ret2
  exact ⟨by simp [*], rfl⟩
theorem add64_run (x y S C : Nat) (hS : S = (x + y) % 18446744073709551616) (hC : C = (x + y) / 18446744073709551616) (w : World) :
    (callFunc 201 #[.int .u64 (x : Int), .int .u64 (y : Int), .int .u64 0]).run Tryz.prog w = .ok (.value (.tuple #[.int .u64 (S : Int), .int .u64 (C : Int)])) w := by
  rw [run_callFunc_extern Tryz.func201 (by kernel_rfl) (by kernel_rfl) (by kernel_rfl) (e := add64Entry) (by kernel_rfl), run_add64 x y 0 (by omega) (by omega) (by omega) (by omega)]
  simp only [Result.andThen]
  have e1 : ((x : Int) + (y : Int) + 0) % 18446744073709551616 = (S : Int) := by omega
  have e2 : ((x : Int) + (y : Int) + 0) / 18446744073709551616 = (C : Int) := by omega
  rw [e1, e2]
def Kn (B : Nat) (s : ByteArray) (k N h : Nat) : Prop := (h = 0 ∧ N = pv B s k) ∨ (h = 1 ∧ 18446744073709551616 ≤ pv B s k)
theorem Kn.step {B : Nat} {s : ByteArray} {k N h D H L S C : Nat} (hb : 2 ≤ B) (h0 : Kn B s k N h) (hD : dv (sb s k) = (D : Int)) (hH : H = N * B / 18446744073709551616) (hL : L = N * B % 18446744073709551616)
    (hS : S = (L + D) % 18446744073709551616) (hC : C = (L + D) / 18446744073709551616) : Kn B s (k + 1) S (if 0 < H + C ∨ 0 < h then 1 else 0) := by
  have e : pv B s (k + 1) = pv B s k * B + D := by rw [pv, hD]; rfl
  rcases h0 with ⟨rfl, rfl⟩ | ⟨rfl, h0⟩
  · by_cases hc : 0 < H + C
    · rw [if_pos (Or.inl hc)]
      refine Or.inr ⟨rfl, ?_⟩
      rw [e]
      omega
    · rw [if_neg (by omega)]
      refine Or.inl ⟨rfl, ?_⟩
      rw [e]
      omega
  · rw [if_pos (Or.inr (by omega))]
    exact Or.inr ⟨rfl, Nat.le_trans h0 (pv_mono B s hb k (k + 1) (by omega))⟩
set_option maxHeartbeats 1000000 in
theorem refParse_good (B : Nat) (s : ByteArray) (w : World) (hs : s.size ≤ 140737488351232) (hb2 : 2 ≤ B) (hb16 : B ≤ 16) (h : okD B s) (v : Nat) (e : Int)
    (hv : (v = pv B s s.size ∧ v < 18446744073709551616 ∧ e = 0) ∨ (18446744073709551616 ≤ pv B s s.size ∧ v = 0 ∧ e = 2)) :
    Calls Tryz.prog 186 #[.string s, .int .i64 B] w fun e' w' => e' = .returned (.tuple #[.int .u64 v, .int .i64 e]) ∧ Gb w w' := by
  have HO : Hid (okD B s) := h
  have HV : Hid ((v = pv B s s.size ∧ v < 18446744073709551616 ∧ e = 0) ∨ (18446744073709551616 ≤ pv B s s.size ∧ v = 0 ∧ e = 2)) := hv
  have hp : 0 < s.size := h.1
  have he : s.toList.isEmpty = false := by rw [isEmpty_at]; exact decide_eq_false (by omega)
  have hw1 : IntKind.i64.wrap ((B : Int) - 1) = (B : Int) - 1 := by rw [IntKind.wrap_i64]; omega
  clear h hv
  go_enter Tryz.func186, Tryz.ntmps186
  go_wp2_with (go_at_call 77; refine (within_yes _ _ _ _ (by omega) (by omega)).mono ?_; rintro e w1 ⟨rfl, rfl⟩)
  go_loopw [6, 7, 8] (fun hi n i wr => ∃ k N h : Nat, k ≤ s.size ∧ i = .int .i64 (k : Int) ∧ n = .int .u64 (N : Int) ∧ hi = .int .u64 (h : Int) ∧ N < 18446744073709551616 ∧ Hid (Kn B s k N h) ∧ Gb w1 wr) (fun _ _ i _ => s.size - (intOf i).toNat)
  case atStart => exact ⟨0, 0, 0, Nat.zero_le _, rfl, rfl, rfl, by omega, Or.inl ⟨rfl, rfl⟩, Gb.refl _⟩
  case round =>
    obtain ⟨k, N, h, hk, rfl, rfl, rfl, hNl, HK, hgb⟩ := hrel
    by_cases hlt : k < s.size
    · have hgk : (((s[k]'hlt).toNat : Nat) : Int) = sb s k := (sb_get s k hlt).symm
      have hb := sb_bd s k
      have hd := HO.out.2 k hlt
      obtain ⟨D, hD⟩ := Int.eq_ofNat_of_zero_le hd.1
      obtain ⟨H, hH⟩ : ∃ H, H = N * B / 18446744073709551616 := ⟨_, rfl⟩
      obtain ⟨L, hL⟩ : ∃ L, L = N * B % 18446744073709551616 := ⟨_, rfl⟩
      obtain ⟨S, hS⟩ : ∃ S, S = (L + D) % 18446744073709551616 := ⟨_, rfl⟩
      obtain ⟨C, hC⟩ : ∃ C, C = (L + D) / 18446744073709551616 := ⟨_, rfl⟩
      have hst := HK.out.step hb2 hD hH hL hS hC
      have hH16 : H ≤ 16 := by
        have : N * B ≤ N * 16 := Nat.mul_le_mul_left _ hb16
        omega
      have hC1 : C ≤ 1 := by omega
      have hSl : S < 18446744073709551616 := by omega
      have hr := add64_run L D S C hS hC
      have hwd : IntKind.u64.wrap (D : Int) = (D : Int) := u64N _ (by omega)
      have hwc : IntKind.u64.wrap ((H : Int) + (C : Int)) = (H : Int) + (C : Int) := by rw [IntKind.wrap_u64]; omega
      have HH : Hid (H = N * B / 18446744073709551616) := hH
      have HL : Hid (L = N * B % 18446744073709551616) := hL
      have HST := hide hst
      have hl0 : (0 : Int) ≤ (D : Int) := by omega
      have hl1 : (D : Int) ≤ (B : Int) - 1 := by omega
      clear hH hL hS hC hst hd
      by_cases hc : 0 < H + C
      · have tc : (0 : Int) < (H : Int) + (C : Int) := by omega
        go_wp2_with (first | (go_at_call_of 77 (Value.int IntKind.i64 16); refine (within_yes _ _ _ _ (by omega) (by omega)).mono ?_; rintro e w1 ⟨rfl, rfl⟩) | (go_at_call 199; refine (refDigit_at _ _ (by omega) (by omega)).mono ?_; rintro e w2 ⟨rfl, g2⟩) | (go_at_call 77; refine (within_yes _ _ _ _ (by omega) (by omega)).mono ?_; rintro e w3 ⟨rfl, rfl⟩) | (go_at_call 200; refine (mul64_at N B H L _ hNl (by omega) HH.out HL.out).mono ?_; rintro e w4 ⟨rfl, rfl⟩))
        go_roundw
        case rel => exact ⟨k + 1, S, 1, by omega, by go_num, rfl, rfl, hSl, by have := HST.out; rwa [if_pos (Or.inl hc)] at this, hgb.trans g2⟩
        case measure => simp [intOf]; omega
      · have tc : ¬ (0 : Int) < (H : Int) + (C : Int) := by omega
        by_cases hh : 0 < h
        · have th : (0 : Int) < (h : Int) := by omega
          go_wp2_with (first | (go_at_call_of 77 (Value.int IntKind.i64 16); refine (within_yes _ _ _ _ (by omega) (by omega)).mono ?_; rintro e w1 ⟨rfl, rfl⟩) | (go_at_call 199; refine (refDigit_at _ _ (by omega) (by omega)).mono ?_; rintro e w2 ⟨rfl, g2⟩) | (go_at_call 77; refine (within_yes _ _ _ _ (by omega) (by omega)).mono ?_; rintro e w3 ⟨rfl, rfl⟩) | (go_at_call 200; refine (mul64_at N B H L _ hNl (by omega) HH.out HL.out).mono ?_; rintro e w4 ⟨rfl, rfl⟩))
          go_roundw
          case rel => exact ⟨k + 1, S, 1, by omega, by go_num, rfl, rfl, hSl, by have := HST.out; rwa [if_pos (Or.inr hh)] at this, hgb.trans g2⟩
          case measure => simp [intOf]; omega
        · obtain rfl : h = 0 := by omega
          go_wp2_with (first | (go_at_call_of 77 (Value.int IntKind.i64 16); refine (within_yes _ _ _ _ (by omega) (by omega)).mono ?_; rintro e w1 ⟨rfl, rfl⟩) | (go_at_call 199; refine (refDigit_at _ _ (by omega) (by omega)).mono ?_; rintro e w2 ⟨rfl, g2⟩) | (go_at_call 77; refine (within_yes _ _ _ _ (by omega) (by omega)).mono ?_; rintro e w3 ⟨rfl, rfl⟩) | (go_at_call 200; refine (mul64_at N B H L _ hNl (by omega) HH.out HL.out).mono ?_; rintro e w4 ⟨rfl, rfl⟩))
          go_roundw
          case rel => exact ⟨k + 1, S, 0, by omega, by go_num, rfl, rfl, hSl, by have := HST.out; rwa [if_neg (by omega)] at this, hgb.trans g2⟩
          case measure => simp [intOf]; omega
    · obtain rfl : k = s.size := by omega
      rcases HK.out with ⟨rfl, hN⟩ | ⟨rfl, hN⟩
      · obtain ⟨hv, _, rfl⟩ : v = pv B s s.size ∧ v < 18446744073709551616 ∧ e = 0 := by
          rcases HV.out with h | h
          · exact h
          · omega
        obtain rfl : N = v := by omega
        clear hN hv HK HV
        go_wp2
        go_ret2
        exact ⟨rfl, hgb⟩
      · obtain ⟨_, rfl, rfl⟩ : 18446744073709551616 ≤ pv B s s.size ∧ v = 0 ∧ e = 2 := by
          rcases HV.out with h | h
          · omega
          · exact h
        clear hN HK HV
        go_wp2
        go_ret2
        exact ⟨rfl, hgb⟩
set_option maxHeartbeats 1000000 in
theorem refParse_bad (B : Nat) (s : ByteArray) (w : World) (hs : s.size ≤ 140737488351232) (hb2 : 2 ≤ B) (hb16 : B ≤ 16) (h : ¬ okD B s) :
    Calls Tryz.prog 186 #[.string s, .int .i64 B] w fun e' w' => e' = .returned (.tuple #[.int .u64 0, .int .i64 3]) ∧ Gb w w' := by
  have HO : Hid (¬ okD B s) := h
  have hw1 : IntKind.i64.wrap ((B : Int) - 1) = (B : Int) - 1 := by rw [IntKind.wrap_i64]; omega
  clear h
  by_cases hp : s.size = 0
  · have he : s.toList.isEmpty = true := by rw [isEmpty_at]; exact decide_eq_true hp
    clear hp
    go_enter Tryz.func186, Tryz.ntmps186
    go_wp2_with (go_at_call 77; refine (within_yes _ _ _ _ (by omega) (by omega)).mono ?_; rintro e w1 ⟨rfl, rfl⟩)
    go_ret2
    exact ⟨rfl, Gb.refl _⟩
  · have he : s.toList.isEmpty = false := by rw [isEmpty_at]; exact decide_eq_false hp
    go_enter Tryz.func186, Tryz.ntmps186
    go_wp2_with (go_at_call 77; refine (within_yes _ _ _ _ (by omega) (by omega)).mono ?_; rintro e w1 ⟨rfl, rfl⟩)
    go_loopw [6, 7, 8] (fun hi n i wr => ∃ k N h : Nat, k ≤ s.size ∧ i = .int .i64 (k : Int) ∧ n = .int .u64 (N : Int) ∧ hi = .int .u64 (h : Int) ∧ N < 18446744073709551616 ∧ h ≤ 1 ∧ Hid (∀ j, j < k → 0 ≤ dv (sb s j) ∧ dv (sb s j) < B) ∧ Gb w1 wr) (fun _ _ i _ => s.size - (intOf i).toNat)
    case atStart => exact ⟨0, 0, 0, Nat.zero_le _, rfl, rfl, rfl, by omega, by omega, fun j hj => by omega, Gb.refl _⟩
    case round =>
      obtain ⟨k, N, h, hk, rfl, rfl, rfl, hNl, hh1, HP, hgb⟩ := hrel
      by_cases hlt : k < s.size
      · have hgk : (((s[k]'hlt).toNat : Nat) : Int) = sb s k := (sb_get s k hlt).symm
        have hb := sb_bd s k
        by_cases hd : 0 ≤ dv (sb s k) ∧ dv (sb s k) < B
        · obtain ⟨D, hD⟩ := Int.eq_ofNat_of_zero_le hd.1
          obtain ⟨H, hH⟩ : ∃ H, H = N * B / 18446744073709551616 := ⟨_, rfl⟩
          obtain ⟨L, hL⟩ : ∃ L, L = N * B % 18446744073709551616 := ⟨_, rfl⟩
          obtain ⟨S, hS⟩ : ∃ S, S = (L + D) % 18446744073709551616 := ⟨_, rfl⟩
          obtain ⟨C, hC⟩ : ∃ C, C = (L + D) / 18446744073709551616 := ⟨_, rfl⟩
          have hH16 : H ≤ 16 := by
            have : N * B ≤ N * 16 := Nat.mul_le_mul_left _ hb16
            omega
          have hC1 : C ≤ 1 := by omega
          have hSl : S < 18446744073709551616 := by omega
          have hr := add64_run L D S C hS hC
          have hwd : IntKind.u64.wrap (D : Int) = (D : Int) := u64N _ (by omega)
          have hwc : IntKind.u64.wrap ((H : Int) + (C : Int)) = (H : Int) + (C : Int) := by rw [IntKind.wrap_u64]; omega
          have HH : Hid (H = N * B / 18446744073709551616) := hH
          have HL : Hid (L = N * B % 18446744073709551616) := hL
          have HP' : Hid (∀ j, j < k + 1 → 0 ≤ dv (sb s j) ∧ dv (sb s j) < B) := fun j hj => by
            rcases Nat.lt_or_ge j k with h | h
            · exact HP.out j h
            · obtain rfl : j = k := by omega
              exact hd
          have hl0 : (0 : Int) ≤ (D : Int) := by omega
          have hl1 : (D : Int) ≤ (B : Int) - 1 := by omega
          clear hH hL hS hC hd
          by_cases hc : 0 < H + C
          · have tc : (0 : Int) < (H : Int) + (C : Int) := by omega
            go_wp2_with (first | (go_at_call_of 77 (Value.int IntKind.i64 16); refine (within_yes _ _ _ _ (by omega) (by omega)).mono ?_; rintro e w1 ⟨rfl, rfl⟩) | (go_at_call 199; refine (refDigit_at _ _ (by omega) (by omega)).mono ?_; rintro e w2 ⟨rfl, g2⟩) | (go_at_call 77; refine (within_yes _ _ _ _ (by omega) (by omega)).mono ?_; rintro e w3 ⟨rfl, rfl⟩) | (go_at_call 200; refine (mul64_at N B H L _ hNl (by omega) HH.out HL.out).mono ?_; rintro e w4 ⟨rfl, rfl⟩))
            go_roundw
            case rel => exact ⟨k + 1, S, 1, by omega, by go_num, rfl, rfl, hSl, by omega, HP', hgb.trans g2⟩
            case measure => simp [intOf]; omega
          · have tc : ¬ (0 : Int) < (H : Int) + (C : Int) := by omega
            by_cases hh : 0 < h
            · have th : (0 : Int) < (h : Int) := by omega
              go_wp2_with (first | (go_at_call_of 77 (Value.int IntKind.i64 16); refine (within_yes _ _ _ _ (by omega) (by omega)).mono ?_; rintro e w1 ⟨rfl, rfl⟩) | (go_at_call 199; refine (refDigit_at _ _ (by omega) (by omega)).mono ?_; rintro e w2 ⟨rfl, g2⟩) | (go_at_call 77; refine (within_yes _ _ _ _ (by omega) (by omega)).mono ?_; rintro e w3 ⟨rfl, rfl⟩) | (go_at_call 200; refine (mul64_at N B H L _ hNl (by omega) HH.out HL.out).mono ?_; rintro e w4 ⟨rfl, rfl⟩))
              go_roundw
              case rel => exact ⟨k + 1, S, 1, by omega, by go_num, rfl, rfl, hSl, by omega, HP', hgb.trans g2⟩
              case measure => simp [intOf]; omega
            · obtain rfl : h = 0 := by omega
              go_wp2_with (first | (go_at_call_of 77 (Value.int IntKind.i64 16); refine (within_yes _ _ _ _ (by omega) (by omega)).mono ?_; rintro e w1 ⟨rfl, rfl⟩) | (go_at_call 199; refine (refDigit_at _ _ (by omega) (by omega)).mono ?_; rintro e w2 ⟨rfl, g2⟩) | (go_at_call 77; refine (within_yes _ _ _ _ (by omega) (by omega)).mono ?_; rintro e w3 ⟨rfl, rfl⟩) | (go_at_call 200; refine (mul64_at N B H L _ hNl (by omega) HH.out HL.out).mono ?_; rintro e w4 ⟨rfl, rfl⟩))
              go_roundw
              case rel => exact ⟨k + 1, S, 0, by omega, by go_num, rfl, rfl, hSl, by omega, HP', hgb.trans g2⟩
              case measure => simp [intOf]; omega
        · have HB : Hid (dv (sb s k) < 0 ∨ (B : Int) - 1 < dv (sb s k)) := by show _ ∨ _; omega
          clear hd
          go_wp2_with (first | (go_at_call 199; refine (refDigit_at _ _ (by omega) (by omega)).mono ?_; rintro e w2 ⟨rfl, g2⟩) | (go_at_call 77; refine (within_no _ _ _ _ HB.out).mono ?_; rintro e w3 ⟨rfl, rfl⟩))
          go_ret2
          exact ⟨rfl, hgb.trans g2⟩
      · obtain rfl : k = s.size := by omega
        exact absurd ⟨by omega, HP.out⟩ HO.out
theorem refParse_at (b : Int) (s : ByteArray) (v : Nat) (e : Int) (w : World) (hs : s.size ≤ 140737488351232) (h : Parsed b s v e) :
    Calls Tryz.prog 186 #[.string s, .int .i64 b] w fun e' w' => e' = .returned (.tuple #[.int .u64 v, .int .i64 e]) ∧ Gb w w' := by
  rcases h with ⟨h1, rfl, rfl⟩ | ⟨h1, h2, rfl, rfl⟩ | ⟨h1, h2, h3, rfl, rfl⟩ | ⟨h1, h2, h3, hv, rfl⟩
  · have H : Hid (b < 2 ∨ 16 < b) := by show _ ∨ _; unfold okB at h1; omega
    clear h1
    go_enter Tryz.func186, Tryz.ntmps186
    go_wp2_with (go_at_call 77; refine (within_no _ _ _ _ H.out).mono ?_; rintro e w1 ⟨rfl, rfl⟩)
    go_ret2
    exact ⟨rfl, Gb.refl _⟩
  all_goals
    have hb2 : 2 ≤ b.toNat := by unfold okB at h1; omega
    have hb16 : b.toNat ≤ 16 := by unfold okB at h1; omega
    obtain ⟨B, rfl⟩ := Int.eq_ofNat_of_zero_le (show 0 ≤ b by unfold okB at h1; omega)
    rw [Int.toNat_natCast] at hb2 hb16 h2
  · exact refParse_bad B s w hs hb2 hb16 h2
  · rw [Int.toNat_natCast] at h3
    exact refParse_good B s w hs hb2 hb16 h2 0 2 (Or.inr ⟨h3, rfl, rfl⟩)
  · rw [Int.toNat_natCast] at h3 hv
    exact refParse_good B s w hs hb2 hb16 h2 v 0 (Or.inl ⟨hv, by omega, rfl⟩)
end Go.Proofs.YtococaecjecjgaaGreatDoor.digs
namespace Go.Proofs.YtococaecjecjgaaGreatDoor.digs
open Go.ChangeShapes Go.WideShapes Go.ChangeAt Go.RowKit
open mem dig

theorem pow63 (w : World) : Calls Tryz.prog 187 #[.int .i64 63] w fun e w' => e = .returned (.int .u64 9223372036854775808) ∧ w' = w := by
  go_enter Tryz.func187, Tryz.ntmps187
  go_wp2
  go_loop [0, 3] (fun i o => ∃ k y : Nat, k ≤ 63 ∧ i = .int .i64 (k : Int) ∧ o = .int .u64 (y : Int) ∧ Hid (y = 2 ^ (63 - k))) (fun i _ => (intOf i).toNat)
  case atStart => exact ⟨63, 1, Nat.le_refl _, rfl, rfl, by simp [Hid]⟩
  case round =>
    obtain ⟨k, y, hk, rfl, rfl, HY⟩ := hrel
    by_cases h0 : 0 < k
    · have t1 : (0 : Int) < (k : Int) := by omega
      obtain ⟨k', hk'⟩ : ∃ k', k = k' + 1 := ⟨k - 1, by omega⟩
      obtain ⟨y', hy'⟩ : ∃ y', y' = y * 2 := ⟨_, rfl⟩
      have hyl : y ≤ 2 ^ 62 := by rw [HY.out]; exact Nat.pow_le_pow_right (by omega) (by omega)
      have t2 : IntKind.u64.wrap ((y : Int) * 2) = (y' : Int) := by rw [IntKind.wrap_u64]; omega
      have t3 : IntKind.i64.wrap ((k : Int) - 1) = (k' : Int) := by rw [IntKind.wrap_i64]; omega
      have HY' : Hid (y' = 2 ^ (63 - k')) := by
        have e : 63 - k' = (63 - k) + 1 := by omega
        rw [hy', e, Nat.pow_succ, ← HY.out]; rfl
      have HK : Hid (k = k' + 1) := hk'
      clear hk' hy'
      go_wp2
      go_round
      case rel => exact ⟨k', y', by have := HK.out; omega, by simp [*], by simp [*], HY'⟩
      case measure => have := HK.out; simp [intOf]; omega
    · obtain rfl : k = 0 := by omega
      have hyr : y = 9223372036854775808 := HY.out
      clear HY
      subst hyr
      go_wp2
      go_ret
      exact ⟨rfl, rfl⟩
theorem pre_m (s : ByteArray) (hp : 0 < s.size) : pre s pm = ((((s[0]'hp).toNat : Nat) : Int) == 45) := by
  have h1 : pm.size = 1 := rfl
  have h3 : s.data.toList.length = s.size := rfl
  have h2 : (s.extract 0 1).toList = [s[0]'hp] := by
    rw [ByteArray.toList_eq, ByteArray.data_extract, Array.toList_extract, List.extract_eq_take_drop]
    have hl : 0 < s.data.toList.length := by omega
    rw [List.drop_zero, show 1 - 0 = 0 + 1 from rfl, List.take_succ_eq_append_getElem hl]
    rfl
  unfold pre
  rw [h1, h2, decide_eq_true (show 1 ≤ s.size from hp), Bool.true_and]
  have e : pm.toList = [45] := by rw [ByteArray.toList_eq]; rfl
  rw [e, Bool.eq_iff_iff]
  simp
  constructor
  · intro h
    rw [h]; rfl
  · intro h
    have h' : (s[0]'hp).toNat = 45 := by omega
    exact UInt8.toNat_inj.1 h'
theorem pre_m0 (s : ByteArray) (hp : ¬ 0 < s.size) : pre s pm = false := by
  unfold pre
  rw [show pm.size = 1 from rfl, decide_eq_false (by omega), Bool.false_and]
theorem pre_2 (s p : ByteArray) (b : Bool) (hp : p.size = 2) (h : pre s p = b) : (2 ≤ s.size ∧ ((s.extract 0 2).toList == p.toList) = b) ∨ (¬ 2 ≤ s.size ∧ b = false) := by
  unfold pre at h
  rw [hp] at h
  by_cases h2 : 2 ≤ s.size
  · rw [decide_eq_true h2, Bool.true_and] at h
    exact Or.inl ⟨h2, h⟩
  · rw [decide_eq_false h2, Bool.false_and] at h
    exact Or.inr ⟨h2, h.symm⟩
set_option maxHeartbeats 8000000 in
set_option maxRecDepth 4000 in
theorem refNumber_at (s : ByteArray) (m e : Int) (w : World) (hs : s.size ≤ 140737488351232) (h : Numbered s m e) :
    Calls Tryz.prog 169 #[.string s] w fun e' w' => e' = .returned (.tuple #[.int .i64 m, .int .i64 e]) ∧ Gb w w' := by
  obtain ⟨n, t, b, v, f, h1, h2, h3, h4⟩ := h
  have hv := h3.bd
  have hr := rest_size s pm n
  have ht := h2.size
  have cp := fun w => refParse_at b t v f w (by omega) h3
  have H2 := hide h2
  have H4 := hide h4
  clear h3 h2 h4
  by_cases hp : 0 < s.size
  · have e1 := pre_m s hp
    rw [h1] at e1
    cases n
    · have e1' : ((((s[0]'hp).toNat : Nat) : Int) == 45) = false := e1.symm
      have hu : rest s pm false = s := rfl
      rw [hu] at H2 hr
      clear e1 h1 hu
      rcases H2.out with ⟨b1, rfl, rfl⟩ | ⟨b1, b2, rfl, rfl⟩ | ⟨b1, b2, hq, rfl⟩
      · obtain ⟨z, c1⟩ : 2 ≤ s.size ∧ ((s.extract 0 2).toList == px.toList) = true := by
          rcases pre_2 s px true rfl b1 with h | ⟨_, h⟩
          · exact h
          · cases h
        have c1' : ((s.extract 0 2).toList == [48, 120]) = true := by rw [← c1, show px.toList = [48, 120] from by rw [ByteArray.toList_eq]; rfl]
        have hx : rest s px true = s.extract 2 s.size := rfl
        rw [hx] at cp
        clear H2 b1 c1 hx
        rcases H4.out with ⟨hf, rfl, rfl⟩ | ⟨rfl, h5, rfl, rfl⟩ | ⟨rfl, h5, h6, rfl, rfl⟩
        · have hf' : (e == 0) = false := by simpa using hf
          clear hf H4
          go_enter Tryz.func169, Tryz.ntmps169
          go_wp2_with (first | (go_at_call 186; refine (cp _).mono ?_; rintro e w1 ⟨rfl, g1⟩) | (go_at_call 187; refine (pow63 _).mono ?_; rintro e w1 ⟨rfl, rfl⟩))
          go_region
          all_goals go_wp2_with (first | (go_at_call 186; refine (cp _).mono ?_; rintro e w1 ⟨rfl, g1⟩) | (go_at_call 187; refine (pow63 _).mono ?_; rintro e w1 ⟨rfl, rfl⟩))
          all_goals go_ret2
          all_goals exact ⟨rfl, by first | exact g1 | exact (Gb.drew (Gb.refl _)).trans g1⟩
        · have hl : (9223372036854775808 : Int) ≤ (v : Int) := by omega
          clear h5 H4
          go_enter Tryz.func169, Tryz.ntmps169
          go_wp2_with (first | (go_at_call 186; refine (cp _).mono ?_; rintro e w1 ⟨rfl, g1⟩) | (go_at_call 187; refine (pow63 _).mono ?_; rintro e w1 ⟨rfl, rfl⟩))
          go_region
          all_goals go_wp2_with (first | (go_at_call 186; refine (cp _).mono ?_; rintro e w1 ⟨rfl, g1⟩) | (go_at_call 187; refine (pow63 _).mono ?_; rintro e w1 ⟨rfl, rfl⟩))
          all_goals go_ret2
          all_goals exact ⟨rfl, by first | exact g1 | exact (Gb.drew (Gb.refl _)).trans g1⟩
        · have hn2 : v ≠ 9223372036854775808 := fun h => by cases h6 h
          have hl : decide ((9223372036854775808 : Int) ≤ (v : Int)) = false := decide_eq_false (by omega)
          have hl2 : decide ((9223372036854775808 : Int) < (v : Int)) = false := decide_eq_false (by omega)
          have hw : wrap64 (v : Int) = (v : Int) := by unfold wrap64; omega
          clear h5 h6 H4 hn2 hv
          go_enter Tryz.func169, Tryz.ntmps169
          go_wp2_with (first | (go_at_call 186; refine (cp _).mono ?_; rintro e w1 ⟨rfl, g1⟩) | (go_at_call 187; refine (pow63 _).mono ?_; rintro e w1 ⟨rfl, rfl⟩))
          go_region
          all_goals go_wp2_with (first | (go_at_call 186; refine (cp _).mono ?_; rintro e w1 ⟨rfl, g1⟩) | (go_at_call 187; refine (pow63 _).mono ?_; rintro e w1 ⟨rfl, rfl⟩))
          all_goals go_ret2
          all_goals exact ⟨rfl, by first | exact g1 | exact (Gb.drew (Gb.refl _)).trans g1⟩
      · obtain ⟨z, c2⟩ : 2 ≤ s.size ∧ ((s.extract 0 2).toList == pb.toList) = true := by
          rcases pre_2 s pb true rfl b2 with h | ⟨_, h⟩
          · exact h
          · cases h
        have c1 : ((s.extract 0 2).toList == px.toList) = false := by
          rcases pre_2 s px false rfl b1 with h | ⟨h, _⟩
          · exact h.2
          · omega
        have c1' : ((s.extract 0 2).toList == [48, 120]) = false := by rw [← c1, show px.toList = [48, 120] from by rw [ByteArray.toList_eq]; rfl]
        have c2' : ((s.extract 0 2).toList == [48, 98]) = true := by rw [← c2, show pb.toList = [48, 98] from by rw [ByteArray.toList_eq]; rfl]
        have hx : rest s pb true = s.extract 2 s.size := rfl
        rw [hx] at cp
        clear H2 b1 b2 c1 c2 hx
        rcases H4.out with ⟨hf, rfl, rfl⟩ | ⟨rfl, h5, rfl, rfl⟩ | ⟨rfl, h5, h6, rfl, rfl⟩
        · have hf' : (e == 0) = false := by simpa using hf
          clear hf H4
          go_enter Tryz.func169, Tryz.ntmps169
          go_wp2_with (first | (go_at_call 186; refine (cp _).mono ?_; rintro e w1 ⟨rfl, g1⟩) | (go_at_call 187; refine (pow63 _).mono ?_; rintro e w1 ⟨rfl, rfl⟩))
          go_region
          all_goals go_wp2_with (first | (go_at_call 186; refine (cp _).mono ?_; rintro e w1 ⟨rfl, g1⟩) | (go_at_call 187; refine (pow63 _).mono ?_; rintro e w1 ⟨rfl, rfl⟩))
          all_goals go_ret2
          all_goals exact ⟨rfl, by first | exact g1 | exact (Gb.drew (Gb.refl _)).trans g1⟩
        · have hl : (9223372036854775808 : Int) ≤ (v : Int) := by omega
          clear h5 H4
          go_enter Tryz.func169, Tryz.ntmps169
          go_wp2_with (first | (go_at_call 186; refine (cp _).mono ?_; rintro e w1 ⟨rfl, g1⟩) | (go_at_call 187; refine (pow63 _).mono ?_; rintro e w1 ⟨rfl, rfl⟩))
          go_region
          all_goals go_wp2_with (first | (go_at_call 186; refine (cp _).mono ?_; rintro e w1 ⟨rfl, g1⟩) | (go_at_call 187; refine (pow63 _).mono ?_; rintro e w1 ⟨rfl, rfl⟩))
          all_goals go_ret2
          all_goals exact ⟨rfl, by first | exact g1 | exact (Gb.drew (Gb.refl _)).trans g1⟩
        · have hn2 : v ≠ 9223372036854775808 := fun h => by cases h6 h
          have hl : decide ((9223372036854775808 : Int) ≤ (v : Int)) = false := decide_eq_false (by omega)
          have hl2 : decide ((9223372036854775808 : Int) < (v : Int)) = false := decide_eq_false (by omega)
          have hw : wrap64 (v : Int) = (v : Int) := by unfold wrap64; omega
          clear h5 h6 H4 hn2 hv
          go_enter Tryz.func169, Tryz.ntmps169
          go_wp2_with (first | (go_at_call 186; refine (cp _).mono ?_; rintro e w1 ⟨rfl, g1⟩) | (go_at_call 187; refine (pow63 _).mono ?_; rintro e w1 ⟨rfl, rfl⟩))
          go_region
          all_goals go_wp2_with (first | (go_at_call 186; refine (cp _).mono ?_; rintro e w1 ⟨rfl, g1⟩) | (go_at_call 187; refine (pow63 _).mono ?_; rintro e w1 ⟨rfl, rfl⟩))
          all_goals go_ret2
          all_goals exact ⟨rfl, by first | exact g1 | exact (Gb.drew (Gb.refl _)).trans g1⟩
      · rw [hq] at cp ht
        clear hq
        by_cases z : 2 ≤ s.size
        · have c1 : ((s.extract 0 2).toList == px.toList) = false := by
            rcases pre_2 s px false rfl b1 with h | ⟨h, _⟩
            · exact h.2
            · omega
          have c2 : ((s.extract 0 2).toList == pb.toList) = false := by
            rcases pre_2 s pb false rfl b2 with h | ⟨h, _⟩
            · exact h.2
            · omega
          have c1' : ((s.extract 0 2).toList == [48, 120]) = false := by rw [← c1, show px.toList = [48, 120] from by rw [ByteArray.toList_eq]; rfl]
          have c2' : ((s.extract 0 2).toList == [48, 98]) = false := by rw [← c2, show pb.toList = [48, 98] from by rw [ByteArray.toList_eq]; rfl]
          clear H2 b1 b2 c1 c2
          rcases H4.out with ⟨hf, rfl, rfl⟩ | ⟨rfl, h5, rfl, rfl⟩ | ⟨rfl, h5, h6, rfl, rfl⟩
          · have hf' : (e == 0) = false := by simpa using hf
            clear hf H4
            go_enter Tryz.func169, Tryz.ntmps169
            go_wp2_with (first | (go_at_call 186; refine (cp _).mono ?_; rintro e w1 ⟨rfl, g1⟩) | (go_at_call 187; refine (pow63 _).mono ?_; rintro e w1 ⟨rfl, rfl⟩))
            all_goals go_ret2
            all_goals exact ⟨rfl, by first | exact g1 | exact (Gb.drew (Gb.refl _)).trans g1⟩
          · have hl : (9223372036854775808 : Int) ≤ (v : Int) := by omega
            clear h5 H4
            go_enter Tryz.func169, Tryz.ntmps169
            go_wp2_with (first | (go_at_call 186; refine (cp _).mono ?_; rintro e w1 ⟨rfl, g1⟩) | (go_at_call 187; refine (pow63 _).mono ?_; rintro e w1 ⟨rfl, rfl⟩))
            all_goals go_ret2
            all_goals exact ⟨rfl, by first | exact g1 | exact (Gb.drew (Gb.refl _)).trans g1⟩
          · have hn2 : v ≠ 9223372036854775808 := fun h => by cases h6 h
            have hl : decide ((9223372036854775808 : Int) ≤ (v : Int)) = false := decide_eq_false (by omega)
            have hl2 : decide ((9223372036854775808 : Int) < (v : Int)) = false := decide_eq_false (by omega)
            have hw : wrap64 (v : Int) = (v : Int) := by unfold wrap64; omega
            clear h5 h6 H4 hn2 hv
            go_enter Tryz.func169, Tryz.ntmps169
            go_wp2_with (first | (go_at_call 186; refine (cp _).mono ?_; rintro e w1 ⟨rfl, g1⟩) | (go_at_call 187; refine (pow63 _).mono ?_; rintro e w1 ⟨rfl, rfl⟩))
            all_goals go_ret2
            all_goals exact ⟨rfl, by first | exact g1 | exact (Gb.drew (Gb.refl _)).trans g1⟩
        · clear H2 b1 b2
          rcases H4.out with ⟨hf, rfl, rfl⟩ | ⟨rfl, h5, rfl, rfl⟩ | ⟨rfl, h5, h6, rfl, rfl⟩
          · have hf' : (e == 0) = false := by simpa using hf
            clear hf H4
            go_enter Tryz.func169, Tryz.ntmps169
            go_wp2_with (first | (go_at_call 186; refine (cp _).mono ?_; rintro e w1 ⟨rfl, g1⟩) | (go_at_call 187; refine (pow63 _).mono ?_; rintro e w1 ⟨rfl, rfl⟩))
            all_goals go_ret2
            all_goals exact ⟨rfl, by first | exact g1 | exact (Gb.drew (Gb.refl _)).trans g1⟩
          · have hl : (9223372036854775808 : Int) ≤ (v : Int) := by omega
            clear h5 H4
            go_enter Tryz.func169, Tryz.ntmps169
            go_wp2_with (first | (go_at_call 186; refine (cp _).mono ?_; rintro e w1 ⟨rfl, g1⟩) | (go_at_call 187; refine (pow63 _).mono ?_; rintro e w1 ⟨rfl, rfl⟩))
            all_goals go_ret2
            all_goals exact ⟨rfl, by first | exact g1 | exact (Gb.drew (Gb.refl _)).trans g1⟩
          · have hn2 : v ≠ 9223372036854775808 := fun h => by cases h6 h
            have hl : decide ((9223372036854775808 : Int) ≤ (v : Int)) = false := decide_eq_false (by omega)
            have hl2 : decide ((9223372036854775808 : Int) < (v : Int)) = false := decide_eq_false (by omega)
            have hw : wrap64 (v : Int) = (v : Int) := by unfold wrap64; omega
            clear h5 h6 H4 hn2 hv
            go_enter Tryz.func169, Tryz.ntmps169
            go_wp2_with (first | (go_at_call 186; refine (cp _).mono ?_; rintro e w1 ⟨rfl, g1⟩) | (go_at_call 187; refine (pow63 _).mono ?_; rintro e w1 ⟨rfl, rfl⟩))
            all_goals go_ret2
            all_goals exact ⟨rfl, by first | exact g1 | exact (Gb.drew (Gb.refl _)).trans g1⟩
    · have e1' : ((((s[0]'hp).toNat : Nat) : Int) == 45) = true := e1.symm
      have hu : rest s pm true = s.extract 1 s.size := rfl
      rw [hu] at H2 hr ht
      clear e1 h1
      obtain ⟨U, hU⟩ : ∃ U, U = s.extract 1 s.size := ⟨_, rfl⟩
      rw [← hU] at H2 hr ht
      have hU' : s.extract 1 s.size = U := hU.symm
      clear hU hu
      rcases H2.out with ⟨b1, rfl, rfl⟩ | ⟨b1, b2, rfl, rfl⟩ | ⟨b1, b2, hq, rfl⟩
      · obtain ⟨z, c1⟩ : 2 ≤ U.size ∧ ((U.extract 0 2).toList == px.toList) = true := by
          rcases pre_2 U px true rfl b1 with h | ⟨_, h⟩
          · exact h
          · cases h
        have c1' : ((U.extract 0 2).toList == [48, 120]) = true := by rw [← c1, show px.toList = [48, 120] from by rw [ByteArray.toList_eq]; rfl]
        have hx : rest U px true = U.extract 2 U.size := rfl
        rw [hx] at cp
        clear H2 b1 c1 hx
        rcases H4.out with ⟨hf, rfl, rfl⟩ | ⟨rfl, h5, rfl, rfl⟩ | ⟨rfl, h5, h6, rfl, rfl⟩
        · have hf' : (e == 0) = false := by simpa using hf
          clear hf H4
          go_enter Tryz.func169, Tryz.ntmps169
          go_wp2_with (first | (go_at_call 186; refine (cp _).mono ?_; rintro e w1 ⟨rfl, g1⟩) | (go_at_call 187; refine (pow63 _).mono ?_; rintro e w1 ⟨rfl, rfl⟩))
          go_region
          all_goals go_wp2_with (first | (go_at_call 186; refine (cp _).mono ?_; rintro e w1 ⟨rfl, g1⟩) | (go_at_call 187; refine (pow63 _).mono ?_; rintro e w1 ⟨rfl, rfl⟩))
          all_goals go_ret2
          all_goals exact ⟨rfl, by first | exact g1 | exact (Gb.drew (Gb.refl _)).trans g1⟩
        · have hl : (9223372036854775808 : Int) < (v : Int) := by
            rcases h5 with h | ⟨_, h⟩
            · omega
            · cases h
          clear h5 H4
          go_enter Tryz.func169, Tryz.ntmps169
          go_wp2_with (first | (go_at_call 186; refine (cp _).mono ?_; rintro e w1 ⟨rfl, g1⟩) | (go_at_call 187; refine (pow63 _).mono ?_; rintro e w1 ⟨rfl, rfl⟩))
          go_region
          all_goals go_wp2_with (first | (go_at_call 186; refine (cp _).mono ?_; rintro e w1 ⟨rfl, g1⟩) | (go_at_call 187; refine (pow63 _).mono ?_; rintro e w1 ⟨rfl, rfl⟩))
          all_goals go_ret2
          all_goals exact ⟨rfl, by first | exact g1 | exact (Gb.drew (Gb.refl _)).trans g1⟩
        · have hl : ¬ (9223372036854775808 : Int) < (v : Int) := by omega
          have hm : wrap64 (IntKind.u64.wrap (-(v : Int))) = -(v : Int) := by simp only [IntKind.wrap_u64, wrap64]; omega
          clear h5 h6 H4
          go_enter Tryz.func169, Tryz.ntmps169
          go_wp2_with (first | (go_at_call 186; refine (cp _).mono ?_; rintro e w1 ⟨rfl, g1⟩) | (go_at_call 187; refine (pow63 _).mono ?_; rintro e w1 ⟨rfl, rfl⟩))
          go_region
          all_goals go_wp2_with (first | (go_at_call 186; refine (cp _).mono ?_; rintro e w1 ⟨rfl, g1⟩) | (go_at_call 187; refine (pow63 _).mono ?_; rintro e w1 ⟨rfl, rfl⟩))
          all_goals go_ret2
          all_goals exact ⟨by simp, by first | exact g1 | exact (Gb.drew (Gb.refl _)).trans g1⟩
      · obtain ⟨z, c2⟩ : 2 ≤ U.size ∧ ((U.extract 0 2).toList == pb.toList) = true := by
          rcases pre_2 U pb true rfl b2 with h | ⟨_, h⟩
          · exact h
          · cases h
        have c1 : ((U.extract 0 2).toList == px.toList) = false := by
          rcases pre_2 U px false rfl b1 with h | ⟨h, _⟩
          · exact h.2
          · omega
        have c1' : ((U.extract 0 2).toList == [48, 120]) = false := by rw [← c1, show px.toList = [48, 120] from by rw [ByteArray.toList_eq]; rfl]
        have c2' : ((U.extract 0 2).toList == [48, 98]) = true := by rw [← c2, show pb.toList = [48, 98] from by rw [ByteArray.toList_eq]; rfl]
        have hx : rest U pb true = U.extract 2 U.size := rfl
        rw [hx] at cp
        clear H2 b1 b2 c1 c2 hx
        rcases H4.out with ⟨hf, rfl, rfl⟩ | ⟨rfl, h5, rfl, rfl⟩ | ⟨rfl, h5, h6, rfl, rfl⟩
        · have hf' : (e == 0) = false := by simpa using hf
          clear hf H4
          go_enter Tryz.func169, Tryz.ntmps169
          go_wp2_with (first | (go_at_call 186; refine (cp _).mono ?_; rintro e w1 ⟨rfl, g1⟩) | (go_at_call 187; refine (pow63 _).mono ?_; rintro e w1 ⟨rfl, rfl⟩))
          go_region
          all_goals go_wp2_with (first | (go_at_call 186; refine (cp _).mono ?_; rintro e w1 ⟨rfl, g1⟩) | (go_at_call 187; refine (pow63 _).mono ?_; rintro e w1 ⟨rfl, rfl⟩))
          all_goals go_ret2
          all_goals exact ⟨rfl, by first | exact g1 | exact (Gb.drew (Gb.refl _)).trans g1⟩
        · have hl : (9223372036854775808 : Int) < (v : Int) := by
            rcases h5 with h | ⟨_, h⟩
            · omega
            · cases h
          clear h5 H4
          go_enter Tryz.func169, Tryz.ntmps169
          go_wp2_with (first | (go_at_call 186; refine (cp _).mono ?_; rintro e w1 ⟨rfl, g1⟩) | (go_at_call 187; refine (pow63 _).mono ?_; rintro e w1 ⟨rfl, rfl⟩))
          go_region
          all_goals go_wp2_with (first | (go_at_call 186; refine (cp _).mono ?_; rintro e w1 ⟨rfl, g1⟩) | (go_at_call 187; refine (pow63 _).mono ?_; rintro e w1 ⟨rfl, rfl⟩))
          all_goals go_ret2
          all_goals exact ⟨rfl, by first | exact g1 | exact (Gb.drew (Gb.refl _)).trans g1⟩
        · have hl : ¬ (9223372036854775808 : Int) < (v : Int) := by omega
          have hm : wrap64 (IntKind.u64.wrap (-(v : Int))) = -(v : Int) := by simp only [IntKind.wrap_u64, wrap64]; omega
          clear h5 h6 H4
          go_enter Tryz.func169, Tryz.ntmps169
          go_wp2_with (first | (go_at_call 186; refine (cp _).mono ?_; rintro e w1 ⟨rfl, g1⟩) | (go_at_call 187; refine (pow63 _).mono ?_; rintro e w1 ⟨rfl, rfl⟩))
          go_region
          all_goals go_wp2_with (first | (go_at_call 186; refine (cp _).mono ?_; rintro e w1 ⟨rfl, g1⟩) | (go_at_call 187; refine (pow63 _).mono ?_; rintro e w1 ⟨rfl, rfl⟩))
          all_goals go_ret2
          all_goals exact ⟨by simp, by first | exact g1 | exact (Gb.drew (Gb.refl _)).trans g1⟩
      · rw [hq] at cp ht
        clear hq
        by_cases z : 2 ≤ U.size
        · have c1 : ((U.extract 0 2).toList == px.toList) = false := by
            rcases pre_2 U px false rfl b1 with h | ⟨h, _⟩
            · exact h.2
            · omega
          have c2 : ((U.extract 0 2).toList == pb.toList) = false := by
            rcases pre_2 U pb false rfl b2 with h | ⟨h, _⟩
            · exact h.2
            · omega
          have c1' : ((U.extract 0 2).toList == [48, 120]) = false := by rw [← c1, show px.toList = [48, 120] from by rw [ByteArray.toList_eq]; rfl]
          have c2' : ((U.extract 0 2).toList == [48, 98]) = false := by rw [← c2, show pb.toList = [48, 98] from by rw [ByteArray.toList_eq]; rfl]
          clear H2 b1 b2 c1 c2
          rcases H4.out with ⟨hf, rfl, rfl⟩ | ⟨rfl, h5, rfl, rfl⟩ | ⟨rfl, h5, h6, rfl, rfl⟩
          · have hf' : (e == 0) = false := by simpa using hf
            clear hf H4
            go_enter Tryz.func169, Tryz.ntmps169
            go_wp2_with (first | (go_at_call 186; refine (cp _).mono ?_; rintro e w1 ⟨rfl, g1⟩) | (go_at_call 187; refine (pow63 _).mono ?_; rintro e w1 ⟨rfl, rfl⟩))
            all_goals go_ret2
            all_goals exact ⟨rfl, by first | exact g1 | exact (Gb.drew (Gb.refl _)).trans g1⟩
          · have hl : (9223372036854775808 : Int) < (v : Int) := by
              rcases h5 with h | ⟨_, h⟩
              · omega
              · cases h
            clear h5 H4
            go_enter Tryz.func169, Tryz.ntmps169
            go_wp2_with (first | (go_at_call 186; refine (cp _).mono ?_; rintro e w1 ⟨rfl, g1⟩) | (go_at_call 187; refine (pow63 _).mono ?_; rintro e w1 ⟨rfl, rfl⟩))
            all_goals go_ret2
            all_goals exact ⟨rfl, by first | exact g1 | exact (Gb.drew (Gb.refl _)).trans g1⟩
          · have hl : ¬ (9223372036854775808 : Int) < (v : Int) := by omega
            have hm : wrap64 (IntKind.u64.wrap (-(v : Int))) = -(v : Int) := by simp only [IntKind.wrap_u64, wrap64]; omega
            clear h5 h6 H4
            go_enter Tryz.func169, Tryz.ntmps169
            go_wp2_with (first | (go_at_call 186; refine (cp _).mono ?_; rintro e w1 ⟨rfl, g1⟩) | (go_at_call 187; refine (pow63 _).mono ?_; rintro e w1 ⟨rfl, rfl⟩))
            all_goals go_ret2
            all_goals exact ⟨by simp, by first | exact g1 | exact (Gb.drew (Gb.refl _)).trans g1⟩
        · clear H2 b1 b2
          rcases H4.out with ⟨hf, rfl, rfl⟩ | ⟨rfl, h5, rfl, rfl⟩ | ⟨rfl, h5, h6, rfl, rfl⟩
          · have hf' : (e == 0) = false := by simpa using hf
            clear hf H4
            go_enter Tryz.func169, Tryz.ntmps169
            go_wp2_with (first | (go_at_call 186; refine (cp _).mono ?_; rintro e w1 ⟨rfl, g1⟩) | (go_at_call 187; refine (pow63 _).mono ?_; rintro e w1 ⟨rfl, rfl⟩))
            all_goals go_ret2
            all_goals exact ⟨rfl, by first | exact g1 | exact (Gb.drew (Gb.refl _)).trans g1⟩
          · have hl : (9223372036854775808 : Int) < (v : Int) := by
              rcases h5 with h | ⟨_, h⟩
              · omega
              · cases h
            clear h5 H4
            go_enter Tryz.func169, Tryz.ntmps169
            go_wp2_with (first | (go_at_call 186; refine (cp _).mono ?_; rintro e w1 ⟨rfl, g1⟩) | (go_at_call 187; refine (pow63 _).mono ?_; rintro e w1 ⟨rfl, rfl⟩))
            all_goals go_ret2
            all_goals exact ⟨rfl, by first | exact g1 | exact (Gb.drew (Gb.refl _)).trans g1⟩
          · have hl : ¬ (9223372036854775808 : Int) < (v : Int) := by omega
            have hm : wrap64 (IntKind.u64.wrap (-(v : Int))) = -(v : Int) := by simp only [IntKind.wrap_u64, wrap64]; omega
            clear h5 h6 H4
            go_enter Tryz.func169, Tryz.ntmps169
            go_wp2_with (first | (go_at_call 186; refine (cp _).mono ?_; rintro e w1 ⟨rfl, g1⟩) | (go_at_call 187; refine (pow63 _).mono ?_; rintro e w1 ⟨rfl, rfl⟩))
            all_goals go_ret2
            all_goals exact ⟨by simp, by first | exact g1 | exact (Gb.drew (Gb.refl _)).trans g1⟩
  · have e1 := pre_m0 s hp
    obtain rfl : n = false := h1.symm.trans e1
    have hu : rest s pm false = s := rfl
    rw [hu] at H2 hr
    clear e1 h1 hu
    rcases H2.out with ⟨b1, rfl, rfl⟩ | ⟨b1, b2, rfl, rfl⟩ | ⟨b1, b2, hq, rfl⟩
    · obtain ⟨z, c1⟩ : 2 ≤ s.size ∧ ((s.extract 0 2).toList == px.toList) = true := by
        rcases pre_2 s px true rfl b1 with h | ⟨_, h⟩
        · exact h
        · cases h
      have c1' : ((s.extract 0 2).toList == [48, 120]) = true := by rw [← c1, show px.toList = [48, 120] from by rw [ByteArray.toList_eq]; rfl]
      have hx : rest s px true = s.extract 2 s.size := rfl
      rw [hx] at cp
      clear H2 b1 c1 hx
      exact absurd z (by omega)
    · obtain ⟨z, c2⟩ : 2 ≤ s.size ∧ ((s.extract 0 2).toList == pb.toList) = true := by
        rcases pre_2 s pb true rfl b2 with h | ⟨_, h⟩
        · exact h
        · cases h
      have c1 : ((s.extract 0 2).toList == px.toList) = false := by
        rcases pre_2 s px false rfl b1 with h | ⟨h, _⟩
        · exact h.2
        · omega
      have c1' : ((s.extract 0 2).toList == [48, 120]) = false := by rw [← c1, show px.toList = [48, 120] from by rw [ByteArray.toList_eq]; rfl]
      have c2' : ((s.extract 0 2).toList == [48, 98]) = true := by rw [← c2, show pb.toList = [48, 98] from by rw [ByteArray.toList_eq]; rfl]
      have hx : rest s pb true = s.extract 2 s.size := rfl
      rw [hx] at cp
      clear H2 b1 b2 c1 c2 hx
      exact absurd z (by omega)
    · rw [hq] at cp ht
      clear hq
      by_cases z : 2 ≤ s.size
      · have c1 : ((s.extract 0 2).toList == px.toList) = false := by
          rcases pre_2 s px false rfl b1 with h | ⟨h, _⟩
          · exact h.2
          · omega
        have c2 : ((s.extract 0 2).toList == pb.toList) = false := by
          rcases pre_2 s pb false rfl b2 with h | ⟨h, _⟩
          · exact h.2
          · omega
        have c1' : ((s.extract 0 2).toList == [48, 120]) = false := by rw [← c1, show px.toList = [48, 120] from by rw [ByteArray.toList_eq]; rfl]
        have c2' : ((s.extract 0 2).toList == [48, 98]) = false := by rw [← c2, show pb.toList = [48, 98] from by rw [ByteArray.toList_eq]; rfl]
        clear H2 b1 b2 c1 c2
        exact absurd z (by omega)
      · clear H2 b1 b2
        rcases H4.out with ⟨hf, rfl, rfl⟩ | ⟨rfl, h5, rfl, rfl⟩ | ⟨rfl, h5, h6, rfl, rfl⟩
        · have hf' : (e == 0) = false := by simpa using hf
          clear hf H4
          go_enter Tryz.func169, Tryz.ntmps169
          go_wp2_with (first | (go_at_call 186; refine (cp _).mono ?_; rintro e w1 ⟨rfl, g1⟩) | (go_at_call 187; refine (pow63 _).mono ?_; rintro e w1 ⟨rfl, rfl⟩))
          all_goals go_ret2
          all_goals exact ⟨rfl, by first | exact g1 | exact (Gb.drew (Gb.refl _)).trans g1⟩
        · have hl : (9223372036854775808 : Int) ≤ (v : Int) := by omega
          clear h5 H4
          go_enter Tryz.func169, Tryz.ntmps169
          go_wp2_with (first | (go_at_call 186; refine (cp _).mono ?_; rintro e w1 ⟨rfl, g1⟩) | (go_at_call 187; refine (pow63 _).mono ?_; rintro e w1 ⟨rfl, rfl⟩))
          all_goals go_ret2
          all_goals exact ⟨rfl, by first | exact g1 | exact (Gb.drew (Gb.refl _)).trans g1⟩
        · have hn2 : v ≠ 9223372036854775808 := fun h => by cases h6 h
          have hl : decide ((9223372036854775808 : Int) ≤ (v : Int)) = false := decide_eq_false (by omega)
          have hl2 : decide ((9223372036854775808 : Int) < (v : Int)) = false := decide_eq_false (by omega)
          have hw : wrap64 (v : Int) = (v : Int) := by unfold wrap64; omega
          clear h5 h6 H4 hn2 hv
          go_enter Tryz.func169, Tryz.ntmps169
          go_wp2_with (first | (go_at_call 186; refine (cp _).mono ?_; rintro e w1 ⟨rfl, g1⟩) | (go_at_call 187; refine (pow63 _).mono ?_; rintro e w1 ⟨rfl, rfl⟩))
          all_goals go_ret2
          all_goals exact ⟨rfl, by first | exact g1 | exact (Gb.drew (Gb.refl _)).trans g1⟩
end Go.Proofs.YtococaecjecjgaaGreatDoor.digs
namespace Go.Proofs.YtococaecjecjgaaGreatDoor.ex
set_option linter.unusedVariables false
open Go.ChangeShapes Go.WideShapes Go.ChangeAt Go.RowKit
open mem lx

theorem must_yes (w : World) (P : Nat) (t : Tk) (ts : List Tk) (en : Nat) (p : Int) (h : Ey w P (t :: ts) en 0 p) :
    Calls Tryz.prog 41 #[.pointer (some ⟨P, 0, none⟩), .string (tx t.t)] w fun e w' => e = .returned (.tuple #[]) ∧ Ey w' P ts en 0 p ∧ Gp P w w' := by
  have cT := take_yes w P t ts en p h
  clear h
  generalize tx t.t = S at *
  go_enter Tryz.func41, Tryz.ntmps41
  go_wp2_with fail
  refine cT.mono ?_
  rintro e w2 ⟨rfl, hE, hg⟩
  go_wp2
  exact bodyPost_end (results_none rfl _ _ _) rfl ⟨rfl, hE, hg⟩
theorem must_no (w : World) (P : Nat) (ts : List Tk) (en : Nat) (p : Int) (s : List UInt8) (h : Ey w P ts en 0 p) (hs : (hd en ts).t ≠ s) :
    Calls Tryz.prog 41 #[.pointer (some ⟨P, 0, none⟩), .string (tx s)] w fun e w' => e = .returned (.tuple #[]) ∧ Ey w' P ts en 3 ((hd en ts).a : Int) ∧ Gp P w w' := by
  have cT := take_no w P ts en 0 p s h (by show (if (0 : Int) = 0 then (hd en ts).t else []) ≠ s; rw [if_pos rfl]; exact hs)
  have cP := fun wx (hb : Bl w wx) => place_at wx P ts en 0 p (h.step hb)
  have cW := fun wx (hb : Bl w wx) a b => wrong_yes wx P ts en p a b (h.step hb)
  clear h hs
  generalize tx s = S at *
  go_enter Tryz.func41, Tryz.ntmps41
  go_wp2_with fail
  refine cT.mono ?_
  rintro e w2 ⟨rfl, hb⟩
  go_wp2_with fail
  refine (cP _ hb).mono ?_
  rintro e w3 ⟨rfl, rfl⟩
  go_wp2_with fail
  refine (cW _ hb _ _).mono ?_
  rintro e w4 ⟨rfl, hE, hg⟩
  go_wp2
  exact bodyPost_end (results_none rfl _ _ _) rfl ⟨rfl, hE, (Gp.bl hb).trans hg⟩
theorem must_off (w : World) (P : Nat) (ts : List Tk) (en : Nat) (c p : Int) (s : List UInt8) (h : Ey w P ts en c p) (hc : c ≠ 0) (hs : s ≠ []) :
    Calls Tryz.prog 41 #[.pointer (some ⟨P, 0, none⟩), .string (tx s)] w fun e w' => e = .returned (.tuple #[]) ∧ Bl w w' := by
  have cT := take_no w P ts en c p s h (by show (if c = 0 then (hd en ts).t else []) ≠ s; rw [if_neg hc]; exact fun e => hs e.symm)
  have cP := fun wx (hb : Bl w wx) => place_at wx P ts en c p (h.step hb)
  have cW := fun wx (hb : Bl w wx) a b => wrong_no wx P ts en c p a b (h.step hb) hc
  clear h hs hc
  generalize tx s = S at *
  go_enter Tryz.func41, Tryz.ntmps41
  go_wp2_with fail
  refine cT.mono ?_
  rintro e w2 ⟨rfl, hb⟩
  go_wp2_with fail
  refine (cP _ hb).mono ?_
  rintro e w3 ⟨rfl, rfl⟩
  go_wp2_with fail
  refine (cW _ hb _ _).mono ?_
  rintro e w4 ⟨rfl, hb4⟩
  go_wp2
  exact bodyPost_end (results_none rfl _ _ _) rfl ⟨rfl, hb.trans hb4⟩
set_option maxRecDepth 10000 in
theorem single_off (w : World) (P : Nat) (ts : List Tk) (en : Nat) (c p d : Int) (h : Ey w P ts en c p) (hc : c ≠ 0) :
    Calls Tryz.prog 142 #[.pointer (some ⟨P, 0, none⟩), .int .i64 d] w fun e w' => e = .returned (.pointer none) ∧ Bl w w' := by
  have cP := place_at w P ts en c p h
  have cT := text_at w P ts en c p h
  have cS := fun wx (hb : Bl w wx) => stop_at wx P ts en c p (h.step hb)
  have hc' : (c == 0) = false := by rw [beq_eq_false_iff_ne]; exact hc
  rw [hc', show (!false) = true from rfl] at cS
  clear h hc hc'
  generalize tx (see c en ts) = S at *
  go_enter Tryz.func142, Tryz.ntmps142
  go_wp2_with fail
  refine cP.mono ?_
  rintro e w2 ⟨rfl, rfl⟩
  go_wp2_with fail
  refine cT.mono ?_
  rintro e w3 ⟨rfl, hb3⟩
  go_wp2_with fail
  refine (cS _ hb3).mono ?_
  rintro e w4 ⟨rfl, hb4⟩
  go_wp2
  go_ret
  exact ⟨rfl, hb3.trans hb4⟩
set_option maxRecDepth 10000 in
theorem expr_off (w : World) (P : Nat) (ts : List Tk) (en : Nat) (c p m d : Int) (h : Ey w P ts en c p) (hc : c ≠ 0) :
    Calls Tryz.prog 111 #[.pointer (some ⟨P, 0, none⟩), .int .i64 m, .int .i64 d] w fun e w' => e = .returned (.pointer none) ∧ Bl w w' := by
  have cP := single_off w P ts en c p d h hc
  have cS := fun wx (hb : Bl w wx) => stop_at wx P ts en c p (h.step hb)
  have hc' : (c == 0) = false := by rw [beq_eq_false_iff_ne]; exact hc
  rw [hc', show (!false) = true from rfl] at cS
  clear h hc hc'
  go_enter Tryz.func111, Tryz.ntmps111
  go_wp2_with fail
  refine cP.mono ?_
  rintro e w2 ⟨rfl, hb2⟩
  go_wp2
  go_loopw [7] (fun v7 wr => v7 = .pointer none ∧ Hid (Bl w wr)) (fun _ _ => 0)
  case atStart => exact ⟨rfl, hb2⟩
  case round =>
    obtain ⟨rfl, HB⟩ := hrel
    go_wp2_with fail
    refine (cS _ HB.out).mono ?_
    rintro e w3 ⟨rfl, hb3⟩
    go_wp2
    go_ret
    exact ⟨rfl, HB.out.trans hb3⟩
end Go.Proofs.YtococaecjecjgaaGreatDoor.ex
