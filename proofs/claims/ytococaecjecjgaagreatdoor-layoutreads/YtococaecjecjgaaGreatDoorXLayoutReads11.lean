/- Texts laid together: LyS, Tm1, Tm2, Tm3, Tm4. -/
import Derived.Test.YtococaecjecjgaaGreatDoorXLayoutReads9
import Derived.Test.YtococaecjecjgaaGreatDoorXLayoutReads10
/- Structs by their names: a map of a call's own. -/
namespace Go.Proofs.YtococaecjecjgaaGreatDoor.ly
set_option linter.unusedVariables false
open Go.ChangeShapes Go.WideShapes Go.ChangeAt Go.RowKit
open mem lx ex tm
open Go.Maps

def elV : Value → Option (DataW Value × List MemPlace) := fun v => some (.held v, [])
def zT : Value := .agg #[.string ⟨#[]⟩, .int .i64 0, .slice none 0 0]
theorem zero_T (w : World) : (zeroValue 96).run Tryz.prog w = .ok zT w := by kernel_rfl
/-- A map of the call's own that tells these values by texts. -/
def Sm (w : World) (b : Nat) (f : List UInt8 → Option Value) (c : Nat) : Prop :=
  ∃ D : DataW Value, w.ownsMap Tryz.prog 9 elV b c D ∧ ∀ x, x.length ≤ maxLen → Maps.has D (skey x) = (f x).isSome ∧ D.atKey (skey x) (.held zT) = .held ((f x).getD zT)
theorem Sm.step {w w' : World} {b c : Nat} {f : List UInt8 → Option Value} {row : Option Nat} (h : Sm w b f c) (hg : w.grownBy w' row) (hne : some b ≠ row) : Sm w' b f c := by
  obtain ⟨D, h1, h2⟩ := h
  exact ⟨D, h1.kept hg hne, h2⟩
theorem Sm.lt {w : World} {b c : Nat} {f : List UInt8 → Option Value} (h : Sm w b f c) : b < w.heap.size := by
  obtain ⟨D, h1, h2⟩ := h
  exact h1.lt
theorem Sm.same {w w' : World} {b c : Nat} {f : List UInt8 → Option Value} (h : Sm w b f c) (hb : w'.heap[b]? = w.heap[b]?) : Sm w' b f c := by
  obtain ⟨D, ⟨es, clock, h1, h2, h3, h4⟩, h5⟩ := h
  exact ⟨D, ⟨es, clock, by rw [hb]; exact h1, h2, h3, h4⟩, h5⟩
theorem Sm.made (w : World) : Sm (w.alloc (.map #[] 0)) w.heap.size (fun _ => none) 0 :=
  ⟨_, World.ownsMap_made w Tryz.prog 9 _, fun x _ => ⟨rfl, rfl⟩⟩
theorem Sm.look {w : World} {b c : Nat} {f : List UInt8 → Option Value} (h : Sm w b f c) (t : ByteArray) (ht : t.size ≤ maxLen) :
    (Instr.lookup 64 (.map (some b)) (.string t) true).run Tryz.prog w = .ok (.tuple #[(f t.data.toList).getD zT, .bool (f t.data.toList).isSome]) w := by
  obtain ⟨D, h1, h2⟩ := h
  obtain ⟨x, ps, hrun, hx⟩ := h1.look_ok lawS Tryz.underlying64 (zero_T w) (show elV zT = some (.held zT, []) from rfl) (WideMaps.keyOf_string_mk Tryz.underlying9 (s := t) ht)
  obtain ⟨h3, h4⟩ := h2 t.data.toList (by rw [Array.length_toList]; exact ht)
  have h4' : D.atKey (.string t.data.toList) (.held zT) = .held ((f t.data.toList).getD zT) := h4
  have h3' : Maps.has D (.string t.data.toList) = (f t.data.toList).isSome := h3
  rw [h4'] at hx
  have hx' : some (DataW.held x, ([] : List MemPlace)) = some (DataW.held ((f t.data.toList).getD zT), ps) := hx
  simp only [Option.some.injEq, Prod.mk.injEq, DataW.held.injEq] at hx'
  rw [hrun, h3', hx'.1]
theorem Sm.put {w : World} {b c : Nat} {f : List UInt8 → Option Value} (h : Sm w b f c) (t : ByteArray) (x : Value) (ht : t.size ≤ maxLen) (hc : c ≤ 5000) :
    ∃ w', (Instr.mapUpdate 64 (.map (some b)) (.string t) x).run Tryz.prog w = .ok () w' ∧ Sm w' b (fun y => if y = t.data.toList then some x else f y) (c + 1) ∧ w.grownBy w' (some b) := by
  obtain ⟨D, h1, h2⟩ := h
  obtain ⟨w', hr, ho, hg⟩ := h1.update lawS Tryz.underlying64 (by unfold maxLen; omega) (WideMaps.keyOf_string_mk Tryz.underlying9 (s := t) ht) (show elV x = some (.held x, []) from rfl)
  refine ⟨w', hr, ⟨_, ho, fun y hy => ?_⟩, hg⟩
  show Maps.has (D.put (skey t.data.toList) _) (skey y) = _ ∧ (D.put (skey t.data.toList) _).atKey (skey y) _ = _
  by_cases e : y = t.data.toList
  · subst e
    rw [has_put_same h1.isMap (skey_is _), atKey_put_same h1.isMap (skey_is _)]
    simp
  · rw [has_put_other (skey_inj e), atKey_put_other (skey_inj e)]
    simp only [if_neg e]
    exact h2 y hy
end Go.Proofs.YtococaecjecjgaaGreatDoor.ly
/- A reader of a template's tokens: next, take, throw, want, name. -/
namespace Go.Proofs.YtococaecjecjgaaGreatDoor.tm
set_option linter.unusedVariables false
open Go.ChangeShapes Go.WideShapes Go.ChangeAt Go.RowKit
open mem lx ex

/-- What is thrown. -/
def thrownT (B : Nat) : Ending := .panicked [{ v := .iface 124 (.agg #[.iface 113 (.pointer (some ⟨B, 0, none⟩))]), recovered := false }]
/-- Words that are no names, and where those for numbers stand. -/
def wdV (t : List UInt8) : Int := match numW.findIdx? (fun p => p.1 == t) with | some i => (i : Int) | none => -1
def Wds (w : World) (mb : Nat) : Prop := ∃ n, Om w mb (fun t => if resv t = true then some (wdV t) else none) n
theorem gp_grown {P : Nat} {w w' : World} (h : Gp P w w') : w.grownBy w' (some P) := ⟨h.os, h.tape, h.output, h.size, fun k hk hne => h.block k hk (fun e => hne (by rw [e]))⟩
/-- A reader of these tokens, with so many blocks open. -/
structure RdT (w : World) (P : Nat) (s : ByteArray) (ts : List Tk) (d mb : Nat) : Prop where
  ex : ∃ (p : Option Addr) (c : Nat), w.heap[P]? = some (.cells #[.string s, .slice p ts.length c, .int .i64 (d : Int), .map (some mb)] 129 (0, 0)) ∧ ts.length ≤ c ∧ tr.In w p ts ∧ (∀ x, p = some x → x.block < P)
  mp : Wds w mb ∧ mb < P
  sx : ∃ pre, lx (L s) 0 = (pre ++ ts, none)
  sz : s.size ≤ 3000
theorem RdT.step {w w' : World} {P d mb : Nat} {s : ByteArray} {ts : List Tk} (h : RdT w P s ts d mb) (hb : Bl w w') : RdT w' P s ts d mb := by
  obtain ⟨p, c, h1, h2, h3, h4⟩ := h.ex
  obtain ⟨⟨n, hm⟩, hne⟩ := h.mp
  refine ⟨⟨p, c, by rw [Below.block hb P (lt_of_heap h1)]; exact h1, h2, h3.step hb, h4⟩, ⟨⟨n, hm.step (row := none) ⟨hb.os, hb.tape, hb.output, hb.size, fun k hk _ => Below.block hb k hk⟩ (by simp)⟩, hne⟩, h.sx, h.sz⟩
theorem RdT.is {w : World} {P d mb : Nat} {s : ByteArray} {ts : List Tk} (h : RdT w P s ts d mb) : ∃ cs, w.heap[P]? = some (.cells cs 129 (0, 0)) := by
  obtain ⟨p, c, h1, _⟩ := h.ex
  exact ⟨_, h1⟩
theorem RdT.lt {w : World} {P d mb : Nat} {s : ByteArray} {ts : List Tk} (h : RdT w P s ts d mb) : P < w.heap.size := by
  obtain ⟨cs, h1⟩ := h.is
  exact lt_of_heap h1
/-- What lies behind a reader is nothing to it. -/
theorem RdT.behind {w w' : World} {P N d mb : Nat} {s : ByteArray} {ts : List Tk} (h : RdT w P s ts d mb) (hg : w.grownBy w' (some N)) (hN : P < N) : RdT w' P s ts d mb := by
  obtain ⟨p, c, h1, h2, h3, h4⟩ := h.ex
  obtain ⟨⟨n, hm⟩, hne⟩ := h.mp
  have hP := lt_of_heap h1
  have hb : ∀ k, k ≤ P → w'.heap[k]? = w.heap[k]? := fun k hk => hg.block k (by omega) (fun e => by injection e with e; omega)
  refine ⟨⟨p, c, by rw [hb P (Nat.le_refl _)]; exact h1, h2, ?_, h4⟩, ⟨⟨n, hm.step hg (fun e => by injection e with e; omega)⟩, hne⟩, h.sx, h.sz⟩
  rcases h3 with h | ⟨x, k1, k2⟩
  · exact Or.inl h
  · refine Or.inr ⟨x, k1, fun k u hk => ?_⟩
    have h5 := k2 k u hk
    have hbk : (x.add k).block = x.block := by cases k <;> rfl
    have h6 := h4 x k1
    unfold World.cell? at h5 ⊢
    rw [hbk] at h5 ⊢
    rw [hb _ (by omega)]
    exact h5
theorem suf_len {s : ByteArray} {pre ts : List Tk} (h : lx (L s) 0 = (pre ++ ts, none)) : ts.length ≤ s.size ∧ (∀ t ∈ ts, t.t.length ≤ s.size) ∧ (∀ t ∈ ts, IsT t.t) := by
  have h1 := lx_len (L s) _ 0 (Nat.le_refl _)
  have h2 := lx_ch (L s) _ 0 (Nat.le_refl _) (Nat.zero_le _)
  rw [List.drop_zero] at h2
  rw [h] at h1 h2
  dsimp only at h1 h2
  rw [L_len, List.length_append] at h1
  have h3 := tok_len h2
  rw [L_len] at h3
  refine ⟨by omega, fun t ht => h3 t (by simp [ht]), ?_⟩
  have h4 : ∀ (l : List Tk) (p : Nat), Ch (L s) p l → ∀ t ∈ l, IsT t.t := by
    intro l
    induction l with
    | nil => intro p h t ht; cases ht
    | cons u r ih =>
      intro p h t ht
      obtain ⟨_, _, _, h4, h5⟩ := (show p ≤ u.a ∧ u.a + u.t.length ≤ (L s).length ∧ ((L s).drop u.a).take u.t.length = u.t ∧ IsT u.t ∧ Ch (L s) (u.a + u.t.length) r from h)
      rw [List.mem_cons] at ht
      rcases ht with rfl | ht
      · exact h4
      · exact ih _ h5 t ht
  exact fun t ht => h4 _ _ h2 t (by simp [ht])
theorem RdT.len {w : World} {P d mb : Nat} {s : ByteArray} {ts : List Tk} (h : RdT w P s ts d mb) : ts.length ≤ 3000 ∧ (∀ t ∈ ts, t.t.length ≤ 3000) ∧ (∀ t ∈ ts, IsT t.t) := by
  obtain ⟨pre, hp⟩ := h.sx
  obtain ⟨h1, h2, h3⟩ := suf_len hp
  have := h.sz
  exact ⟨by omega, fun t ht => by have := h2 t ht; omega, h3⟩
theorem RdT.hdlen {w : World} {P d mb : Nat} {s : ByteArray} {ts : List Tk} (h : RdT w P s ts d mb) : (hd s.size ts).t.length ≤ 3000 := by
  cases ts with
  | nil => exact Nat.zero_le _
  | cons t r => exact h.len.2.1 t (by simp)
set_option maxRecDepth 10000 in
theorem next_at (w : World) (P d mb : Nat) (s : ByteArray) (ts : List Tk) (h : RdT w P s ts d mb) :
    Calls Tryz.prog 133 #[.pointer (some ⟨P, 0, none⟩)] w fun e w' => e = .returned (tkV (hd s.size ts)) ∧ Bl w w' := by
  have hl := h.len.1
  obtain ⟨p, c, h1, h2, h3, h4⟩ := h.ex
  have hP := lt_of_heap h1
  have c0 : w.cell? ⟨P, 1, none⟩ = some (.slice p ts.length c) := by rw [cell_of h1]; rfl
  have c1 : w.cell? ⟨P, 0, none⟩ = some (.string s) := by rw [cell_of h1]; rfl
  cases ts with
  | nil =>
    rw [show ([] : List Tk).length = 0 from rfl] at c0
    clear h1 h2 h3 h4 hl h
    go_enter Tryz.func133, Tryz.ntmps133
    go_wp2
    exact bodyPost_ret (v := tkV ⟨[], s.size⟩) (results_cell_row rfl _ _ w.heap.size 145 #[.string ⟨#[]⟩, .int .i64 (s.size : Int)] (0, 0) _ rfl (new_at w _) Tryz.underlying145 rfl infoT) rfl ⟨rfl, (Bl.refl _).alloc _⟩
  | cons t ts =>
    obtain ⟨x, rfl, g0, g1⟩ := h3.at' 0 (by simp)
    obtain ⟨n, hn⟩ : ∃ n, n = ts.length := ⟨_, rfl⟩
    rw [show (t :: ts).length = n + 1 by simp [hn]] at c0 h2 hl
    simp only [Nat.zero_mul, Addr.add_zero'] at g0 g1
    rw [show (t :: ts)[0] = t from rfl] at g0 g1
    have q1 := h4 x rfl
    have hne : ((((n + 1 : Nat) : Int)) == 0) = false := by rw [beq_eq_false_iff_ne]; omega
    have hxs : ¬ x.block = w.heap.size := by omega
    have g0' := at_bl ((Bl.refl w).alloc (.cells #[.string ⟨#[]⟩, .int .i64 0] 145)) g0
    have g1' := at_bl ((Bl.refl w).alloc (.cells #[.string ⟨#[]⟩, .int .i64 0] 145)) g1
    clear h1 h3 h4 hn h
    go_enter Tryz.func133, Tryz.ntmps133
    go_wp2
    exact bodyPost_ret (v := tkV t) (results_cell_row rfl _ _ w.heap.size 145 #[.string (tx t.t), .int .i64 (t.a : Int)] (0, 0) _ rfl (new_at w _) Tryz.underlying145 rfl infoT) rfl ⟨rfl, (Bl.refl _).alloc _⟩
theorem tail_sx {s : ByteArray} {ts : List Tk} (h : ∃ pre, lx (L s) 0 = (pre ++ ts, none)) : ∃ pre, lx (L s) 0 = (pre ++ ts.tail, none) := by
  obtain ⟨pre, hp⟩ := h
  cases ts with
  | nil => exact ⟨pre, hp⟩
  | cons t r => exact ⟨pre ++ [t], by rw [hp]; simp⟩
/-- What another world keeps of a reader. -/
theorem RdT.gp' {w w' : World} {P d mb : Nat} {s : ByteArray} {ts ts' : List Tk} (h : RdT w P s ts d mb) (hg : Gp P w w') (hx : ∃ (p : Option Addr) (c : Nat), w'.heap[P]? = some (.cells #[.string s, .slice p ts'.length c, .int .i64 (d : Int), .map (some mb)] 129 (0, 0)) ∧ ts'.length ≤ c ∧ tr.In w' p ts' ∧ (∀ x, p = some x → x.block < P))
    (hs : ∃ pre, lx (L s) 0 = (pre ++ ts', none)) : RdT w' P s ts' d mb := by
  obtain ⟨⟨n, hm⟩, hne⟩ := h.mp
  exact ⟨hx, ⟨⟨n, hm.step (gp_grown hg) (fun e => by injection e with e; omega)⟩, hne⟩, hs, h.sz⟩
set_option maxRecDepth 10000 in
theorem take_at (w : World) (P d mb : Nat) (s : ByteArray) (ts : List Tk) (h : RdT w P s ts d mb) :
    Calls Tryz.prog 131 #[.pointer (some ⟨P, 0, none⟩)] w fun e w' => e = .returned (tkV (hd s.size ts)) ∧ RdT w' P s ts.tail d mb ∧ Gp P w w' := by
  have hl := h.len.1
  have cN := fun wx (hb : Bl w wx) => next_at wx P d mb s ts (h.step hb)
  obtain ⟨p, c, h1, h2, h3, h4⟩ := h.ex
  have hP := lt_of_heap h1
  have HR : Hid (RdT w P s ts d mb) := h
  clear h
  obtain ⟨N, hN⟩ : ∃ N, N = w.heap.size := ⟨_, rfl⟩
  have hPN : ¬ P = N := by omega
  have keep : ∀ w2 : World, Bl (w.alloc (.cells #[.string ⟨#[]⟩, .int .i64 0] 145)) w2 → w2.heap[N]? = some (.cells #[.string ⟨#[]⟩, .int .i64 0] 145 (0, 0)) ∧ Bl w w2 ∧ N < w2.heap.size := by
    intro w2 hb
    have h0 := new_at w (.cells #[.string ⟨#[]⟩, .int .i64 0] 145)
    rw [← hN] at h0
    have h1 := Below.block hb N (lt_of_heap h0)
    rw [h0] at h1
    exact ⟨h1, ((Bl.refl _).alloc _).trans hb, lt_of_heap h1⟩
  cases ts with
  | nil =>
    unfold tkV at cN ⊢
    have e0 : hd s.size ([] : List Tk) = ⟨[], s.size⟩ := rfl
    rw [e0] at cN ⊢
    generalize tx ([] : List UInt8) = S at *
    go_enter Tryz.func131, Tryz.ntmps131
    go_wp2_with fail
    refine (cN _ ((Bl.refl _).alloc _)).mono ?_
    rintro e w2 ⟨rfl, hb2⟩
    obtain ⟨k1, k2, k3⟩ := keep w2 hb2
    have c0 : w2.cell? ⟨P, 1, none⟩ = some (.slice p 0 c) := at_bl k2 (by rw [cell_of h1]; rfl)
    have hPs : P < w2.heap.size := by have := k2.size; omega
    have n0 : w2.cell? ⟨N, 0, none⟩ = some (.string ⟨#[]⟩) := by rw [cell_of k1]; rfl
    have n1 : w2.cell? ⟨N, 1, none⟩ = some (.int .i64 0) := by rw [cell_of k1]; rfl
    have z0 : w2.frozen? ⟨N, 0, none⟩ = false := by simp [World.frozen?, k1]
    have z1 : w2.frozen? ⟨N, 1, none⟩ = false := by simp [World.frozen?, k1]
    have HK : Hid (Bl w w2 ∧ w2.heap[N]? = some (.cells #[.string ⟨#[]⟩, .int .i64 0] 145 (0, 0))) := ⟨k2, k1⟩
    rw [← hN]
    have HN : Hid (N = w.heap.size) := hN
    clear k1 k2 hb2 cN keep h1 h2 h3 h4 hN hP
    go_wp2
    have hw : w.heap.size ≤ N := by have := HN.out; omega
    have hbl : Bl w (((w2.setCell ⟨N, 0, none⟩ (.string S)).setCell ⟨N, 1, none⟩ (.int .i64 (s.size : Int))).alloc (.cells #[.string S, .int .i64 (s.size : Int)] 145)) := ((HK.out.1.setCell hw _).setCell hw _).alloc _
    have hcl : (((w2.setCell ⟨N, 0, none⟩ (.string S)).setCell ⟨N, 1, none⟩ (.int .i64 (s.size : Int))).alloc (.cells #[.string S, .int .i64 (s.size : Int)] 145)).heap[N]? = some (.cells #[.string S, .int .i64 (s.size : Int)] 145 (0, 0)) := by
      have h1 : ((w2.setCell ⟨N, 0, none⟩ (.string S)).setCell ⟨N, 1, none⟩ (.int .i64 (s.size : Int))).heap[N]? = some (.cells #[.string S, .int .i64 (s.size : Int)] 145 (0, 0)) := by simp [World.setCell, Array.getElem?_modify, HK.out.2]
      rw [Below.block ((Bl.refl _).alloc _) N (lt_of_heap h1)]
      exact h1
    exact bodyPost_ret (v := .agg #[.string S, .int .i64 (s.size : Int)]) (results_cell_row rfl _ _ N 145 #[.string S, .int .i64 (s.size : Int)] (0, 0) _ rfl hcl Tryz.underlying145 rfl infoT) rfl ⟨rfl, HR.out.step hbl, Gp.bl hbl⟩
  | cons t ts =>
    unfold tkV at cN ⊢
    have e0 : hd s.size (t :: ts) = t := rfl
    rw [e0] at cN ⊢
    obtain ⟨n, hn⟩ : ∃ n, n = ts.length := ⟨_, rfl⟩
    have hx : ∃ x, p = some x := by
      rcases h3 with h | ⟨x, h, _⟩
      · cases h
      · exact ⟨x, h⟩
    obtain ⟨x, rfl⟩ := hx
    obtain ⟨q1, q2, q3⟩ := h3.cut rfl h2
    have hc1 : 1 ≤ c := by simp at h2; omega
    have hlc : (t :: ts).length = n + 1 := by simp [hn]
    rw [hlc] at h1 h2 hl
    have xb1 := h4 x rfl
    obtain ⟨S, hS⟩ : ∃ S, S = tx t.t := ⟨_, rfl⟩
    obtain ⟨A, hA⟩ : ∃ A, A = t.a := ⟨_, rfl⟩
    rw [← hS, ← hA] at cN ⊢
    go_enter Tryz.func131, Tryz.ntmps131
    go_wp2_with fail
    refine (cN _ ((Bl.refl _).alloc _)).mono ?_
    rintro e w2 ⟨rfl, hb2⟩
    obtain ⟨k1, k2, k3⟩ := keep w2 hb2
    have h1' : w2.heap[P]? = _ := (Below.block k2 P hP).trans h1
    have c0 : w2.cell? ⟨P, 1, none⟩ = some (.slice (some x) (n + 1) c) := by rw [cell_of h1']; rfl
    have z2 : w2.frozen? ⟨P, 1, none⟩ = false := by simp [World.frozen?, h1']
    have hPs : P < w2.heap.size := by have := k2.size; omega
    have n0 : w2.cell? ⟨N, 0, none⟩ = some (.string ⟨#[]⟩) := by rw [cell_of k1]; rfl
    have n1 : w2.cell? ⟨N, 1, none⟩ = some (.int .i64 0) := by rw [cell_of k1]; rfl
    have z0 : w2.frozen? ⟨N, 0, none⟩ = false := by simp [World.frozen?, k1]
    have z1 : w2.frozen? ⟨N, 1, none⟩ = false := by simp [World.frozen?, k1]
    have HK : Hid (Bl w w2 ∧ w2.heap[N]? = some (.cells #[.string ⟨#[]⟩, .int .i64 0] 145 (0, 0)) ∧ w2.heap[P]? = some (.cells #[.string s, .slice (some x) (n + 1) c, .int .i64 (d : Int), .map (some mb)] 129 (0, 0))) := ⟨k2, k1, h1'⟩
    rw [← hN]
    have HN : Hid (N = w.heap.size ∧ P < w.heap.size ∧ x.block < P) := ⟨hN, hP, xb1⟩
    obtain ⟨Q, hQ⟩ : ∃ Q, Q = (if c = 1 then some x else some ⟨x.block, x.off + 2, none⟩) := ⟨_, rfl⟩
    have hQ' : (if c = 1 then some x else some ⟨x.block, x.off + 2, none⟩) = Q := hQ.symm
    rw [← hQ] at q1
    have HQ : Hid (tr.In w Q ts ∧ n = ts.length ∧ ts.length ≤ c - 1 ∧ (∀ y, Q = some y → y.block = x.block)) := by
      refine ⟨q1, hn, q3, fun y hy => ?_⟩
      rw [hQ] at hy
      split at hy
      · injection hy with hy; rw [← hy]
      · injection hy with hy; rw [← hy]
    clear k1 k2 hb2 cN keep h1 h1' h3 h4 hN hP q1 q2 q3 hQ hn hlc xb1 hS hA
    go_wp2
    obtain ⟨r1, r2, r3⟩ := HN.out
    have hw : w.heap.size ≤ N := by omega
    obtain ⟨W, hW⟩ : ∃ W, W = (((w2.setCell ⟨P, 1, none⟩ (.slice Q n (c - 1))).setCell ⟨N, 0, none⟩ (.string S)).setCell ⟨N, 1, none⟩ (.int .i64 (A : Int))) := ⟨_, rfl⟩
    have hg : Gp P w (W.alloc (.cells #[.string S, .int .i64 (A : Int)] 145)) := by
      rw [hW]
      exact ((((Gp.bl HK.out.1).trans (Gp.set _)).setNew hw _).setNew hw _).alloc _
    have hcN : W.heap[N]? = some (.cells #[.string S, .int .i64 (A : Int)] 145 (0, 0)) := by
      rw [hW]
      simp [World.setCell, Array.getElem?_modify, HK.out.2.1, hPN]
    have hcP : W.heap[P]? = some (.cells #[.string s, .slice Q n (c - 1), .int .i64 (d : Int), .map (some mb)] 129 (0, 0)) := by
      rw [hW]
      have hNP : ¬ N = P := fun e => hPN e.symm
      simp [World.setCell, Array.getElem?_modify, HK.out.2.2, hNP]
    have hbW : Bl W (W.alloc (.cells #[.string S, .int .i64 (A : Int)] 145)) := (Bl.refl _).alloc _
    have hcl := (Below.block hbW N (lt_of_heap hcN)).trans hcN
    have hcP' := (Below.block hbW P (lt_of_heap hcP)).trans hcP
    rw [← hW]
    clear hW
    obtain ⟨s1, s2, s3, s4⟩ := HQ.out
    refine bodyPost_ret (v := .agg #[.string S, .int .i64 (A : Int)]) (results_cell_row rfl _ _ N 145 #[.string S, .int .i64 (A : Int)] (0, 0) _ rfl hcl Tryz.underlying145 rfl infoT) rfl ⟨rfl, HR.out.gp' hg ⟨Q, c - 1, ?_, s3, ?_, ?_⟩ (tail_sx HR.out.sx), hg⟩
    · show _ = some (Obj.cells #[_, .slice Q ts.length (c - 1), _, _] _ _)
      rw [← s2]; exact hcP'
    · exact In.gp s1 hg (fun y hy => by have := s4 y hy; rw [this]; exact ⟨by omega, by omega⟩)
    · intro y hy
      have := s4 y hy
      rw [this]
      exact r3
theorem throw_at (t : Tk) (c : Int) (w : World) : Calls Tryz.prog 97 #[tkV t, .int .i64 c] w fun e w' => ∃ B, e = thrownT B ∧ w.heap.size ≤ B ∧ AtX w' B c t.a ∧ Bl w w' := by
  unfold tkV
  go_enter Tryz.func97, Tryz.ntmps97
  go_wp2
  have hn := new_at (w.alloc (.cells #[.string (tx t.t), .int .i64 (t.a : Int)] 145)) (.cells #[.int .i64 c, .int .i64 (t.a : Int)] 116)
  have hs : (w.alloc (.cells #[.string (tx t.t), .int .i64 (t.a : Int)] 145)).heap.size = w.heap.size + 1 := by simp
  rw [hs] at hn
  exact ⟨rfl, _, rfl, Nat.le_succ _, hn, ((Bl.refl _).alloc _).alloc _⟩
/-- What reading answers. -/
def Ans {α : Type} (V : World → Value → α → Prop) (P : Nat) (s : ByteArray) (d mb : Nat) (w : World) (q : Except (Int × Nat) (α × List Tk)) (e : Ending) (w' : World) : Prop :=
  Gp P w w' ∧ match q with
  | .ok (x, r) => ∃ v, e = .returned v ∧ V w' v x ∧ RdT w' P s r d mb
  | .error (c, p) => ∃ B : Nat, e = thrownT B ∧ w.heap.size ≤ B ∧ AtX w' B c (p : Int)
end Go.Proofs.YtococaecjecjgaaGreatDoor.tm
/- A reader of a template's tokens: want, name; what lies where it is laid. -/
namespace Go.Proofs.YtococaecjecjgaaGreatDoor.tm
set_option linter.unusedVariables false
open Go.ChangeShapes Go.WideShapes Go.ChangeAt Go.RowKit
open mem lx ex

theorem Ans.err {α : Type} {V : World → Value → α → Prop} {P d mb : Nat} {s : ByteArray} {w w' : World} {c : Int} {p B : Nat} (hg : Gp P w w') (hB : w.heap.size ≤ B) (hA : AtX w' B c (p : Int)) : Ans (α := α) V P s d mb w (.error (c, p)) (thrownT B) w' := ⟨hg, B, rfl, hB, hA⟩
def wantU (en : Nat) (m : List UInt8) (ts : List Tk) : Rs Unit := match want en m ts with | .ok r => .ok ((), r) | .error e => .error e
theorem wantU_yes {en : Nat} {m : List UInt8} {ts : List Tk} (h : (hd en ts).t = m) : wantU en m ts = .ok ((), ts.tail) := by unfold wantU want; rw [if_pos h]
theorem wantU_no {en : Nat} {m : List UInt8} {ts : List Tk} (h : ¬ (hd en ts).t = m) : wantU en m ts = .error (3, (hd en ts).a) := by unfold wantU want; rw [if_neg h]
/-- A token's variable. -/
structure Tv (w : World) (N : Nat) (S : ByteArray) (a : Int) : Prop where
  h : w.heap[N]? = some (.cells #[.string S, .int .i64 a] 145 (0, 0))
theorem Tv.facts {w : World} {N : Nat} {S : ByteArray} {a : Int} (h : Tv w N S a) : w.cell? ⟨N, 0, none⟩ = some (.string S) ∧ w.cell? ⟨N, 1, none⟩ = some (.int .i64 a) ∧ w.frozen? ⟨N, 0, none⟩ = false ∧ w.frozen? ⟨N, 1, none⟩ = false ∧ N < w.heap.size := by
  obtain ⟨h⟩ := h
  exact ⟨by rw [cell_of h]; rfl, by rw [cell_of h]; rfl, by simp [World.frozen?, h], by simp [World.frozen?, h], lt_of_heap h⟩
theorem Tv.new (w : World) (S : ByteArray) (a : Int) : Tv (w.alloc (.cells #[.string S, .int .i64 a] 145)) w.heap.size S a := ⟨new_at _ _⟩
theorem Tv.bl {w w' : World} {N : Nat} {S : ByteArray} {a : Int} (h : Tv w N S a) (hb : Bl w w') : Tv w' N S a := ⟨by rw [Below.block hb N (lt_of_heap h.h)]; exact h.h⟩
theorem Tv.gp {w w' : World} {P N : Nat} {S : ByteArray} {a : Int} (h : Tv w N S a) (hb : Gp P w w') (hne : N ≠ P) : Tv w' N S a := ⟨by rw [hb.block N (lt_of_heap h.h) hne]; exact h.h⟩
theorem Tv.set {w : World} {N : Nat} {S S' : ByteArray} {a a' : Int} (h : Tv w N S a) : Tv ((w.setCell ⟨N, 0, none⟩ (.string S')).setCell ⟨N, 1, none⟩ (.int .i64 a')) N S' a' := ⟨by simp [World.setCell, Array.getElem?_modify, h.h]⟩
theorem Gp.two {P N : Nat} {w0 w : World} {x y : Value} (h : Gp P w0 w) (hN : w0.heap.size ≤ N) : Gp P w0 ((w.setCell ⟨N, 0, none⟩ x).setCell ⟨N, 1, none⟩ y) := (h.setNew hN x).setNew hN y
theorem RdT.two {w : World} {P N d mb : Nat} {s : ByteArray} {ts : List Tk} (h : RdT w P s ts d mb) (hN : P < N) (x y : Value) : RdT ((w.setCell ⟨N, 0, none⟩ x).setCell ⟨N, 1, none⟩ y) P s ts d mb := (h.behind (grown_set w N 0 x) hN).behind (grown_set _ N 1 y) hN
set_option maxRecDepth 10000 in
theorem want_at (m : ByteArray) (w : World) (P d mb : Nat) (s : ByteArray) (ts : List Tk) (h : RdT w P s ts d mb) :
    Calls Tryz.prog 96 #[.pointer (some ⟨P, 0, none⟩), .string m] w fun e w' => Ans (fun _ v (x : Unit) => v = tkV (hd s.size ts)) P s d mb w (wantU s.size (L m) ts) e w' := by
  have hb0 : Bl w (w.alloc (.cells #[.string ⟨#[]⟩, .int .i64 0] 145)) := (Bl.refl _).alloc _
  have cT := take_at _ P d mb s ts (h.step hb0)
  have hn0 := Tv.new w ⟨#[]⟩ 0
  obtain ⟨N, hN⟩ : ∃ N, N = w.heap.size := ⟨_, rfl⟩
  obtain ⟨w1, hw1⟩ : ∃ w1, w1 = w.alloc (.cells #[.string ⟨#[]⟩, .int .i64 0] 145) := ⟨_, rfl⟩
  have hPw := h.lt
  rw [← hw1] at cT hb0
  rw [← hw1, ← hN] at hn0
  obtain ⟨T, hT⟩ : ∃ T, T = hd s.size ts := ⟨_, rfl⟩
  rw [← hT] at cT ⊢
  have hthr := throw_at T 3
  have htl := tl_tx T.t
  have hPN : P < N := by omega
  unfold tkV at cT hthr ⊢
  obtain ⟨q, hq⟩ : ∃ q, q = wantU s.size (L m) ts := ⟨_, rfl⟩
  rw [← hq]
  have hqq : (T.t = L m → q = .ok ((), ts.tail)) ∧ (¬ T.t = L m → q = .error (3, T.a)) := by
    rw [hq, hT]
    exact ⟨fun h => wantU_yes h, fun h => wantU_no h⟩
  obtain ⟨S, hS⟩ : ∃ S, S = tx T.t := ⟨_, rfl⟩
  rw [← hS] at cT hthr htl ⊢
  have HR : Hid (RdT w P s ts d mb ∧ N = w.heap.size) := ⟨h, hN⟩
  clear h hPw hS hT hq
  go_enter Tryz.func96, Tryz.ntmps96
  go_wp2_with fail
  rw [← hw1]
  refine cT.mono ?_
  rintro e w2 ⟨rfl, hR2, hg2⟩
  have hT2 := hn0.gp hg2 (by omega)
  obtain ⟨g0, g1, z0, z1, hNs⟩ := hT2.facts
  have HG : Hid (Gp P w w2 ∧ RdT w2 P s ts.tail d mb ∧ Tv w2 N ⟨#[]⟩ 0) := ⟨(Gp.bl hb0).trans hg2, hR2, hT2⟩
  rw [← hN]
  clear hw1 hb0 hN hn0 hT2 hg2 hR2 cT
  have hml : m.toList = L m := ByteArray.toList_eq m
  by_cases hm : T.t = L m
  · have HQ : Hid (q = .ok ((), ts.tail)) := hqq.1 hm
    have hb : (S.toList == m.toList) = true := by rw [htl, hml, hm]; simp
    clear hm hqq htl hml hthr
    go_wp2
    have h0 : w.heap.size ≤ N := by have := HR.out.2; omega
    have hv := HG.out.2.2.set (S' := S) (a' := (T.a : Int))
    have hg := Gp.two (x := .string S) (y := .int .i64 (T.a : Int)) HG.out.1 h0
    have hr := HG.out.2.1.two hPN (.string S) (.int .i64 (T.a : Int))
    have hbl : Bl ((w2.setCell ⟨N, 0, none⟩ (.string S)).setCell ⟨N, 1, none⟩ (.int .i64 (T.a : Int))) (((w2.setCell ⟨N, 0, none⟩ (.string S)).setCell ⟨N, 1, none⟩ (.int .i64 (T.a : Int))).alloc (.cells #[.string S, .int .i64 (T.a : Int)] 145)) := (Bl.refl _).alloc _
    rw [HQ.out]
    exact bodyPost_ret (v := .agg #[.string S, .int .i64 (T.a : Int)]) (results_cell_row rfl _ _ N 145 #[.string S, .int .i64 (T.a : Int)] (0, 0) _ rfl (hv.bl hbl).h Tryz.underlying145 rfl infoT) rfl ⟨hg.trans (Gp.bl hbl), _, rfl, rfl, hr.step hbl⟩
  · have HQ : Hid (q = .error (3, T.a)) := hqq.2 hm
    have hb : (S.toList == m.toList) = false := by rw [htl, hml, beq_eq_false_iff_ne]; exact hm
    clear hm hqq htl hml
    go_wp2_with fail
    refine (hthr _).mono ?_
    rintro e w4 ⟨B, rfl, k1, k2, k3⟩
    unfold thrownT
    go_wp2
    have hs := HG.out.1.size
    have hs2 : w2.heap.size ≤ (w2.alloc (.cells #[.string S, .int .i64 (T.a : Int)] 145)).heap.size := ((Bl.refl _).alloc _).size
    refine ⟨rfl, ?_⟩
    rw [HQ.out]
    exact Ans.err (HG.out.1.trans (Gp.bl (((Bl.refl _).alloc _).trans k3))) (by omega) k2
end Go.Proofs.YtococaecjecjgaaGreatDoor.tm
/- A reader of a template's tokens: name. -/
namespace Go.Proofs.YtococaecjecjgaaGreatDoor.tm
set_option linter.unusedVariables false
open Go.ChangeShapes Go.WideShapes Go.ChangeAt Go.RowKit
open mem lx ex

theorem RdT.look {w : World} {P d mb : Nat} {s : ByteArray} {ts : List Tk} (h : RdT w P s ts d mb) (t : List UInt8) (ht : t.length ≤ 3000) :
    (Instr.lookup 100 (.map (some mb)) (.string (tx t)) true).run Tryz.prog w = .ok (.tuple #[.int .i64 (if resv t = true then wdV t else 0), .bool (resv t)]) w := by
  obtain ⟨⟨n, hm⟩, _⟩ := h.mp
  have := hm.look (tx t) (by rw [tx_size]; omega)
  rw [this]
  have e : (tx t).data.toList = t := L_tx t
  rw [e]
  cases hr : resv t with
  | true => simp
  | false => simp
theorem RdT.cells {w : World} {P d mb : Nat} {s : ByteArray} {ts : List Tk} (h : RdT w P s ts d mb) : ∃ p c, w.cell? ⟨P, 0, none⟩ = some (.string s) ∧ w.cell? ⟨P, 1, none⟩ = some (.slice p ts.length c) ∧ w.cell? ⟨P, 2, none⟩ = some (.int .i64 (d : Int)) ∧ w.cell? ⟨P, 3, none⟩ = some (.map (some mb)) ∧ (∀ j, w.frozen? ⟨P, j, none⟩ = false) ∧ tr.In w p ts ∧ ts.length ≤ c ∧ (∀ x, p = some x → x.block < P) := by
  obtain ⟨p, c, h1, h2, h3, h4⟩ := h.ex
  exact ⟨p, c, by rw [cell_of h1]; rfl, by rw [cell_of h1]; rfl, by rw [cell_of h1]; rfl, by rw [cell_of h1]; rfl, fun j => by simp [World.frozen?, h1], h3, h2, h4⟩
theorem name_is (en : Nat) (ts : List Tk) : (resv (hd en ts).t = true ∨ isN (hd en ts).t = false → name en ts = .error (3, (hd en ts).a)) ∧ (resv (hd en ts).t = false → isN (hd en ts).t = true → 12 < (hd en ts).t.length → name en ts = .error (4, (hd en ts).a)) ∧ (resv (hd en ts).t = false → isN (hd en ts).t = true → ¬ 12 < (hd en ts).t.length → name en ts = .ok ((hd en ts).t, ts.tail)) := by
  unfold name
  refine ⟨fun h => by rw [if_pos h], fun h1 h2 h3 => by rw [if_neg (by rw [h1, h2]; simp), if_pos h3], fun h1 h2 h3 => by rw [if_neg (by rw [h1, h2]; simp), if_neg h3]⟩
set_option maxRecDepth 10000 in
set_option maxHeartbeats 1000000 in
theorem name_at (w : World) (P d mb : Nat) (s : ByteArray) (ts : List Tk) (h : RdT w P s ts d mb) :
    Calls Tryz.prog 98 #[.pointer (some ⟨P, 0, none⟩)] w fun e w' => Ans (fun _ v t => v = tkV ⟨t, (hd s.size ts).a⟩) P s d mb w (name s.size ts) e w' := by
  have hb0 : Bl w (w.alloc (.cells #[.string ⟨#[]⟩, .int .i64 0] 145)) := (Bl.refl _).alloc _
  have cT := take_at _ P d mb s ts (h.step hb0)
  have hn0 := Tv.new w ⟨#[]⟩ 0
  obtain ⟨N, hN⟩ : ∃ N, N = w.heap.size := ⟨_, rfl⟩
  obtain ⟨w1, hw1⟩ : ∃ w1, w1 = w.alloc (.cells #[.string ⟨#[]⟩, .int .i64 0] 145) := ⟨_, rfl⟩
  have hPw := h.lt
  have hlen := h.hdlen
  rw [← hw1] at cT hb0
  rw [← hw1, ← hN] at hn0
  obtain ⟨o1, o2, o3⟩ := name_is s.size ts
  obtain ⟨T, hT⟩ : ∃ T, T = hd s.size ts := ⟨_, rfl⟩
  rw [← hT] at cT o1 o2 o3 hlen ⊢
  have cN := Name_at (tx T.t)
  rw [L_tx, isN_nmb] at cN
  have hthr := throw_at T
  have hPN : P < N := by omega
  have HO : Hid (T = hd s.size ts) := hT
  unfold tkV at cT hthr
  obtain ⟨q, hq⟩ : ∃ q, q = name s.size ts := ⟨_, rfl⟩
  rw [← hq] at o1 o2 o3 ⊢
  have hsz : (tx T.t).size = T.t.length := tx_size _
  obtain ⟨b, hb⟩ : ∃ b, b = resv T.t := ⟨_, rfl⟩
  obtain ⟨S, hS⟩ : ∃ S, S = tx T.t := ⟨_, rfl⟩
  rw [← hS] at cT hthr cN hsz
  have HR : Hid (RdT w P s ts d mb ∧ N = w.heap.size ∧ S = tx T.t ∧ b = resv T.t) := ⟨h, hN, hS, hb⟩
  rw [← hb] at o1 o2 o3
  clear h hPw hS hT hq hb
  go_enter Tryz.func98, Tryz.ntmps98
  go_wp2_with fail
  rw [← hw1]
  refine cT.mono ?_
  rintro e w2 ⟨rfl, hR2, hg2⟩
  have hT2 := hn0.gp hg2 (by omega)
  have hn2 := Tv.new w2 S (T.a : Int)
  obtain ⟨N2, hN2⟩ : ∃ N2, N2 = w2.heap.size := ⟨_, rfl⟩
  obtain ⟨w3, hw3⟩ : ∃ w3, w3 = w2.alloc (.cells #[.string S, .int .i64 (T.a : Int)] 145) := ⟨_, rfl⟩
  have hb23 : Bl w2 w3 := by rw [hw3]; exact (Bl.refl _).alloc _
  rw [← hw3, ← hN2] at hn2
  have hR3 := (hR2.step hb23).step (Bl.refl w3).drew
  have hlk := hR3.look T.t hlen
  rw [← HR.out.2.2.1, ← HR.out.2.2.2] at hlk
  obtain ⟨p, c, d0, d1, d2, d3, dz, _⟩ := hR3.cells
  obtain ⟨g0, g1, z0, z1, hNs⟩ := (hn2.bl (Bl.refl w3).drew).facts
  obtain ⟨r, hr⟩ : ∃ r, r = (if b = true then wdV T.t else 0) := ⟨_, rfl⟩
  rw [← hr] at hlk
  have HG : Hid (Gp P w w3 ∧ RdT w3 P s ts.tail d mb ∧ Tv w3 N ⟨#[]⟩ 0 ∧ Tv w3 N2 S (T.a : Int)) := ⟨((Gp.bl hb0).trans hg2).trans (Gp.bl hb23), hR2.step hb23, hT2.bl hb23, hn2⟩
  have HM : Hid (N2 = w2.heap.size ∧ Bl w2 w3 ∧ N < w2.heap.size) := ⟨hN2, hb23, hT2.facts.2.2.2.2⟩
  clear hr hn2 hb0 hn0 hT2 hg2 hR2 cT hR3 hb23 hw1
  go_upto_region 2 with fail
  rw [← hN, ← hN2, ← hw3]
  clear hw3 hN2 hN
  go_region
  have HW : Hid (Gp P w w3.drew ∧ RdT w3.drew P s ts.tail d mb ∧ Tv w3.drew N ⟨#[]⟩ 0 ∧ Tv w3.drew N2 S (T.a : Int) ∧ w.heap.size ≤ N) := ⟨HG.out.1.trans (Gp.bl (Bl.refl _).drew), HG.out.2.1.step (Bl.refl _).drew, HG.out.2.2.1.bl (Bl.refl _).drew, HG.out.2.2.2.bl (Bl.refl _).drew, by have := HR.out.2.1; omega⟩
  obtain ⟨y0, y1, x0, x1, hNN⟩ := HW.out.2.2.1.facts
  obtain ⟨W, hW⟩ : ∃ W, W = w3.drew := ⟨_, rfl⟩
  rw [← hW] at HW g0 g1 z0 z1 hNs y0 y1 x0 x1 hNN ⊢
  have hNe : ¬ N = N2 := by
    have h1 := HM.out.1
    have h2 := HR.out.2.1
    have h3 := HG.out.1.size
    have h4 := HM.out.2.2
    omega
  clear hlk d0 d1 d2 d3 dz hW
  -- a word that may not stand there
  have bad : ∀ (W' : World) (c : Int) (e : Ending) (w4 : World), Bl W W' → (∃ B, e = thrownT B ∧ W'.heap.size ≤ B ∧ AtX w4 B c (T.a : Int) ∧ Bl W' w4) → q = .error (c, T.a) → ∃ B, e = thrownT B ∧ Ans (fun _ v (t : List UInt8) => v = tkV ⟨t, T.a⟩) P s d mb w q e w4 := by
    rintro W' c e w4 hb ⟨B, rfl, k1, k2, k3⟩ hq
    refine ⟨B, rfl, ?_⟩
    rw [hq]
    exact Ans.err (HW.out.1.trans (Gp.bl (hb.trans k3))) (by have := HW.out.1.size; have := hb.size; omega) k2
  have HB : Hid (∀ (W' : World) (c : Int) (e : Ending) (w4 : World), Bl W W' → (∃ B, e = thrownT B ∧ W'.heap.size ≤ B ∧ AtX w4 B c (T.a : Int) ∧ Bl W' w4) → q = .error (c, T.a) → ∃ B, e = thrownT B ∧ Ans (fun _ v (t : List UInt8) => v = tkV ⟨t, T.a⟩) P s d mb w q e w4) := bad
  clear bad
  have hb1 : Bl W (W.alloc (.cells #[.string S, .int .i64 (T.a : Int)] 145)) := (Bl.refl _).alloc _
  cases hbb : b with
  | true =>
    have HQ : Hid (q = .error (3, T.a)) := o1 (Or.inl hbb)
    clear o1 o2 o3 hbb
    go_wp2_with fail
    refine (hthr _ _).mono ?_
    rintro e w4 hh
    obtain ⟨B, rfl, hans⟩ := HB.out _ _ _ _ (Bl.refl _) hh HQ.out
    clear hh
    unfold thrownT
    go_wp2
    exact ⟨rfl, hans⟩
  | false =>
    by_cases hn : isN T.t = true
    · rw [hn] at cN
      by_cases h12 : 12 < T.t.length
      · have HQ : Hid (q = .error (4, T.a)) := o2 hbb hn h12
        rw [← hsz] at h12
        have h12' : (12 : Int) < (S.size : Int) := by omega
        clear o1 o2 o3 hbb hn hsz
        go_wp2_with fail
        refine (cN _).mono ?_
        rintro e w1 ⟨rfl, rfl⟩
        go_wp2_with fail
        refine (hthr _ _).mono ?_
        rintro e w4 hh
        obtain ⟨B, rfl, hans⟩ := HB.out _ _ _ _ (Bl.refl _) hh HQ.out
        clear hh
        unfold thrownT
        go_wp2
        exact ⟨rfl, hans⟩
      · have HQ : Hid (q = .ok (T.t, ts.tail)) := o3 hbb hn h12
        rw [← hsz] at h12
        have h12' : ¬ (12 : Int) < (S.size : Int) := by omega
        clear o1 o2 o3 hbb hn hsz
        go_wp2_with fail
        refine (cN _).mono ?_
        rintro e w1 ⟨rfl, rfl⟩
        go_wp2
        have hv := HW.out.2.2.1.set (S' := S) (a' := (T.a : Int))
        have hg := Gp.two (x := .string S) (y := .int .i64 (T.a : Int)) HW.out.1 HW.out.2.2.2.2
        have hr := HW.out.2.1.two hPN (.string S) (.int .i64 (T.a : Int))
        rw [HQ.out]
        exact bodyPost_ret (v := .agg #[.string S, .int .i64 (T.a : Int)]) (results_cell_row rfl _ _ N 145 #[.string S, .int .i64 (T.a : Int)] (0, 0) _ rfl hv.h Tryz.underlying145 rfl infoT) rfl ⟨hg, _, rfl, (by show Value.agg _ = Value.agg _; rw [HR.out.2.2.1]), hr⟩
    · rw [Bool.not_eq_true] at hn
      rw [hn] at cN
      have HQ : Hid (q = .error (3, T.a)) := o1 (Or.inr hn)
      clear o1 o2 o3 hbb hn hsz
      go_wp2_with fail
      refine (cN _).mono ?_
      rintro e w1 ⟨rfl, rfl⟩
      go_wp2_with fail
      refine (hthr _ _).mono ?_
      rintro e w4 hh
      obtain ⟨B, rfl, hans⟩ := HB.out _ _ _ _ (Bl.refl _) hh HQ.out
      clear hh
      unfold thrownT
      go_wp2
      exact ⟨rfl, hans⟩
end Go.Proofs.YtococaecjecjgaaGreatDoor.tm
/- Where the mark stands that ends an expression. -/
namespace Go.Proofs.YtococaecjecjgaaGreatDoor.tm
set_option linter.unusedVariables false
open Go.ChangeShapes Go.WideShapes Go.ChangeAt Go.RowKit
open mem lx ex

theorem mark_is (m : ByteArray) (b : Nat) (t : Tk) (w : World) (hb : w.cell? ⟨b, 0, none⟩ = some (.string m)) : Calls Tryz.prog 177 #[tkV t, .pointer (some ⟨b, 0, none⟩)] w fun e w' => e = .returned (.bool (decide (t.t = L m))) ∧ Bl w w' := by
  have hb' := at_bl ((Bl.refl w).alloc (.cells #[.string (tx t.t), .int .i64 (t.a : Int)] 145)) hb
  have hlt : b < w.heap.size := by
    rcases Nat.lt_or_ge b w.heap.size with h | h
    · exact h
    · simp [World.cell?, Array.getElem?_eq_none h] at hb
  have hne : ¬ b = w.heap.size := by omega
  have htl := tl_tx t.t
  have hml : m.toList = L m := ByteArray.toList_eq m
  have hD : (decide (t.t = L m)) = ((tx t.t).toList == m.toList) := by rw [htl, hml, Bool.eq_iff_iff]; simp
  unfold tkV
  rw [hD]
  clear hD htl hml
  generalize tx t.t = S at *
  go_enter Tryz.func177, Tryz.ntmps177
  go_wp2
  go_ret
  exact ⟨rfl, (Bl.refl _).alloc _⟩
theorem upto_facts (m : List UInt8) (ts : List Tk) : (upto m ts).length ≤ ts.length ∧ (∀ i (h : i < ts.length), i < (upto m ts).length → ts[i].t ≠ m) ∧ ((h : (upto m ts).length < ts.length) → ts[(upto m ts).length].t = m) := by
  induction ts with
  | nil => exact ⟨Nat.le_refl _, fun i h => absurd h (Nat.not_lt_zero _), fun h => absurd h (Nat.not_lt_zero _)⟩
  | cons t ts ih =>
    obtain ⟨h1, h2, h3⟩ := ih
    by_cases ht : t.t = m
    · have e : upto m (t :: ts) = [] := by
        unfold upto
        rw [List.takeWhile_cons_of_neg (p := fun t : Tk => t.t != m) (by simp [ht])]
      simp only [e, List.length_nil]
      exact ⟨Nat.zero_le _, fun i _ h => absurd h (Nat.not_lt_zero _), fun _ => ht⟩
    · have e : upto m (t :: ts) = t :: upto m ts := by
        unfold upto
        rw [List.takeWhile_cons_of_pos (p := fun t : Tk => t.t != m) (by simpa using ht)]
      simp only [e, List.length_cons]
      refine ⟨by omega, fun i h h' => ?_, fun h => ?_⟩
      · cases i with
        | zero => exact ht
        | succ i => exact h2 i (by simpa using h) (by omega)
      · exact h3 (by simpa using h)
/-- Where it stands, or -1. -/
def whereM (m : List UInt8) (ts : List Tk) : Int := if (upto m ts).length < ts.length then ((upto m ts).length : Int) else -1
set_option maxRecDepth 10000 in
theorem index_at (m : ByteArray) (b : Nat) (ts : List Tk) (p : Option Addr) (c : Nat) (w : World) (hin : tr.In w p ts) (hl : ts.length ≤ c) (hn : ts.length ≤ 3000) (hb : w.cell? ⟨b, 0, none⟩ = some (.string m)) :
    Calls Tryz.prog 176 #[.slice p ts.length c, .func (.func 177) #[] #[.pointer (some ⟨b, 0, none⟩)]] w fun e w' => e = .returned (.int .i64 (whereM (L m) ts)) ∧ Bl w w' := by
  obtain ⟨U, hU⟩ : ∃ U, U = (upto (L m) ts).length := ⟨_, rfl⟩
  obtain ⟨u1, u2, u3⟩ := upto_facts (L m) ts
  rw [← hU] at u1 u2
  have hW : whereM (L m) ts = if U < ts.length then (U : Int) else -1 := by unfold whereM; rw [hU]
  have u3' : ∀ (h : U < ts.length), ts[U].t = L m := by subst hU; exact u3
  rw [hW]
  clear hW u3 hU
  obtain ⟨n, hnn⟩ : ∃ n, n = ts.length := ⟨_, rfl⟩
  have HI : Hid (tr.In w p ts ∧ n = ts.length ∧ (∀ i (h : i < ts.length), i < U → ts[i].t ≠ L m) ∧ (∀ (h : U < ts.length), ts[U].t = L m)) := ⟨hin, hnn, u2, u3'⟩
  rw [← hnn] at u1 hl hn ⊢
  clear hin u2 u3' hnn
  have hsl : p = none → n = 0 := fun h => by
    rcases HI.out.1 with h1 | ⟨x, h1, _⟩
    · rw [HI.out.2.1, h1]; rfl
    · rw [h] at h1; cases h1
  clear hsl
  go_enter Tryz.func176, Tryz.ntmps176
  go_wp2
  go_loopw [8] (fun i wr => ∃ k : Nat, k ≤ U ∧ i = .int .i64 (k : Int) ∧ Hid (Bl w wr)) (fun i _ => n - (intOf i).toNat)
  case atStart => exact ⟨0, by omega, rfl, Bl.refl _⟩
  case round =>
    obtain ⟨k, hk, rfl, HB⟩ := hrel
    by_cases hkn : k < n
    · have d1 : decide ((k : Int) < (n : Int)) = true := decide_eq_true (by omega)
      have hk' : k < ts.length := by have := HI.out.2.1; omega
      obtain ⟨x, hx, q0, q1⟩ := (HI.out.1.step HB.out).at' k hk'
      have HT : Hid (k < U → ts[k].t ≠ L m) := HI.out.2.2.1 k hk'
      have HT2 : Hid (k = U → ts[k].t = L m) := fun h => by subst h; exact HI.out.2.2.2 hk'
      generalize ts[k] = t at *
      have cM := mark_is m b t wr (at_bl HB.out hb)
      subst hx
      unfold tkV at cM
      have hnn : ¬ n ≤ k := by omega
      by_cases hkU : k < U
      · have hD : decide (t.t = L m) = false := decide_eq_false (HT.out hkU)
        rw [hD] at cM
        clear hD
        go_wp2_with fail
        refine cM.mono ?_
        rintro e w2 ⟨rfl, hb2⟩
        go_wp2
        go_roundw
        case rel => exact ⟨k + 1, by omega, by go_num, HB.out.trans hb2⟩
        case measure => simp [intOf]; omega
      · obtain rfl : k = U := by omega
        have hD : decide (t.t = L m) = true := decide_eq_true (HT2.out rfl)
        rw [hD] at cM
        clear hD
        go_wp2_with fail
        refine cM.mono ?_
        rintro e w2 ⟨rfl, hb2⟩
        go_wp2
        go_ret
        exact ⟨ret_int rfl, HB.out.trans hb2⟩
    · have d1 : decide ((k : Int) < (n : Int)) = false := decide_eq_false (by omega)
      have hUn : ¬ U < n := by omega
      go_wp2
      go_ret
      exact ⟨ret_int rfl, HB.out⟩
end Go.Proofs.YtococaecjecjgaaGreatDoor.tm
