/- Texts laid together: TmT, TmG, TmH, TmI. -/
import Derived.Test.YtpanodaecjlgaaaGreatDoorZ17
import Derived.Test.YtpanodaecjlgaaaGreatDoorZ13
/- The words that are no names: taken of package tmpl. -/
namespace Go.Proofs.YtpanodaecjlgaaaGreatDoor.tm
set_option linter.unusedVariables false
open Go.ChangeShapes Go.WideShapes Go.ChangeAt Go.RowKit Go.Shelf
open mem lx ex

/-- The words, with so many of those for numbers. -/
def mp : Nat → List UInt8 → Option Int
  | 0 => fun y => if y = wCheck then some (-1) else if y = wCount then some (-1) else if y = wSize then some (-1) else if y = wWhen then some (-1) else if y = wBytes then some (-1) else if y = wStruct then some (-1) else none
  | i + 1 => fun y => if y = (numW[i]?.map (·.1)).getD [] then some (i : Int) else mp i y
theorem mp_all : mp 12 = fun t => if resv t = true then some (wdV t) else none := by
  funext y
  by_cases h : y ∈ [wStruct, wBytes, wWhen, wSize, wCount, wCheck] ∨ y ∈ numW.map (·.1)
  · have key : ∀ y, y ∈ [wStruct, wBytes, wWhen, wSize, wCount, wCheck] ∨ y ∈ numW.map (·.1) → mp 12 y = if resv y = true then some (wdV y) else none := by
      intro y hy
      rcases hy with hy | hy
      · have k : ∀ y ∈ [wStruct, wBytes, wWhen, wSize, wCount, wCheck], mp 12 y = if resv y = true then some (wdV y) else none := by decide
        exact k y hy
      · have k : ∀ y ∈ numW.map (·.1), mp 12 y = if resv y = true then some (wdV y) else none := by decide
        exact k y hy
    exact key y h
  · have h1 : ∀ w ∈ [wStruct, wBytes, wWhen, wSize, wCount, wCheck], ¬ y = w := fun w hw e => h (Or.inl (by rw [e]; exact hw))
    have h2 : ∀ w ∈ numW.map (·.1), ¬ y = w := fun w hw e => h (Or.inr (by rw [e]; exact hw))
    have hr : resv y = false := by
      unfold resv
      rw [Bool.or_eq_false_iff]
      refine ⟨?_, ?_⟩
      · rw [Bool.eq_false_iff]
        intro hc
        rw [List.contains_iff_mem] at hc
        exact h1 y hc rfl
      · unfold numOf
        have : numW.find? (fun p => p.1 == y) = none := by
          rw [List.find?_eq_none]
          intro p hp
          have := h2 p.1 (List.mem_map_of_mem hp)
          simp
          exact fun e => this e.symm
        rw [this]; rfl
    rw [hr]
    have m0 : mp 0 y = none := by
      unfold mp
      rw [if_neg (h1 _ (by simp)), if_neg (h1 _ (by simp)), if_neg (h1 _ (by simp)), if_neg (h1 _ (by simp)), if_neg (h1 _ (by simp)), if_neg (h1 _ (by simp))]
    have step : ∀ i, i ≤ 12 → mp i y = none := by
      intro i
      induction i with
      | zero => intro _; exact m0
      | succ i ih =>
        intro hi
        show (if y = (numW[i]?.map (·.1)).getD [] then some (i : Int) else mp i y) = none
        rw [if_neg, ih (by omega)]
        have hlt : i < numW.length := by have : numW.length = 12 := rfl; omega
        rw [List.getElem?_eq_getElem hlt]
        exact h2 _ (List.mem_map_of_mem (List.getElem_mem hlt))
    rw [step 12 (by omega)]
    rfl
def kv6 (w w' : World) (t : ByteArray) (b : Nat) : Prop := (Instr.mapUpdate 66 (.map (some b)) (.string t) (.int .i64 (-1))).run Tryz.prog w = .ok () w'
/-- The map that is made. -/
theorem six (w : World) : ∃ w1 w2 w3 w4 w5 w6 : World, kv6 (w.alloc (.map #[] 0)) w1 ⟨#[115, 116, 114, 117, 99, 116]⟩ w.heap.size ∧ kv6 w1 w2 ⟨#[98, 121, 116, 101, 115]⟩ w.heap.size ∧ kv6 w2 w3 ⟨#[119, 104, 101, 110]⟩ w.heap.size ∧ kv6 w3 w4 ⟨#[115, 105, 122, 101]⟩ w.heap.size ∧ kv6 w4 w5 ⟨#[99, 111, 117, 110, 116]⟩ w.heap.size ∧ kv6 w5 w6 ⟨#[99, 104, 101, 99, 107]⟩ w.heap.size ∧
    Bl w w6 ∧ Om w6 w.heap.size (mp 0) 6 := by
  have hr : R64 (-1) := by unfold R64; omega
  obtain ⟨w1, r1, o1, g1⟩ := (Om.made w).put ⟨#[115, 116, 114, 117, 99, 116]⟩ (-1) (by decide) hr (by omega)
  obtain ⟨w2, r2, o2, g2⟩ := o1.put ⟨#[98, 121, 116, 101, 115]⟩ (-1) (by decide) hr (by omega)
  obtain ⟨w3, r3, o3, g3⟩ := o2.put ⟨#[119, 104, 101, 110]⟩ (-1) (by decide) hr (by omega)
  obtain ⟨w4, r4, o4, g4⟩ := o3.put ⟨#[115, 105, 122, 101]⟩ (-1) (by decide) hr (by omega)
  obtain ⟨w5, r5, o5, g5⟩ := o4.put ⟨#[99, 111, 117, 110, 116]⟩ (-1) (by decide) hr (by omega)
  obtain ⟨w6, r6, o6, g6⟩ := o5.put ⟨#[99, 104, 101, 99, 107]⟩ (-1) (by decide) hr (by omega)
  refine ⟨w1, w2, w3, w4, w5, w6, r1, r2, r3, r4, r5, r6, ?_, o6⟩
  have b0 : Bl w (w.alloc (.map #[] 0)) := (Bl.refl w).alloc _
  have ne : ∀ k, some w.heap.size = some k → w.heap.size ≤ k := fun k hk => by injection hk with hk; omega
  exact bl_grown (bl_grown (bl_grown (bl_grown (bl_grown (bl_grown b0 g1 ne) g2 ne) g3 ne) g4 ne) g5 ne) g6 ne
theorem info48 : (Tryz.prog.info? 105).map (·.size) = some nuL.length := by kernel_rfl
def numV (p : List UInt8 × Nat × Nat × Bool) : Value := .agg #[.string (tx p.1), .int .i64 (p.2.1 : Int), .int .i64 (p.2.2.1 : Int), .bool p.2.2.2]
theorem run_num (w : World) (j : Nat) (p : List UInt8 × Nat × Nat × Bool) (h : numW[j]? = some p) : (Instr.index 105 (.agg nuL.toArray) (.int .i64 (j : Int))).run Tryz.prog w = .ok (numV p) w := by
  rcases j with _ | _ | _ | _ | _ | _ | _ | _ | _ | _ | _ | _ | j
  all_goals first | (obtain rfl := Option.some.inj h; kernel_rfl) | exact absurd h (by simp [numW])
/-- What taken answers. -/
def TkA (w : World) (e : Ending) (w' : World) : Prop := ∃ b, e = .returned (.map (some b)) ∧ w.heap.size ≤ b ∧ b < w'.heap.size ∧ Wds w' b ∧ Bl w w'
theorem om_lt {w : World} {b c : Nat} {f : List UInt8 → Option Int} (h : Om w b f c) : b < w.heap.size := by
  obtain ⟨D, h1, _⟩ := h
  exact h1.lt
set_option maxRecDepth 10000 in
set_option maxHeartbeats 2000000 in
theorem taken_at (w : World) (hG : Gt w) : Calls Tryz.prog 34 #[] w fun e w' => TkA w e w' := by
  have hmm : ∀ w, (Instr.makeMap 66 none).run Tryz.prog w = .ok (.map (some w.heap.size)) (w.alloc (.map #[] 0)) := fun w => by kernel_rfl
  obtain ⟨w1, w2, w3, w4, w5, w6, r1, r2, r3, r4, r5, r6, hb6, o6⟩ := six w
  unfold kv6 at r1 r2 r3 r4 r5 r6
  have hR : Hid (w6.rangeAt 0 0 nuL) := (hG.bl hb6).nu
  obtain ⟨b, hb⟩ : ∃ b, b = w.heap.size := ⟨_, rfl⟩
  rw [← hb] at o6
  have H6 : Hid (Om w6 b (mp 0) 6 ∧ Bl w w6 ∧ b = w.heap.size) := ⟨o6, hb6, hb⟩
  clear o6 hb6 hb hG
  go_enter Tryz.func34, Tryz.ntmps34
  go_upto_region 2 with fail
  rw [← H6.out.2.2]
  clear r1 r2 r3 r4 r5 r6 hmm
  refine wp_region_lit ?_
  refine wpList_load_mid rfl 105 _ rfl 0 0 rfl nuL _ hR.out Tryz.underlying105 rfl info48 ?_
  generalize hAV : Value.agg nuL.toArray = AV
  have HAV : Hid (Value.agg nuL.toArray = AV) := hAV
  clear hAV hR
  go_wp2
  go_loopw [7] (fun i wr => ∃ j : Nat, j ≤ 12 ∧ i = .int .i64 (j : Int) ∧ Hid (Om wr b (mp j) (6 + j) ∧ Bl w wr)) (fun i _ => 12 - (intOf i).toNat)
  case atStart => exact ⟨0, by omega, rfl, H6.out.1, H6.out.2.1⟩
  case round =>
    obtain ⟨j, hj, rfl, HB⟩ := hrel
    by_cases h12 : j < 12
    · have d1 : decide ((j : Int) < 12) = true := decide_eq_true (by omega)
      obtain ⟨p, hp⟩ : ∃ p, numW[j]? = some p := ⟨_, List.getElem?_eq_getElem (show j < numW.length from h12)⟩
      have hix := fun w => run_num w j p hp
      rw [HAV.out] at hix
      obtain ⟨w7, hw7⟩ : ∃ w7, w7 = wr.alloc (.cells #[.string (tx p.1), .int .i64 (p.2.1 : Int), .int .i64 (p.2.2.1 : Int), .bool p.2.2.2] 104) := ⟨_, rfl⟩
      have hb7 : Bl wr w7 := by rw [hw7]; exact (Bl.refl _).alloc _
      obtain ⟨N, hN⟩ : ∃ N, N = wr.heap.size := ⟨_, rfl⟩
      have h7 : w7.heap[N]? = some (.cells #[.string (tx p.1), .int .i64 (p.2.1 : Int), .int .i64 (p.2.2.1 : Int), .bool p.2.2.2] 104 (0, 0)) := by rw [hw7, hN]; exact new_at _ _
      have g0 : w7.cell? ⟨N, 0, none⟩ = some (.string (tx p.1)) := by rw [cell_of h7]; rfl
      have hNs := lt_of_heap h7
      have o7 := HB.out.1.step (row := none) ⟨hb7.os, hb7.tape, hb7.output, hb7.size, fun k hk _ => Below.block hb7 k hk⟩ (by simp)
      have hlen : (tx p.1).size ≤ 5000 := by
        rw [tx_size]
        have key : ∀ p ∈ numW, p.1.length ≤ 5000 := by decide
        exact key p (List.mem_of_getElem? hp)
      obtain ⟨w8, r8, o8, g8⟩ := o7.put (tx p.1) (j : Int) hlen (by unfold R64; omega) (by omega)
      have H8 : Hid (Om w8 b (mp (j + 1)) (6 + (j + 1)) ∧ Bl w w8) := by
        refine ⟨?_, bl_grown (HB.out.2.trans hb7) g8 (fun k hk => by injection hk with hk; have := H6.out.2.2; omega)⟩
        have e1 : (tx p.1).data.toList = p.1 := L_tx _
        rw [e1] at o8
        have e2 : mp (j + 1) = fun y => if y = p.1 then some (j : Int) else mp j y := by
          show (fun y => if y = (numW[j]?.map (·.1)).getD [] then some (j : Int) else mp j y) = _
          rw [hp]; rfl
        rw [e2]
        exact o8
      unfold numV at hix
      clear hp h7 hb7 o7 hlen o8 g8
      generalize tx p.1 = S at *
      generalize p.2.1 = p1 at *
      generalize p.2.2.1 = p2 at *
      generalize p.2.2.2 = p3 at *
      go_upto_region 5 with fail
      rw [← hw7, ← hN]
      clear hw7 hN
      go_wp2
      go_roundw
      case rel => exact ⟨j + 1, by omega, by go_num, H8.out⟩
      case measure => simp [intOf]; omega
    · obtain rfl : j = 12 := by omega
      have HF := HB.out
      rw [mp_all] at HF
      have HF' : Hid (Om wr b (fun t => if resv t = true then some (wdV t) else none) (6 + 12) ∧ Bl w wr) := HF
      clear HF
      go_wp2
      go_ret
      exact ⟨b, rfl, by have := H6.out.2.2; omega, om_lt HF'.out.1, ⟨_, HF'.out.1⟩, HF'.out.2⟩
end Go.Proofs.YtpanodaecjlgaaaGreatDoor.tm
/- Parse of package tmpl. -/
namespace Go.Proofs.YtpanodaecjlgaaaGreatDoor.tm
set_option linter.unusedVariables false
open Go.ChangeShapes Go.WideShapes Go.ChangeAt Go.RowKit Go.Shelf
open mem lx ex

theorem tcatch_idle (p q : Addr) (w : World) :
    CallsD Tryz.prog 33 #[.pointer (some p), .pointer (some q)] .returning w fun e u' w' => e = .returned (.tuple #[]) ∧ u' = .returning ∧ Bl w w' := by
  have hta : ∀ w : World, (Instr.typeAssert Value.nilIface 20 63 true).run Tryz.prog w = .ok (.tuple #[.agg #[.nilIface], .bool false]) w := fun _ => by kernel_rfl
  refine callsD_of_wpS Tryz.func33 rfl fun c₀ cs hu => ?_
  apply wpS_seq
  apply wpS_region
  simp [wpOpsS, go_sem, recoverD, hu, Tryz.ntmps33, Exit.thenS, hta]
  apply wpS_seq
  apply wpS_region
  simp [wpOpsS, go_sem, Exit.thenS]
  refine wpS_cond (t := false) (by simp [Act.eval, Array.replicate]) ?_
  simp only [Bool.false_eq_true, if_false]
  refine wpS_of_wp (wp_skip ?_)
  cases c₀
  simp_all [bodyPostS, results, Tryz.results33]
  exact (Bl.refl _).alloc _
/-- Parse's variables. -/
structure PvT (w wr : World) (N : Nat) (v e : Value) : Prop where
  v1 : Vr wr N v 23
  v2 : Vr wr (N + 1) e 30
  bl : Bl w wr
  n : N = w.heap.size
theorem PvT.step {w wr w' : World} {N : Nat} {v e : Value} (h : PvT w wr N v e) (hb : Bl wr w') : PvT w w' N v e := ⟨h.v1.step hb, h.v2.step hb, h.bl.trans hb, h.n⟩
theorem PvT.gp {P : Nat} {w wr w' : World} {N : Nat} {v e : Value} (h : PvT w wr N v e) (hg : Gp P wr w') (hP : N + 1 < P) : PvT w w' N v e :=
  ⟨Vr.gp h.v1 hg (by omega), Vr.gp h.v2 hg (by omega), hg.below h.bl (by have := h.n; omega), h.n⟩
theorem PvT.set1 {w wr : World} {N : Nat} {v e : Value} (h : PvT w wr N v e) (x : Value) : PvT w (wr.setCell ⟨N, 0, none⟩ x) N x e :=
  ⟨h.v1.set _, h.v2.set_other (by omega) _, h.bl.setCell (by show w.heap.size ≤ N; have := h.n; omega) _, h.n⟩
theorem PvT.set2 {w wr : World} {N : Nat} {v e : Value} (h : PvT w wr N v e) (x : Value) : PvT w (wr.setCell ⟨N + 1, 0, none⟩ x) N v x :=
  ⟨h.v1.set_other (by omega) _, h.v2.set _, h.bl.setCell (by show w.heap.size ≤ N + 1; have := h.n; omega) _, h.n⟩
theorem PvT.new (w : World) : PvT w ((w.alloc (.cells #[.slice none 0 0] 23)).alloc (.cells #[.nilIface] 30)) w.heap.size (.slice none 0 0) .nilIface := by
  refine ⟨(Vr.new w _ _).step ((Bl.refl _).alloc _), ?_, ((Bl.refl _).alloc _).alloc _, rfl⟩
  have := Vr.new (w.alloc (.cells #[.slice none 0 0] 23)) .nilIface 30
  simpa using this
theorem AtX.bl {w w' : World} {B : Nat} {c p : Int} (h : AtX w B c p) (hb : Bl w w') : AtX w' B c p := by
  unfold AtX at h ⊢
  rw [Below.block hb B (lt_of_heap h)]
  exact h
def thrV (B : Nat) : Value := .iface 63 (.agg #[.iface 110 (.pointer (some ⟨B, 0, none⟩))])
def atV (B : Nat) : Value := .iface 110 (.pointer (some ⟨B, 0, none⟩))
theorem tcatch_thrown (N B : Nat) (w0 w : World) (v e0 : Value) (c p : Int) (h : PvT w0 w N v e0) (hA : AtX w B c p) (hB : N + 1 < B) :
    CallsD Tryz.prog 33 #[.pointer (some ⟨N, 0, none⟩), .pointer (some ⟨N + 1, 0, none⟩)] (.panicking [{ v := thrV B, recovered := false }]) w fun e u' w' =>
      e = .returned (.tuple #[]) ∧ u' = .panicking [{ v := thrV B, recovered := true }] ∧ PvT w0 w' N (.slice none 0 0) (atV B) ∧ AtX w' B c p := by
  have hta : ∀ w : World, (Instr.typeAssert (thrV B) 20 63 true).run Tryz.prog w = .ok (.tuple #[.agg #[.iface 110 (.pointer (some ⟨B, 0, none⟩))], .bool true]) w := fun _ => by kernel_rfl
  refine callsD_of_wpS Tryz.func33 rfl fun c₀ cs hu => ?_
  apply wpS_seq
  apply wpS_region
  simp [wpOpsS, go_sem, recoverD, hu, Tryz.ntmps33, Exit.thenS, hta]
  apply wpS_seq
  apply wpS_region
  simp [wpOpsS, go_sem, Exit.thenS]
  refine wpS_cond (t := true) (by simp [Act.eval, Array.replicate]) ?_
  simp only [if_true]
  have hM := h.v2.lt
  obtain ⟨M, hMe⟩ : ∃ M, M = w.heap.size := ⟨_, rfl⟩
  rw [← hMe] at hM ⊢
  obtain ⟨w1, hw1⟩ : ∃ w1, w1 = w.alloc (.cells #[.iface 110 (.pointer (some ⟨B, 0, none⟩))] 63) := ⟨_, rfl⟩
  have hb1 : Bl w w1 := by rw [hw1]; exact (Bl.refl _).alloc _
  have hcM : w1.cell? ⟨M, 0, none⟩ = some (.iface 110 (.pointer (some ⟨B, 0, none⟩))) := by
    have := new_at w (.cells #[.iface 110 (.pointer (some ⟨B, 0, none⟩))] 63)
    rw [hMe, hw1, cell_of this]; rfl
  have H1 : Hid (PvT w0 w1 N v e0 ∧ AtX w1 B c p) := ⟨h.step hb1, AtX.bl hA hb1⟩
  rw [← hw1]
  clear hw1 hb1 hA h hMe
  have c1 := H1.out.1.v1.cell
  have c2 := H1.out.1.v2.cell
  have f1 := H1.out.1.v1.frozen
  have f2 := H1.out.1.v2.frozen
  have hMN : ¬ M = N := by omega
  have hMN1 : ¬ M = N + 1 := by omega
  refine wpS_of_wp ?_
  refine wp_calm ?_
  go_region
  all_goals
    refine Calm.in ?_
    have H9 : PvT w0 ((w1.setCell ⟨N, 0, none⟩ (.slice none 0 0)).setCell ⟨N + 1, 0, none⟩ (atV B)).drew N (.slice none 0 0) (atV B) ∧ AtX ((w1.setCell ⟨N, 0, none⟩ (.slice none 0 0)).setCell ⟨N + 1, 0, none⟩ (atV B)).drew B c p :=
      ⟨((H1.out.1.set1 _).set2 _).step (Bl.refl _).drew, AtX.bl ((H1.out.2.set (by omega)).set (by omega)) (Bl.refl _).drew⟩
    unfold atV at H9
    generalize ((w1.setCell ⟨N, 0, none⟩ (.slice none 0 0)).setCell ⟨N + 1, 0, none⟩ (.iface 110 (.pointer (some ⟨B, 0, none⟩)))).drew = w9 at H9 ⊢
    cases c₀
    simp_all [bodyPostS, results, Tryz.results33, atV]
end Go.Proofs.YtpanodaecjlgaaaGreatDoor.tm
/- Parse of package tmpl, whole. -/
namespace Go.Proofs.YtpanodaecjlgaaaGreatDoor.tm
set_option linter.unusedVariables false
open Go.ChangeShapes Go.WideShapes Go.ChangeAt Go.RowKit Go.Shelf
open mem lx ex

theorem IsTs.keep {w w' : World} {ok : Nat → Prop} {v : Value} {l : List Ty} (h : IsTs w ok v l) (hk : ∀ g, ok g → g < w.heap.size → w'.heap[g]? = w.heap[g]?) (hs : w.heap.size ≤ w'.heap.size) (hx : Kx w w') : IsTs w' ok v l := by
  obtain ⟨p, c, cs, h1, h2, h3⟩ := h
  exact ⟨p, c, cs, h1, h2.keep hk hs, h3.keep hk hs hx⟩
theorem IsTs.setv {w : World} {b base : Nat} {v x y : Value} {t : TypeId} {l : List Ty} (h : IsTs w (fun g => base ≤ g) v l) (hv : Vr w b y t) (ht : t ≠ 118) (hb : b < base) : IsTs (w.setCell ⟨b, 0, none⟩ x) (fun g => base ≤ g) v l :=
  h.keep (fun g hg hlt => (grown_set w b 0 x).block g hlt (fun e => by injection e with e; omega)) (by simp [World.setCell]) (Kx.set hv ht)
/-- What a text's structs are, or what is told, and where. -/
noncomputable def prT (l : List UInt8) : Except (Int × Nat) (List Ty) :=
  match (lx l 0).2 with
  | some p => .error (3, p)
  | none => typs nb l.length 8 (lx l 0).1
/-- What Parse answers. -/
def TPA (s : ByteArray) (w : World) (e : Ending) (w' : World) : Prop :=
  Bl w w' ∧ match prT (L s) with
  | .ok l => ∃ v, e = .returned (.tuple #[v, .nilIface]) ∧ IsTs w' (fun g => w.heap.size ≤ g) v l
  | .error (c, p) => ∃ B : Nat, e = .returned (.tuple #[.slice none 0 0, atV B]) ∧ w.heap.size ≤ B ∧ AtX w' B c (p : Int)
theorem TPA.of_err {s : ByteArray} {w w' : World} {c : Int} {p B : Nat} (hq : prT (L s) = .error (c, p)) (hb : Bl w w') (hB : w.heap.size ≤ B) (hA : AtX w' B c (p : Int)) : TPA s w (.returned (.tuple #[.slice none 0 0, atV B])) w' := by
  refine ⟨hb, ?_⟩
  rw [hq]
  exact ⟨B, rfl, hB, hA⟩
theorem TPA.of_ok {s : ByteArray} {w w' : World} {l : List Ty} {v : Value} (hq : prT (L s) = .ok l) (hb : Bl w w') (hv : IsTs w' (fun g => w.heap.size ≤ g) v l) : TPA s w (.returned (.tuple #[v, .nilIface])) w' := by
  refine ⟨hb, ?_⟩
  rw [hq]
  exact ⟨v, rfl, hv⟩
theorem Parse_long (s : ByteArray) (w : World) (hs : 3000 < s.size) :
    Calls Tryz.prog 10 #[.string s] w fun e w' => e = .returned (.tuple #[.slice none 0 0, .iface 24 (.int .i64 4)]) ∧ Bl w w' := by
  have hmf : ∀ (fn : Fn) (first cap : Array Value) (w : World), (Instr.makeFunc fn first cap).run Tryz.prog w = .ok (.func fn first cap) w := fun _ _ _ _ => rfl
  have cL := fun w => Lex_long s w hs
  have H0 : Hid _ := PvT.new w
  obtain ⟨N, hN⟩ : ∃ N, N = w.heap.size := ⟨_, rfl⟩
  rw [← hN] at H0
  go_enter_defers Tryz.func10, Tryz.ntmps10
  go_wp2_with fail
  refine (cL _).mono ?_
  rintro e w2 ⟨rfl, rfl⟩
  rw [← hN]
  generalize (w.alloc (.cells #[.slice none 0 0] 23)).alloc (.cells #[.nilIface] 30) = w2 at *
  have c1 := H0.out.v1.cell
  have c2 := H0.out.v2.cell
  have f1 := H0.out.v1.frozen
  have f2 := H0.out.v2.frozen
  clear hN
  go_wp2
  have HW : Hid (PvT w (w2.setCell ⟨N + 1, 0, none⟩ (.iface 24 (.int .i64 4))) N (.slice none 0 0) (.iface 24 (.int .i64 4))) := H0.out.set2 _
  generalize w2.setCell ⟨N + 1, 0, none⟩ (.iface 24 (.int .i64 4)) = W at HW ⊢
  clear c1 c2 f1 f2
  have c1 := HW.out.v1.cell
  have c2 := HW.out.v2.cell
  have f1 := HW.out.v1.frozen
  have f2 := HW.out.v2.frozen
  refine wp_calm ?_
  go_region
  all_goals
    refine Calm.in ?_
    have H9 : Hid (PvT w ((W.setCell ⟨N, 0, none⟩ (.slice none 0 0)).setCell ⟨N + 1, 0, none⟩ (.iface 24 (.int .i64 4))).drew N (.slice none 0 0) (.iface 24 (.int .i64 4))) := ((HW.out.set1 _).set2 _).step (Bl.refl _).drew
    generalize ((W.setCell ⟨N, 0, none⟩ (.slice none 0 0)).setCell ⟨N + 1, 0, none⟩ (.iface 24 (.int .i64 4))).drew = W9 at H9 ⊢
    clear c1 c2 f1 f2
    have c1 := H9.out.v1.cell
    have c2 := H9.out.v2.cell
    go_simp
    go_wp2
    simp [bodyPostD, Leaves, results, Tryz.results10, go_sem, c1, c2]
    exact H9.out.bl
set_option maxRecDepth 10000 in
set_option maxHeartbeats 2000000 in
theorem Parse_at (s : ByteArray) (w : World) (hs : s.size ≤ 3000) (hG : Gt w) :
    Calls Tryz.prog 10 #[.string s] w fun e w' => TPA s w e w' := by
  have hmf : ∀ (fn : Fn) (first cap : Array Value) (w : World), (Instr.makeFunc fn first cap).run Tryz.prog w = .ok (.func fn first cap) w := fun _ _ _ _ => rfl
  have cL := fun wx (hb : Bl w wx) => Lex_at s wx hs (hG.gd.ms.step hb)
  have H0 : Hid _ := PvT.new w
  obtain ⟨N, hN⟩ : ∃ N, N = w.heap.size := ⟨_, rfl⟩
  rw [← hN] at H0
  have HG : Hid (Gt w) := hG
  have hcl := H0.out.bl
  clear hG
  go_enter_defers Tryz.func10, Tryz.ntmps10
  go_wp2_with fail
  refine (cL _ hcl).mono ?_
  rintro e w2 ⟨hb2, hans⟩
  rw [← hN]
  have H2 : Hid _ := H0.out.step hb2
  have c1 := H2.out.v1.cell
  have c2 := H2.out.v2.cell
  have f1 := H2.out.v1.frozen
  have f2 := H2.out.v2.frozen
  have hsz : N + 2 ≤ ((w.alloc (.cells #[.slice none 0 0] 23)).alloc (.cells #[.nilIface] 30)).heap.size := by have := H0.out.v2.lt; omega
  rcases hans with ⟨g1, v, rfl, g2⟩ | ⟨p, B, g1, rfl, g2, g3⟩
  · obtain ⟨ts, hts⟩ : ∃ ts, ts = (lx (L s) 0).1 := ⟨_, rfl⟩
    have hprs : prT (L s) = typs nb s.size 8 ts := by
      unfold prT
      rw [g1, ← hts, L_len]
    have hsx : ∃ pre, lx (L s) 0 = (pre ++ ts, none) := ⟨[], by rw [hts, List.nil_append, ← g1]⟩
    rw [← hts] at g2
    obtain ⟨vp, vc, rfl, hvc, hin⟩ := g2.view
    have HX : Hid (prT (L s) = typs nb s.size 8 ts ∧ (∃ pre, lx (L s) 0 = (pre ++ ts, none)) ∧ ts.length ≤ vc) := ⟨hprs, hsx, hvc⟩
    have HO : Hid (tr.Own w2 (N + 2) (.slice vp ts.length vc) ts) := g2.low hsz
    clear g1 g2 hprs hsx hts cL hN hcl hsz hin hvc
    have cT := fun wx (hb : Bl w wx) => taken_at wx (HG.out.bl hb)
    have H2b : Hid (PvT w (w2.setCell ⟨N + 1, 0, none⟩ .nilIface) N (.slice none 0 0) .nilIface ∧ tr.Own (w2.setCell ⟨N + 1, 0, none⟩ .nilIface) (N + 2) (.slice vp ts.length vc) ts) := by
      refine ⟨H2.out.set2 _, HO.out.kept (grown_set _ _ _ _) ?_⟩
      intro x hx e
      injection e with e
      have := (HO.out.block x hx).1
      omega
    have hbw := H2b.out.1.bl
    go_wp2_with fail
    generalize w2.setCell ⟨N + 1, 0, none⟩ .nilIface = w3 at *
    refine (cT _ hbw).mono ?_
    rintro e w4 ⟨mb, rfl, hm1, hm2, hm3, hb4⟩
    have H4 : Hid (PvT w w4 N (.slice none 0 0) .nilIface ∧ tr.Own w4 (N + 2) (.slice vp ts.length vc) ts) := ⟨H2b.out.1.step hb4, H2b.out.2.step hb4⟩
    obtain ⟨P, hP⟩ : ∃ P, P = w4.heap.size := ⟨_, rfl⟩
    obtain ⟨w5, hw5⟩ : ∃ w5, w5 = w4.alloc (.cells #[.string s, .slice vp ts.length vc, .int .i64 0, .map (some mb)] 69) := ⟨_, rfl⟩
    have hb5 : Bl w4 w5 := by rw [hw5]; exact (Bl.refl _).alloc _
    have H5 : Hid (PvT w w5 N (.slice none 0 0) .nilIface ∧ N + 1 < P) := ⟨H4.out.1.step hb5, by have := H4.out.1.v2.lt; omega⟩
    have hR5 : RdT w5 P s ts 0 mb := by
      have hn := new_at w4 (.cells #[.string s, .slice vp ts.length vc, .int .i64 0, .map (some mb)] 69)
      rw [← hw5, ← hP] at hn
      obtain ⟨vp', vc', hv', hvc', hin'⟩ := (H4.out.2.step hb5).view
      have e1 : vp' = vp := by injection hv' with h1 _ _; exact h1.symm
      have e2 : vc' = vc := by injection hv' with _ _ h3; exact h3.symm
      subst e1 e2
      refine ⟨⟨vp', vc', hn, hvc', hin', fun x hx => ?_⟩, ⟨?_, by omega⟩, HX.out.2.1, hs⟩
      · have hb := H4.out.2.block
        have := (hb x.block (by rw [hx]; rfl)).2
        omega
      · obtain ⟨n, hn'⟩ := hm3
        exact ⟨n, hn'.step (row := none) ⟨hb5.os, hb5.tape, hb5.output, hb5.size, fun k hk _ => Below.block hb5 k hk⟩ (by simp)⟩
    have hG5 : Gt w5 := HG.out.bl H5.out.1.bl
    have hGP : 6 ≤ P := by
      have h1 := (HG.out.bl (H4.out.1.bl)).gd.lt
      omega
    have cR := types_at w5 P mb s ts hR5 hG5 hGP
    have hP5 := hR5.lt
    have HH : Hid (P < w5.heap.size ∧ w.heap.size ≤ w5.heap.size) := ⟨hP5, H5.out.1.bl.size⟩
    clear cT HO H2 H2b hbw hm1 hm2 hm3 hb4 H4 hb5 hR5 hG5 hGP hP5 c1 c2 f1 f2 H0 hb2
    go_wp2_with fail
    rw [← hP, ← hw5]
    clear hw5 hP
    refine cR.mono ?_
    rintro e w6 ⟨hg6, hans⟩
    clear cR
    have H6 : Hid (PvT w w6 N (.slice none 0 0) .nilIface) := H5.out.1.gp hg6 H5.out.2
    have hsz6 := hg6.size
    obtain ⟨q, hq⟩ : ∃ q, q = typs nb s.size 8 ts := ⟨_, rfl⟩
    rw [← hq] at hans
    have HXX : Hid (prT (L s) = q) := by rw [hq]; exact HX.out.1
    clear hq HX
    cases q with
    | error cp =>
      obtain ⟨c, p⟩ := cp
      obtain ⟨B, rfl, hB1, hB2⟩ := hans
      have HA9 : Hid (AtX w6 B c (p : Int) ∧ N + 1 < B ∧ w.heap.size ≤ B) := ⟨hB2, by have := HH.out; have := H5.out.2; omega, by have := HH.out; omega⟩
      unfold thrownT
      go_wp2
      refine leaves_cons (f := 33) (args := #[.pointer (some ⟨N, 0, none⟩), .pointer (some ⟨N + 1, 0, none⟩)]) (by simp) (by simp [go_sem]) ?_
      refine (tcatch_thrown N B w w6 _ _ c (p : Int) H6.out HA9.out.1 HA9.out.2.1).mono ?_
      rintro e u' wz ⟨rfl, rfl, HZ, hAZ⟩
      have c1' := HZ.v1.cell
      have c2' := HZ.v2.cell
      have hfin := TPA.of_err HXX.out HZ.bl HA9.out.2.2 hAZ
      unfold thrV
      simp [Leaves, settle, results, Tryz.results10, go_sem, c1', c2']
      exact hfin
    | ok l =>
      obtain ⟨v, rfl, hv⟩ := hans
      obtain ⟨tp, tn, tc, rfl⟩ : ∃ tp tn tc, v = .slice tp tn tc := by
        obtain ⟨p, c, cs, h1, _⟩ := hv
        exact ⟨_, _, _, h1⟩
      obtain ⟨v, hve⟩ : ∃ v, v = Value.slice tp tn tc := ⟨_, rfl⟩
      rw [← hve] at hv
      have d1 := H6.out.v1.cell
      have d2 := H6.out.v2.cell
      have e1 := H6.out.v1.frozen
      have e2 := H6.out.v2.frozen
      have hbase : N + 1 < w5.heap.size := by have := HH.out.1; have := H5.out.2; omega
      have H9 := (H6.out.set1 v).set2 .nilIface
      have hx9 : IsTs ((w6.setCell ⟨N, 0, none⟩ v).setCell ⟨N + 1, 0, none⟩ .nilIface) (fun g => w5.heap.size ≤ g) v l := (hv.setv H6.out.v1 (by decide) (by omega)).setv (H6.out.set1 v).v2 (by decide) hbase
      have hx10 : IsTs ((w6.setCell ⟨N, 0, none⟩ v).setCell ⟨N + 1, 0, none⟩ .nilIface) (fun g => w.heap.size ≤ g) v l := by
        obtain ⟨pp, cc, cs, k1, k2, k3⟩ := hx9
        exact ⟨pp, cc, cs, k1, k2.mono (fun g hg _ => by have := HH.out.2; omega), k3.mono (fun g hg _ => by have := HH.out.2; omega)⟩
      have H10 : Hid (PvT w ((w6.setCell ⟨N, 0, none⟩ v).setCell ⟨N + 1, 0, none⟩ .nilIface) N v .nilIface ∧ IsTs ((w6.setCell ⟨N, 0, none⟩ v).setCell ⟨N + 1, 0, none⟩ .nilIface) (fun g => w.heap.size ≤ g) v l) := ⟨H9, hx10⟩
      rw [hve] at H10
      clear H9 hx9 hx10 hv hve
      go_wp2
      refine leaves_cons (f := 33) (args := #[.pointer (some ⟨N, 0, none⟩), .pointer (some ⟨N + 1, 0, none⟩)]) (by simp) (by simp [go_sem]) ?_
      refine (tcatch_idle _ _ _).mono ?_
      rintro e u' wz ⟨rfl, rfl, hbz⟩
      have HZ := H10.out.1.step hbz
      have c1' := HZ.v1.cell
      have c2' := HZ.v2.cell
      have hfin := TPA.of_ok HXX.out HZ.bl (H10.out.2.bl hbz)
      simp [Leaves, settle, results, Tryz.results10, go_sem, c1', c2']
      exact hfin
  · have HB : Hid (prT (L s) = .error (3, p) ∧ AtX w2 B 3 (p : Int) ∧ N + 1 < B) := by
      refine ⟨by unfold prT; rw [g1], g3, ?_⟩
      omega
    have HN : Hid (w.heap.size ≤ B) := by
      have h1 := H2.out.n
      show w.heap.size ≤ B
      omega
    clear g1 g2 g3 cL hN H0 hcl hsz hb2
    go_wp2
    have HW : Hid (PvT w (w2.setCell ⟨N + 1, 0, none⟩ (.iface 110 (.pointer (some ⟨B, 0, none⟩)))) N (.slice none 0 0) (.iface 110 (.pointer (some ⟨B, 0, none⟩))) ∧ AtX (w2.setCell ⟨N + 1, 0, none⟩ (.iface 110 (.pointer (some ⟨B, 0, none⟩)))) B 3 (p : Int)) := ⟨H2.out.set2 _, HB.out.2.1.set (by have := HB.out.2.2; omega)⟩
    generalize w2.setCell ⟨N + 1, 0, none⟩ (.iface 110 (.pointer (some ⟨B, 0, none⟩))) = W at HW ⊢
    clear c1 c2 f1 f2
    have c1 := HW.out.1.v1.cell
    have c2 := HW.out.1.v2.cell
    have f1 := HW.out.1.v1.frozen
    have f2 := HW.out.1.v2.frozen
    refine wp_calm ?_
    go_region
    all_goals
      refine Calm.in ?_
      have H9 : Hid (PvT w ((W.setCell ⟨N, 0, none⟩ (.slice none 0 0)).setCell ⟨N + 1, 0, none⟩ (.iface 110 (.pointer (some ⟨B, 0, none⟩)))).drew N (.slice none 0 0) (.iface 110 (.pointer (some ⟨B, 0, none⟩))) ∧ AtX ((W.setCell ⟨N, 0, none⟩ (.slice none 0 0)).setCell ⟨N + 1, 0, none⟩ (.iface 110 (.pointer (some ⟨B, 0, none⟩)))).drew B 3 (p : Int)) := ⟨((HW.out.1.set1 _).set2 _).step (Bl.refl _).drew, (HW.out.2.set (x := .slice none 0 0) (b := N) (by have := HB.out.2.2; omega)).set (b := N + 1) (by have := HB.out.2.2; omega)⟩
      generalize ((W.setCell ⟨N, 0, none⟩ (.slice none 0 0)).setCell ⟨N + 1, 0, none⟩ (.iface 110 (.pointer (some ⟨B, 0, none⟩)))).drew = W9 at H9 ⊢
      clear c1 c2 f1 f2
      have c1 := H9.out.1.v1.cell
      have c2 := H9.out.1.v2.cell
      have hfin := TPA.of_err HB.out.1 H9.out.1.bl HN.out H9.out.2
      go_simp
      go_wp2
      simp [bodyPostD, Leaves, results, Tryz.results10, go_sem, c1, c2]
      exact hfin
end Go.Proofs.YtpanodaecjlgaaaGreatDoor.tm
/- Templates, printed: what an item begins with. -/
namespace Go.Proofs.YtpanodaecjlgaaaGreatDoor.tm
set_option linter.unusedVariables false
open Go.ChangeShapes Go.WideShapes Go.ChangeAt Go.RowKit Go.Shelf
open mem lx ex

theorem eqNum (s : ByteArray) (a b a' b' : Int) (c c' : Bool) (w : World) : (binOp .eql 104 (.agg #[.string s, .int .i64 a, .int .i64 b, .bool c]) (.agg #[.string s, .int .i64 a', .int .i64 b', .bool c'])).run Tryz.prog w = .ok (.bool (decide (a = a') && (decide (b = b') && (c == c')))) w := by
  rw [run_eql_struct]
  go_simp
  by_cases h1 : a = a'
  · by_cases h2 : b = b'
    · rw [if_pos h1, if_pos h2]
      by_cases h3 : c = c' <;> simp [h1, h2, h3]
    · rw [if_pos h1, if_neg h2]; simp [h2]
  · rw [if_neg h1]; simp [h1]
/-- What an item begins with: no such number before this one. -/
def noW (d : D) (j : Nat) : Prop := ∀ p ∈ numW.take j, (p.2.1 == d.wd && p.2.2.1 == d.od && p.2.2.2 == d.sg) = false
theorem kw_no {d : D} (h2 : d.kd ≠ 2) (h3 : d.kd ≠ 3) (h : noW d 12) : kw d = [] := by
  unfold kw
  rw [if_neg h2, if_neg h3]
  have : numW.find? (fun p => p.2.1 == d.wd && p.2.2.1 == d.od && p.2.2.2 == d.sg) = none := by
    rw [List.find?_eq_none]
    intro p hp
    rw [h p hp]; decide
  rw [this]; rfl
theorem kw_yes {d : D} (h2 : d.kd ≠ 2) (h3 : d.kd ≠ 3) {j : Nat} {p : List UInt8 × Nat × Nat × Bool} (h : noW d j) (hp : numW[j]? = some p) (hm : (p.2.1 == d.wd && p.2.2.1 == d.od && p.2.2.2 == d.sg) = true) : kw d = p.1 := by
  unfold kw
  rw [if_neg h2, if_neg h3]
  obtain ⟨hj, he⟩ := List.getElem?_eq_some_iff.1 hp
  have : numW.find? (fun p => p.2.1 == d.wd && p.2.2.1 == d.od && p.2.2.2 == d.sg) = some p := by
    rw [List.find?_eq_some_iff_getElem]
    refine ⟨hm, j, hj, he, fun k hk => ?_⟩
    have hm2 : numW[k]'(by omega) ∈ numW.take j := by
      rw [List.mem_take_iff_getElem]
      exact ⟨k, by omega, rfl⟩
    rw [h _ hm2]; decide
  rw [this]; rfl
theorem noW_step {d : D} {j : Nat} {p : List UInt8 × Nat × Nat × Bool} (h : noW d j) (hp : numW[j]? = some p) (hm : (p.2.1 == d.wd && p.2.2.1 == d.od && p.2.2.2 == d.sg) = false) : noW d (j + 1) := by
  intro q hq
  rw [List.take_add_one, List.mem_append] at hq
  rcases hq with hq | hq
  · exact h q hq
  · rw [hp] at hq
    simp at hq
    rw [hq]; exact hm
set_option maxRecDepth 10000 in
set_option maxHeartbeats 2000000 in
theorem kw_at (w : World) (c : C) (hG : Gt w) :
    Calls Tryz.prog 94 #[itV c] w fun e w' => e = .returned (.string (tx (kw c.d))) ∧ Bl w w' := by
  have hb1 : Bl w (w.alloc (.cells (cl c).toArray 75)) := (Bl.refl _).alloc _
  obtain ⟨N, hN⟩ : ∃ N, N = w.heap.size := ⟨_, rfl⟩
  obtain ⟨w1, hw1⟩ : ∃ w1, w1 = w.alloc (.cells (cl c).toArray 75) := ⟨_, rfl⟩
  have hv1 : Iv w1 N c := ⟨by rw [hw1, hN]; exact new_at _ _⟩
  rw [← hw1] at hb1
  have H1 : Hid (Bl w w1 ∧ Iv w1 N c ∧ Gt w1) := ⟨hb1, hv1, hG.bl hb1⟩
  obtain ⟨a0, a1, a2, a3, a4, a5, a6, a7, a8, a9, a10, a11, a12⟩ := hv1.facts
  clear hb1 hv1 hG a1 a2 a7 a8 a9 a10 a11 a12 a4 a5 a6
  unfold itV
  go_enter Tryz.func94, Tryz.ntmps94
  go_upto_region 1 with fail
  change Code.wp _ _ _ _ (w.alloc (.cells (cl c).toArray 75))
  rw [← hw1, ← hN]
  clear hw1 hN
  by_cases k2 : c.d.kd = 2
  · have HK : Hid (kw c.d = wBytes) := by show kw c.d = wBytes; unfold kw; rw [if_pos k2]
    rw [k2] at a0
    go_wp2
    rw [HK.out]
    go_ret
    first | exact ⟨rfl, H1.out.1⟩ | exact H1.out.1
  · by_cases k3 : c.d.kd = 3
    · have HK : Hid (kw c.d = c.d.ty) := by show kw c.d = c.d.ty; unfold kw; rw [if_neg k2, if_pos k3]
      rw [k3] at a0
      go_wp2
      rw [HK.out]
      go_ret
      first | exact ⟨rfl, H1.out.1⟩ | exact H1.out.1
    · have k2' : ¬ ((c.d.kd : Int) = 2) := by omega
      have k3' : ¬ ((c.d.kd : Int) = 3) := by omega
      have HK : Hid (¬ c.d.kd = 2 ∧ ¬ c.d.kd = 3) := ⟨k2, k3⟩
      clear k2 k3 a3
      go_upto_region 6 with fail
      have hR : Hid (w1.rangeAt 0 0 nuL) := H1.out.2.2.nu
      clear a0
      refine wp_region_lit ?_
      refine wpList_load_mid rfl 105 _ rfl 0 0 rfl nuL _ hR.out Tryz.underlying105 rfl info48 ?_
      generalize hAV : Value.agg nuL.toArray = AV
      have HAV : Hid (Value.agg nuL.toArray = AV) := hAV
      clear hAV hR
      go_wp2
      go_loopw [14] (fun i wr => ∃ j : Nat, j ≤ 12 ∧ i = .int .i64 (j : Int) ∧ Hid (noW c.d j ∧ Bl w1 wr)) (fun i _ => 12 - (intOf i).toNat)
      case atStart => exact ⟨0, by omega, rfl, ⟨(fun p hp => by simp at hp), Bl.refl _⟩⟩
      case round =>
        obtain ⟨j, hj, rfl, HB⟩ := hrel
        by_cases h12 : j < 12
        · have d1 : decide ((j : Int) < 12) = true := decide_eq_true (by omega)
          obtain ⟨p, hp⟩ : ∃ p, numW[j]? = some p := ⟨_, List.getElem?_eq_getElem (show j < numW.length from h12)⟩
          have hix := fun w => run_num w j p hp
          rw [HAV.out] at hix
          obtain ⟨w7, hw7⟩ : ∃ w7, w7 = wr.alloc (.cells #[.string (tx p.1), .int .i64 (p.2.1 : Int), .int .i64 (p.2.2.1 : Int), .bool p.2.2.2] 104) := ⟨_, rfl⟩
          have hb7 : Bl wr w7 := by rw [hw7]; exact (Bl.refl _).alloc _
          obtain ⟨M, hM⟩ : ∃ M, M = wr.heap.size := ⟨_, rfl⟩
          have h7 : w7.heap[M]? = some (.cells #[.string (tx p.1), .int .i64 (p.2.1 : Int), .int .i64 (p.2.2.1 : Int), .bool p.2.2.2] 104 (0, 0)) := by rw [hw7, hM]; exact new_at _ _
          have g0 : w7.cell? ⟨M, 0, none⟩ = some (.string (tx p.1)) := by rw [cell_of h7]; rfl
          have g1 : w7.cell? ⟨M, 1, none⟩ = some (.int .i64 (p.2.1 : Int)) := by rw [cell_of h7]; rfl
          have g2 : w7.cell? ⟨M, 2, none⟩ = some (.int .i64 (p.2.2.1 : Int)) := by rw [cell_of h7]; rfl
          have g3 : w7.cell? ⟨M, 3, none⟩ = some (.bool p.2.2.2) := by rw [cell_of h7]; rfl
          obtain ⟨a0, a1, a2, a3, a4, a5, a6, a7, a8, a9, a10, a11, a12⟩ := (H1.out.2.1.bl (HB.out.2.trans hb7)).facts
          have heq := fun w => eqNum (tx p.1) (p.2.1 : Int) (p.2.2.1 : Int) (c.d.wd : Int) (c.d.od : Int) p.2.2.2 c.d.sg w
          have hM7 := lt_of_heap h7
          obtain ⟨bq, hbq⟩ : ∃ bq : Bool, bq = (decide ((p.2.1 : Int) = (c.d.wd : Int)) && (decide ((p.2.2.1 : Int) = (c.d.od : Int)) && (p.2.2.2 == c.d.sg))) := ⟨_, rfl⟩
          rw [← hbq] at heq
          have hbq' : bq = (p.2.1 == c.d.wd && p.2.2.1 == c.d.od && p.2.2.2 == c.d.sg) := by
            rw [hbq, Bool.and_assoc]
            congr 1
            · rw [Bool.eq_iff_iff]; simp; omega
            · congr 1
              rw [Bool.eq_iff_iff]; simp; omega
          have H7 : Hid (Bl w1 w7 ∧ Bl w w7) := ⟨HB.out.2.trans hb7, (H1.out.1.trans HB.out.2).trans hb7⟩
          have HP : Hid (noW c.d j ∧ numW[j]? = some p ∧ bq = (p.2.1 == c.d.wd && p.2.2.1 == c.d.od && p.2.2.2 == c.d.sg)) := ⟨HB.out.1, hp, hbq'⟩
          unfold numV at hix
          clear hp h7 hb7 a0 a1 a2 a3 a7 a8 a9 a10 a11 a12 hbq hbq'
          go_upto_region 9 with fail
          rw [← hw7, ← hM]
          clear hw7 hM
          cases bq with
          | true =>
            have HK2 : Hid (kw c.d = p.1) := kw_yes HK.out.1 HK.out.2 HP.out.1 HP.out.2.1 HP.out.2.2.symm
            go_wp2
            rw [HK2.out]
            go_ret
            first | exact ⟨rfl, H7.out.2⟩ | exact H7.out.2
          | false =>
            have HN2 : Hid (noW c.d (j + 1)) := noW_step HP.out.1 HP.out.2.1 HP.out.2.2.symm
            go_wp2
            go_roundw
            case rel => exact ⟨j + 1, by omega, by go_num, HN2.out, H7.out.1⟩
            case measure => simp [intOf]; omega
        · obtain rfl : j = 12 := by omega
          have HK2 : Hid (kw c.d = [] ∧ Bl w wr) := ⟨kw_no HK.out.1 HK.out.2 HB.out.1, H1.out.1.trans HB.out.2⟩
          go_wp2
          rw [HK2.out.1]
          go_ret
          first | exact ⟨rfl, HK2.out.2⟩ | exact HK2.out.2
end Go.Proofs.YtpanodaecjlgaaaGreatDoor.tm
