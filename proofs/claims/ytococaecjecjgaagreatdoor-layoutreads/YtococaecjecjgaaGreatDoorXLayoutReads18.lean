/- Texts laid together: TmF, TmT, TmG, Ly14, IntRow. -/
import Derived.Test.YtococaecjecjgaaGreatDoorXLayoutReads17
import Derived.RegionCalls
import Derived.Test.YtococaecjecjgaaGreatDoorChecked
import Derived.Test.YtococaecjecjgaaGreatDoorXLayoutReads1
import Derived.Laws.AppendOwn
import Derived.Lib.AppendZeros
namespace Go.Proofs.YtococaecjecjgaaGreatDoor.tm
set_option linter.unusedVariables false
open Go.ChangeShapes Go.WideShapes Go.ChangeAt Go.RowKit Go.Shelf
open mem lx ex

def preT (l : List Ty) : Except (Int × Nat) (List Ty) → Except (Int × Nat) (List Ty)
  | .error e => .error e
  | .ok m => .ok (l ++ m)
theorem typs_end (en n : Nat) (l : List Ty) : preT l (typs nb en n []) = .ok l := by
  cases n <;> (show Except.ok (l ++ []) = _; rw [List.append_nil])
end Go.Proofs.YtococaecjecjgaaGreatDoor.tm

namespace Go.Proofs.YtococaecjecjgaaGreatDoor.tm
set_option linter.unusedVariables false
open Go.ChangeShapes Go.WideShapes Go.ChangeAt Go.RowKit Go.Shelf
open mem lx ex

theorem AtX.bl {w w' : World} {B : Nat} {c p : Int} (h : AtX w B c p) (hb : Bl w w') : AtX w' B c p := by
  unfold AtX at h ⊢
  rw [Below.block hb B (lt_of_heap h)]
  exact h
end Go.Proofs.YtococaecjecjgaaGreatDoor.tm
namespace Go.Proofs.YtococaecjecjgaaGreatDoor.ly
set_option linter.unusedVariables false
open Go.ChangeShapes Go.WideShapes Go.ChangeAt Go.RowKit
open mem lx ex tm num

theorem fnd_snoc (l : List Ty) (t : Ty) (x : List UInt8) : fnd (l ++ [t]) x = if t.nm = x then some t.l else fnd l x := by
  induction l with
  | nil => rfl
  | cons u r ih =>
    rw [List.cons_append, fnd, ih, fnd]
    by_cases h : t.nm = x
    · rw [if_pos h, if_pos h]
    · rw [if_neg h, if_neg h]
def TyN (w : World) (mb : Nat) (l : List Ty) (n : Nat) : Prop := ∃ f, Sm w mb f n ∧ ∀ x, x.length ≤ maxLen → (f x = none ∧ fnd l x = none) ∨
  ∃ (nm : List UInt8) (a : Nat) (p : Option Addr) (k c : Nat) (i : Its) (cs : List C), f x = some (.agg #[.string (tx nm), .int .i64 (a : Int), .slice p k c]) ∧ fnd l x = some i ∧ ir.Lie w (fun g => g < mb) p k c cs ∧ Rep w (fun g => g < mb) i cs
theorem TyN.bl {w w' : World} {mb n : Nat} {l : List Ty} (h : TyN w mb l n) (hb : Bl w w') : TyN w' mb l n := by
  obtain ⟨f, h1, h2⟩ := h
  refine ⟨f, h1.same (Below.block hb mb h1.lt), fun x hx' => ?_⟩
  rcases h2 x hx' with h | ⟨nm, a, p, k, c, i, cs, g1, g2, g3, g4⟩
  · exact Or.inl h
  · exact Or.inr ⟨nm, a, p, k, c, i, cs, g1, g2, g3.keep (fun g _ hg => Below.block hb g hg) hb.size, g4.keep (fun g _ hg => Below.block hb g hg) hb.size (Kx.bl hb)⟩
theorem TyN.put {w : World} {mb n : Nat} {l : List Ty} (h : TyN w mb l n) (t : Ty) {p : Option Addr} {k c : Nat} {cs : List C} (hnm : t.nm.length ≤ maxLen) (hl : ir.Lie w (fun g => g < mb) p k c cs) (hr : Rep w (fun g => g < mb) t.l cs) (hn : n ≤ 5000) :
    ∃ w', (Instr.mapUpdate 64 (.map (some mb)) (.string (tx t.nm)) (.agg #[.string (tx t.nm), .int .i64 (t.at_ : Int), .slice p k c])).run Tryz.prog w = .ok () w' ∧ TyN w' mb (l ++ [t]) (n + 1) ∧ Gp mb w w' := by
  obtain ⟨f, h1, h2⟩ := h
  obtain ⟨w', hrun, h3, hg⟩ := h1.put (tx t.nm) (.agg #[.string (tx t.nm), .int .i64 (t.at_ : Int), .slice p k c]) (by rw [tx_size]; exact hnm) hn
  have hgp : Gp mb w w' := ⟨hg.os, hg.tape, hg.output, hg.size, fun j h1 h2 => hg.block j h1 (fun e => h2 (by injection e))⟩
  have hx : Kx w w' := fun b cs' hb => (hgp.block b (lt_of_heap hb) (fun e => by
    subst e
    obtain ⟨D, ⟨es, clock, q1, _⟩, _⟩ := h1
    rw [hb] at q1; cases q1)).trans hb
  refine ⟨w', hrun, ⟨_, h3, fun x hx' => ?_⟩, hgp⟩
  have e : (tx t.nm).data.toList = t.nm := L_tx t.nm
  rw [fnd_snoc, e]
  have keepL : ∀ {p k c} {cs : List C}, ir.Lie w (fun g => g < mb) p k c cs → ir.Lie w' (fun g => g < mb) p k c cs := fun h => h.keep (fun g hg' hs => hgp.block g hs (by omega)) hgp.size
  have keepR : ∀ {i : Its} {cs : List C}, Rep w (fun g => g < mb) i cs → Rep w' (fun g => g < mb) i cs := fun h => h.keep (fun g hg' hs => hgp.block g hs (by omega)) hgp.size hx
  by_cases hxe : x = t.nm
  · rw [if_pos hxe, if_pos hxe.symm]
    exact Or.inr ⟨t.nm, t.at_, p, k, c, t.l, cs, rfl, rfl, keepL hl, keepR hr⟩
  · rw [if_neg hxe, if_neg (fun e => hxe e.symm)]
    rcases h2 x hx' with g | ⟨nm, a, p, k, c, i, cs, g1, g2, g3, g4⟩
    · exact Or.inl g
    · exact Or.inr ⟨nm, a, p, k, c, i, cs, g1, g2, keepL g3, keepR g4⟩
theorem RepT.at {w : World} {ok : Nat → Prop} {l : List Ty} : ∀ {cs : List CT} {j : Nat}, RepT w ok l cs → j < l.length → ∃ t c, l[j]? = some t ∧ cs[j]? = some c ∧ c.nm = t.nm ∧ c.a = t.at_ ∧ ∃ cs2, ir.Lie w ok c.p c.n c.c cs2 ∧ Rep w ok t.l cs2 := by
  induction l with
  | nil => intro cs j _ hj; simp at hj
  | cons t r ih =>
    intro cs j h hj
    obtain ⟨c, rr, rfl, h1, h2, h3, h4⟩ := h
    cases j with
    | zero => exact ⟨t, c, rfl, rfl, h1, h2, h3⟩
    | succ j =>
      obtain ⟨t', c', g1, g2, g3⟩ := ih h4 (by simpa using hj)
      exact ⟨t', c', by simpa using g1, by simpa using g2, g3⟩
set_option maxRecDepth 10000 in
set_option maxHeartbeats 2000000 in
theorem named_at (w : World) (ok : Nat → Prop) (v : Value) (l : List Ty) (h : IsTs w ok v l) (hl8 : l.length ≤ 8) (hnm : ∀ t ∈ l, t.nm.length ≤ maxLen) :
    Calls Tryz.prog 24 #[v] w fun e w' => e = .returned (.map (some w.heap.size)) ∧ Bl w w' ∧ TyM w' w.heap.size l ∧ w.heap.size < w'.heap.size := by
  have hmm : ∀ w, (Instr.makeMap 64 none).run Tryz.prog w = .ok (.map (some w.heap.size)) (w.alloc (.map #[] 0)) := fun w => by kernel_rfl
  obtain ⟨p, c, cs, rfl, hlie, hrep⟩ := h
  obtain ⟨mb, hmb⟩ : ∃ mb, mb = w.heap.size := ⟨_, rfl⟩
  rw [← hmb]
  obtain ⟨w1, hw1⟩ : ∃ w1, w1 = w.alloc (.map #[] 0) := ⟨_, rfl⟩
  have hb1 : Bl w w1 := by rw [hw1]; exact (Bl.refl _).alloc _
  have ht1 : TyN w1 mb [] 0 := by
    rw [hw1, hmb]
    exact ⟨_, Sm.made w, fun x _ => Or.inl ⟨rfl, rfl⟩⟩
  obtain ⟨n, hn⟩ : ∃ n, n = l.length := ⟨_, rfl⟩
  rw [← hn] at hlie hl8 ⊢
  have H0 : Hid (sr.Lie w ok p n c cs ∧ RepT w ok l cs ∧ n = l.length ∧ (∀ t ∈ l, t.nm.length ≤ maxLen) ∧ Bl w w1 ∧ mb = w.heap.size ∧ TyN w1 mb [] 0) := ⟨hlie, hrep, hn, hnm, hb1, hmb, ht1⟩
  clear hlie hrep hnm hb1 ht1 hn
  go_enter Tryz.func24, Tryz.ntmps24
  go_wp2
  rw [← hw1, ← hmb]
  clear hw1 hmb
  go_loopw [9] (fun v9 wr => ∃ j : Nat, v9 = .int .i64 (j : Int) ∧ j ≤ n ∧ Hid (Gp mb w wr ∧ TyN wr mb (l.take j) j ∧ mb < wr.heap.size)) (fun v9 _ => n - (intOf v9).toNat)
  case atStart => exact ⟨0, rfl, Nat.zero_le _, Gp.bl H0.out.2.2.2.2.1, H0.out.2.2.2.2.2.2, by obtain ⟨f, h, _⟩ := H0.out.2.2.2.2.2.2; exact h.lt⟩
  case round =>
    obtain ⟨j, rfl, hj, HM⟩ := hrel
    by_cases hlt : j < n
    · obtain ⟨t, ct, e1, e2, e3, e4, cs2, e5, e6⟩ := RepT.at H0.out.2.1 (j := j) (by have := H0.out.2.2.1; omega)
      obtain ⟨_, hnc, hlc⟩ := H0.out.1
      have hmbw := H0.out.2.2.2.2.2.1
      obtain ⟨g, rfl, hgs, hcell⟩ : ∃ g, p = some ⟨g, 0, none⟩ ∧ g < w.heap.size ∧ ∀ j u, (sr.rowE cs)[j]? = some u → w.cell? ⟨g, j, none⟩ = some u := by
        rcases hlc with hlc | ⟨g, g1, _, g3, g4⟩
        · rw [hlc] at e2; cases e2
        · exact ⟨g, g1, g3, g4⟩
      have hcj : ∀ i u, (clT ct)[i]? = some u → wr.cell? ⟨g, j * 3 + i, none⟩ = some u := fun i u hu => by
        have hi : i < 3 := by
          have := (List.getElem?_eq_some_iff.1 hu).1
          rw [sr.cl_len] at this
          exact this
        obtain ⟨hjl, e⟩ := List.getElem?_eq_some_iff.1 e2
        have h9 := hcell _ _ (by rw [sr.rowE_get cs j hjl i hi, e]; exact hu)
        unfold World.cell? at h9 ⊢
        dsimp only at h9 ⊢
        rw [HM.out.1.block g hgs (by omega)]
        exact h9
      have f0 : wr.cell? ⟨g, j * 3, none⟩ = some (.string (tx ct.nm)) := hcj 0 _ rfl
      have f1 : wr.cell? ⟨g, j * 3 + 1, none⟩ = some (.int .i64 (ct.a : Int)) := hcj 1 _ rfl
      have f2 : wr.cell? ⟨g, j * 3 + 2, none⟩ = some (.slice ct.p ct.n ct.c) := hcj 2 _ rfl
      have hgr : g < wr.heap.size := by have := HM.out.1.size; omega
      rw [e3] at f0
      rw [e4] at f1
      obtain ⟨w3, hw3⟩ : ∃ w3, w3 = wr.alloc (.cells #[.string (tx t.nm), .int .i64 (t.at_ : Int), .slice ct.p ct.n ct.c] 96) := ⟨_, rfl⟩
      have hb3 : Bl wr w3 := by rw [hw3]; exact (Bl.refl _).alloc _
      obtain ⟨Xb, hXb⟩ : ∃ Xb, Xb = wr.heap.size := ⟨_, rfl⟩
      have hv3 : w3.heap[Xb]? = some (.cells #[.string (tx t.nm), .int .i64 (t.at_ : Int), .slice ct.p ct.n ct.c] 96 (0, 0)) := by rw [hw3, hXb]; exact new_at _ _
      have x0 : w3.cell? ⟨Xb, 0, none⟩ = some (.string (tx t.nm)) := by rw [cell_of hv3]; rfl
      have x1 : w3.cell? ⟨Xb, 1, none⟩ = some (.int .i64 (t.at_ : Int)) := by rw [cell_of hv3]; rfl
      have x2 : w3.cell? ⟨Xb, 2, none⟩ = some (.slice ct.p ct.n ct.c) := by rw [cell_of hv3]; rfl
      have hXs := lt_of_heap hv3
      have hgw3 : Gp mb w w3 := HM.out.1.trans (Gp.bl hb3)
      have hkx : Kx w w3 := fun b cs' hb => (hgw3.block b (lt_of_heap hb) (by have := lt_of_heap hb; omega)).trans hb
      have hL3 : ir.Lie w3 (fun g => g < mb) ct.p ct.n ct.c cs2 := (e5.mono (ok' := fun g => g < mb) (fun g _ h2 => by omega)).keep (fun g h1 h2 => hgw3.block g h2 (by omega)) hgw3.size
      have hR3 : Rep w3 (fun g => g < mb) t.l cs2 := (e6.mono (ok' := fun g => g < mb) (fun g _ h2 => by omega)).keep (fun g h1 h2 => hgw3.block g h2 (by omega)) hgw3.size hkx
      have htm : t ∈ l := List.mem_of_getElem? e1
      obtain ⟨w6, hrun, hT6, hg6⟩ := (HM.out.2.1.bl hb3).put t (H0.out.2.2.2.1 t htm) hL3 hR3 (by omega)
      have htk : l.take (j + 1) = l.take j ++ [t] := by
        obtain ⟨hjl, e⟩ := List.getElem?_eq_some_iff.1 e1
        rw [List.take_succ_eq_append_getElem hjl, e]
      rw [← htk] at hT6
      have H6 : Hid (Gp mb w w6 ∧ TyN w6 mb (l.take (j + 1)) (j + 1) ∧ mb < w6.heap.size) := ⟨hgw3.trans hg6, hT6, by have := HM.out.2.2; have := hb3.size; have := hg6.size; omega⟩
      have hj1 : (0 : Int) ≤ (j : Int) := by omega
      have hj2 : (j : Int) < (n : Int) := by omega
      have hn8 : n ≤ 8 := hl8
      clear e1 e2 e3 e4 e5 e6 hnc hlc hcell hcj hb3 hv3 hgw3 hkx hL3 hR3 htm hT6 hg6 htk hgs hmbw
      go_upto_region 5 with fail
      rw [← hw3, ← hXb]
      clear hw3 hXb f0 f1 f2
      go_wp2
      go_roundw
      case rel => exact ⟨j + 1, by go_num, by omega, H6.out⟩
      case measure => simp [intOf]; omega
    · obtain rfl : j = n := by omega
      go_wp2
      go_ret
      have e : l.take j = l := by rw [H0.out.2.2.1, List.take_length]
      have hT := HM.out.2.1
      rw [e] at hT
      obtain ⟨f, q1, q2⟩ := hT
      exact ⟨rfl, ⟨HM.out.1.os, HM.out.1.tape, HM.out.1.output, HM.out.1.size, fun k hk => HM.out.1.block k hk (by have := H0.out.2.2.2.2.2.1; omega)⟩, ⟨f, j, q1, q2⟩, HM.out.2.2⟩
end Go.Proofs.YtococaecjecjgaaGreatDoor.ly

