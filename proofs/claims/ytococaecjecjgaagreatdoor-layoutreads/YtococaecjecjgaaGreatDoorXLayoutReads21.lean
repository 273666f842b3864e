/- Texts laid together: Wy1, Wy2, Wy3, Wy4, Wy5. -/
import Derived.Test.YtococaecjecjgaaGreatDoorXLayoutReads18
import Derived.Test.YtococaecjecjgaaGreatDoorXLayoutReads19
import Derived.Test.YtococaecjecjgaaGreatDoorXLayoutReads20
import Derived.Lib.Builder
import Derived.Lib.UnsafeStr
import Derived.Test.YtococaecjecjgaaGreatDoorXLayoutReads14
import Derived.Test.YtococaecjecjgaaGreatDoorXLayoutReads16
/- A writer: its builder, which is a part of it. -/
namespace Go.Proofs.YtococaecjecjgaaGreatDoor.ly
set_option linter.unusedVariables false
open Go.ChangeShapes Go.WideShapes Go.ChangeAt Go.RowKit
open mem lx ex tm num bld

/-- A writer that has written so much. -/
structure Wr (w : World) (P mb : Nat) (l : List Ty) (acc : List UInt8) : Prop where
  at_ : ∃ p v, w.heap[P]? = some (.cells #[.map (some mb), .pointer p, v] 83 (0, 0)) ∧ (p = none ∨ p = some ⟨P, 1, none⟩) ∧ rows.BOwn w P v (acc.map fun b => (b.toNat : Int)) ∧ v.ownBlock ≠ some P
  mp : TyM w mb l
  lt : mb < P
theorem Wr.lt' {w : World} {P mb : Nat} {l : List Ty} {acc : List UInt8} (h : Wr w P mb l acc) : P < w.heap.size := by
  obtain ⟨p, v, h1, _⟩ := h.at_
  exact lt_of_heap h1
theorem Wr.bl {w w' : World} {P mb : Nat} {l : List Ty} {acc : List UInt8} (h : Wr w P mb l acc) (hb : Bl w w') : Wr w' P mb l acc := by
  obtain ⟨p, v, h1, h2, h3, h4⟩ := h.at_
  have hP := h.lt'
  exact ⟨⟨p, v, by rw [Below.block hb P hP]; exact h1, h2, h3.step hb, h4⟩, h.mp.keep (fun g hg => Below.block hb g (by have := h.lt; omega)) hb.size (Kx.bl hb), h.lt⟩
/-- What writing leaves as it is. -/
structure Fr (P : Nat) (w w' : World) : Prop where
  b : Below P w w'
  k : Kb P w w'
theorem Fr.refl (P : Nat) (w : World) : Fr P w w := ⟨Below.refl _ _, Kb.refl _ _⟩
theorem Fr.trans {P : Nat} {a b c : World} (h : Fr P a b) (k : Fr P b c) : Fr P a c := ⟨h.b.trans k.b, h.k.trans k.k⟩
theorem Fr.bl {P : Nat} {w w' : World} (h : Bl w w') (hP : P ≤ w.heap.size) : Fr P w w' := ⟨Below.mono h hP, Kb.bl h⟩
end Go.Proofs.YtococaecjecjgaaGreatDoor.ly
/- A writer: must, and a number. -/
namespace Go.Proofs.YtococaecjecjgaaGreatDoor.ly
set_option linter.unusedVariables false
open Go.ChangeShapes Go.WideShapes Go.ChangeAt Go.RowKit
open mem lx ex tm num bld words

theorem Wr.cells {w : World} {P mb : Nat} {l : List Ty} {acc : List UInt8} (h : Wr w P mb l acc) : w.cell? ⟨P, 0, none⟩ = some (.map (some mb)) ∧ ∀ j, w.frozen? ⟨P, j, none⟩ = false := by
  obtain ⟨p, v, h1, _⟩ := h.at_
  exact ⟨by rw [cell_of h1]; rfl, fun j => by simp [World.frozen?, h1]⟩
theorem Fr.iv {w w' : World} {P N : Nat} {c : C} (h : Fr P w w') (hi : Iv w N c) (hne : N ≠ P) : Iv w' N c := hi.kb h.k hne
theorem Fr.nv {w w' : World} {P N : Nat} {d : ND} {p : Option Addr} {n c : Nat} (h : Fr P w w') (hi : Nv w N d p n c) (hne : N ≠ P) : Nv w' N d p n c := h.k.same N _ hi hne (fun c fz e => by injection e with _ e2 _; exact absurd e2 (by decide))
end Go.Proofs.YtococaecjecjgaaGreatDoor.ly
/- A writer: one node. -/
namespace Go.Proofs.YtococaecjecjgaaGreatDoor.ly
set_option linter.unusedVariables false
open Go.ChangeShapes Go.WideShapes Go.ChangeAt Go.RowKit
open mem lx ex tm num bld

/-- An item's items. -/
def SubL (w : World) (mb : Nat) (c : C) (sub : Its) : Prop := ∃ cs, ir.Lie w (fun g => g < mb) c.p c.n c.c cs ∧ Rep w (fun g => g < mb) sub cs
theorem SubL.keep {w w' : World} {mb : Nat} {c : C} {sub : Its} (h : SubL w mb c sub) (hk : ∀ g, g < mb → w'.heap[g]? = w.heap[g]?) (hs : w.heap.size ≤ w'.heap.size) (hx : Kx w w') : SubL w' mb c sub := by
  obtain ⟨cs, h1, h2⟩ := h
  exact ⟨cs, h1.keep (fun g hg _ => hk g hg) hs, h2.keep (fun g hg _ => hk g hg) hs hx⟩
/-- What writing leaves of expressions. -/
theorem Wr.kx {w w' : World} {P mb : Nat} {l : List Ty} {acc : List UInt8} (h : Wr w P mb l acc) (hf : Fr P w w') : Kx w w' := fun b cs hb => hf.k.same b _ hb (fun e => by subst e; obtain ⟨_, _, q, _⟩ := h.at_; rw [hb] at q; simp at q) (fun c fz e => by injection e with _ e2 _; exact absurd e2 (by decide))
theorem SubL.fr {w w' : World} {P mb : Nat} {l : List Ty} {acc : List UInt8} {c : C} {sub : Its} (h : SubL w mb c sub) (hw : Wr w P mb l acc) (hf : Fr P w w') : SubL w' mb c sub := h.keep (fun g hg => hf.b.block g (by have := hw.lt; omega)) hf.b.size (hw.kx hf)
theorem IsNs.fr {w w' : World} {P : Nat} {p : Option Addr} {n c : Nat} {ks : Nds} (h : IsNs w (fun g => g < P) p n c ks) (hf : Fr P w w') : IsNs w' (fun g => g < P) p n c ks := h.keep (fun g hg _ => hf.b.block g hg) hf.b.size
/-- How many nodes there are. -/
def Nds.sz : Nds → Nat
  | .nil => 0
  | .cons _ s t => s.sz + t.sz + 1
theorem Nds.len_sz (l : Nds) : l.len ≤ l.sz := by
  induction l with
  | nil => exact Nat.le_refl _
  | cons d s t _ it => unfold Nds.len Nds.sz; omega
/-- The boxes of one. -/
structure Bw (w w2 : World) (X Q P mb : Nat) (l : List Ty) (acc : List UInt8) (c : C) (sub : Its) (d : ND) (p : Option Addr) (n cc : Nat) (ks : Nds) : Prop where
  iv : Iv w2 X c
  nv : Nv w2 Q d p n cc
  wr : Wr w2 P mb l acc
  it : SubL w2 mb c sub
  ns : IsNs w2 (fun g => g < P) p n cc ks
  bl : Bl w w2
  lt : P < X ∧ X < Q ∧ P < w.heap.size
theorem Bw.on {w w2 w3 : World} {X Q P mb : Nat} {l : List Ty} {acc : List UInt8} {c : C} {sub : Its} {d : ND} {p : Option Addr} {n cc : Nat} {ks : Nds} (h : Bw w w2 X Q P mb l acc c sub d p n cc ks) (hb : Bl w2 w3) : Bw w w3 X Q P mb l acc c sub d p n cc ks :=
  ⟨h.iv.bl hb, h.nv.bl hb, h.wr.bl hb, h.it.fr h.wr (Fr.bl hb (Nat.le_of_lt h.wr.lt')), h.ns.fr (Fr.bl hb (Nat.le_of_lt h.wr.lt')), h.bl.trans hb, h.lt⟩
theorem Bw.new (w : World) (P mb : Nat) (l : List Ty) (acc : List UInt8) (c : C) (sub : Its) (d : ND) (p : Option Addr) (n cc : Nat) (ks : Nds) (h : Wr w P mb l acc) (hi : SubL w mb c sub) (hn : IsNs w (fun g => g < P) p n cc ks) :
    Bw w ((w.alloc (.cells #[.int .i64 (c.d.kd : Int), .int .i64 (c.d.at_ : Int), .string (tx c.d.nm), .string (tx c.d.ty), .int .i64 (c.d.wd : Int), .int .i64 (c.d.od : Int), .bool c.d.sg, .bool c.d.mn, .pointer c.pc, .int .i64 (c.d.ru : Int), .string (tx c.d.f1), .string (tx c.d.l1), .slice c.p c.n c.c] 60)).alloc (.cells #[.string (tx d.nm), .int .i64 (d.kd : Int), .int .i64 (d.at_ : Int), .int .i64 (d.sz : Int), .int .i64 d.n, .string (tx d.tx), .slice p n cc] 27))
      w.heap.size (w.heap.size + 1) P mb l acc c sub d p n cc ks := by
  have v1 := Iv.new w c
  generalize hw1 : w.alloc (.cells #[.int .i64 (c.d.kd : Int), .int .i64 (c.d.at_ : Int), .string (tx c.d.nm), .string (tx c.d.ty), .int .i64 (c.d.wd : Int), .int .i64 (c.d.od : Int), .bool c.d.sg, .bool c.d.mn, .pointer c.pc, .int .i64 (c.d.ru : Int), .string (tx c.d.f1), .string (tx c.d.l1), .slice c.p c.n c.c] 60) = w1 at *
  have e1 : w1.heap.size = w.heap.size + 1 := by rw [← hw1]; simp
  have b1 : Bl w w1 := by rw [← hw1]; exact (Bl.refl _).alloc _
  have b2 : Bl w1 (w1.alloc (.cells #[.string (tx d.nm), .int .i64 (d.kd : Int), .int .i64 (d.at_ : Int), .int .i64 (d.sz : Int), .int .i64 d.n, .string (tx d.tx), .slice p n cc] 27)) := (Bl.refl _).alloc _
  have hP := h.lt'
  refine ⟨v1.bl b2, ?_, h.bl (b1.trans b2), hi.fr h (Fr.bl (b1.trans b2) (Nat.le_of_lt hP)), hn.fr (Fr.bl (b1.trans b2) (Nat.le_of_lt hP)), b1.trans b2, hP, by omega, hP⟩
  rw [← e1]
  exact new_at _ _
end Go.Proofs.YtococaecjecjgaaGreatDoor.ly
/- A writer: a part. -/
namespace Go.Proofs.YtococaecjecjgaaGreatDoor.ly
set_option linter.unusedVariables false
open Go.ChangeShapes Go.WideShapes Go.ChangeAt Go.RowKit
open mem lx ex tm num bld

/-- Nodes' writing, under way. -/
structure Rw (w wr : World) (X P mb : Nat) (l : List Ty) (acc out : List UInt8) (f : Nat) (c : C) (sub : Its) (p : Option Addr) (n cc : Nat) (cs : List CN) (j : Nat) (rest : Nds) (rem : List UInt8) : Prop where
  ws : Wr wr P mb l (acc ++ out)
  fr : Fr P w wr
  iv : Iv wr X c
  it : SubL wr mb c sub
  li : nr.Lie wr (fun g => g < P) p n cc cs
  re : RepN wr (fun g => g < P) rest (cs.drop j)
  ok : wReps l (wrB l f) c.d sub rest = .ok rem
  sz : rest.sz ≤ 400
  ln : acc.length + out.length + rem.length ≤ 30000
  lt : P < X ∧ P < w.heap.size
theorem Rw.go {w wr w' : World} {X P mb : Nat} {l : List Ty} {acc out out' : List UInt8} {f : Nat} {c : C} {sub : Its} {p : Option Addr} {n cc : Nat} {cs : List CN} {j j' : Nat} {rest rest' : Nds} {rem rem' : List UInt8} (h : Rw w wr X P mb l acc out f c sub p n cc cs j rest rem)
    (hf : Fr P wr w') (hw : Wr w' P mb l (acc ++ out')) (hr : RepN wr (fun g => g < P) rest' (cs.drop j')) (ho : wReps l (wrB l f) c.d sub rest' = .ok rem') (hz : rest'.sz ≤ 400) (hl : acc.length + out'.length + rem'.length ≤ 30000) : Rw w w' X P mb l acc out' f c sub p n cc cs j' rest' rem' :=
  ⟨hw, h.fr.trans hf, hf.iv h.iv (by have := h.lt; omega), h.it.fr h.ws hf, h.li.keep (fun g hg _ => hf.b.block g hg) hf.b.size, hr.keep (fun g hg _ => hf.b.block g hg) hf.b.size, ho, hz, hl, h.lt⟩
end Go.Proofs.YtococaecjecjgaaGreatDoor.ly
/- A writer: a block. -/
namespace Go.Proofs.YtococaecjecjgaaGreatDoor.ly
set_option linter.unusedVariables false
open Go.ChangeShapes Go.WideShapes Go.ChangeAt Go.RowKit
open mem lx ex tm num bld

/-- A block's writing, under way. -/
structure Ru (w wr : World) (P mb : Nat) (l : List Ty) (acc out : List UInt8) (f : Nat) (pI : Option Addr) (nI cI : Nat) (csI : List C) (p : Option Addr) (n cc : Nat) (cs : List CN) (j : Nat) (ri : Its) (rest : Nds) (rem : List UInt8) : Prop where
  ws : Wr wr P mb l (acc ++ out)
  fr : Fr P w wr
  ii : ir.Lie wr (fun g => g < mb) pI nI cI csI
  ir : Rep wr (fun g => g < mb) ri (csI.drop j)
  oi : OKI ri
  li : nr.Lie wr (fun g => g < P) p n cc cs
  re : RepN wr (fun g => g < P) rest (cs.drop j)
  ok : wAll l (wrB l f) ri rest = .ok rem
  sz : rest.sz ≤ 400
  ln : acc.length + out.length + rem.length ≤ 30000
  lt : P < w.heap.size
theorem Ru.go {w wr w' : World} {P mb : Nat} {l : List Ty} {acc out out' : List UInt8} {f : Nat} {pI : Option Addr} {nI cI : Nat} {csI : List C} {p : Option Addr} {n cc : Nat} {cs : List CN} {j j' : Nat} {ri ri' : Its} {rest rest' : Nds} {rem rem' : List UInt8} (h : Ru w wr P mb l acc out f pI nI cI csI p n cc cs j ri rest rem)
    (hf : Fr P wr w') (hw : Wr w' P mb l (acc ++ out')) (hi : Rep wr (fun g => g < mb) ri' (csI.drop j')) (hk : OKI ri') (hr : RepN wr (fun g => g < P) rest' (cs.drop j')) (ho : wAll l (wrB l f) ri' rest' = .ok rem') (hz : rest'.sz ≤ 400) (hl : acc.length + out'.length + rem'.length ≤ 30000) : Ru w w' P mb l acc out' f pI nI cI csI p n cc cs j' ri' rest' rem' :=
  ⟨hw, h.fr.trans hf, h.ii.keep (fun g hg _ => hf.b.block g (by have := h.ws.lt; omega)) hf.b.size, hi.keep (fun g hg _ => hf.b.block g (by have := h.ws.lt; omega)) hf.b.size (h.ws.kx hf), hk, h.li.keep (fun g hg _ => hf.b.block g hg) hf.b.size, hr.keep (fun g hg _ => hf.b.block g hg) hf.b.size, ho, hz, hl, h.lt⟩
end Go.Proofs.YtococaecjecjgaaGreatDoor.ly
