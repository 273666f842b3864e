/- Where a tree of beginnings leads on, from one of them. -/
import Derived.Test.YtehmjffbfgnijabDoorFg1
namespace Go.Proofs.YtehmjffbfgnijabDoor.tree
set_option linter.unusedVariables false
open Go.ChangeShapes Go.WideShapes Go.ChangeAt Go.RowKit Go.Maps
open mem rows fd

/-- A tree of beginnings that lies at v. -/
structure TR (w : World) (base : Nat) (v : Value) (m : Nat) (tx : Nat → List Int) (E W : Nat → Nat) (lv : Nat → Value) (n : Nat) : Prop where
  tr : Tr tx E m
  row : OwnT w base v m lv E W
  leads : ∀ i, i < m → Ld w base (lv i) (fun c => ix tx m (tx i ++ [c])) n
  apart : ∀ i j b, i < m → j < m → lv i = .map (some b) → lv j = .map (some b) → i = j
theorem Ld.kept {w w' : World} {base n : Nat} {v : Value} {f : Int → Option Nat} {row : Option Nat} (h : Ld w base v f n) (hg : w.grownBy w' row) (hne : ∀ b, v = .map (some b) → row ≠ some b) : Ld w' base v f n := by
  rcases h with h | ⟨b, rfl, hb, h⟩
  · exact Or.inl h
  · exact Or.inr ⟨b, rfl, hb, h.kept hg (fun e => hne b rfl e.symm)⟩
theorem TR.step {w w' : World} {base m n : Nat} {v : Value} {tx : Nat → List Int} {E W : Nat → Nat} {lv : Nat → Value} (h : TR w base v m tx E W lv n) (hb : Bl w w') : TR w' base v m tx E W lv n :=
  ⟨h.tr, h.row.step hb, fun i hi => (h.leads i hi).kept (row := none) ⟨hb.os, hb.tape, hb.output, hb.size, fun k hk _ => hb.block k hk⟩ (fun _ _ h => by cases h), h.apart⟩
set_option maxRecDepth 20000 in
set_option maxHeartbeats 1000000 in
theorem on_at (v : Value) (m : Nat) (tx : Nat → List Int) (E W : Nat → Nat) (lv : Nat → Value) (n base a : Nat) (t : List Int) (c : Int) (w : World) (hT : TR w base v m tx E W lv n) (ha : LS tx m t a) (hc : 0 ≤ c ∧ c < 256) (hm : m ≤ 5000) :
    Calls Tryd.prog 17 #[v, .int .i64 a, .int .u8 c] w fun e w' => ∃ j : Nat, e = .returned (.int .i64 j) ∧ LS tx m (t ++ [c]) j ∧ w' = w := by
  obtain ⟨g, cap, rfl, hBg, hgl, _, hcells⟩ := hT.row.shape hT.tr.pos
  have HT : Hid (TR w base (.slice (some ⟨g, 0, none⟩) m cap) m tx E W lv n) := hT
  have HC : Hid _ := hcells
  have HA : Hid (fd.Way tx m t c a) := ha.way c
  have hE := fun i hi => (hT.tr.ends i hi).lt
  have HE : Hid (∀ i, i < m → E i < m) := hE
  clear hT hcells ha hE
  go_enter Tryd.func17, Tryd.ntmps17
  go_wp2
  go_loop [1] (fun av => ∃ j : Nat, av = .int .i64 (j : Int) ∧ Hid (fd.Way tx m t c j)) (fun av => (tx (intOf av).toNat).length)
  case atStart => exact ⟨a, rfl, HA⟩
  case round =>
    obtain ⟨j, rfl, HJ⟩ := hrel
    have hj := HJ.out.lt
    obtain ⟨c0, c1, c2⟩ := HC.out j hj
    have hlk := (HT.out.leads j hj).look c hc
    have hz : 0 ≤ (j : Int) ∧ (j : Int) < (m : Int) := by omega
    cases hix : ix tx m (tx j ++ [c]) with
    | some k =>
      rw [hix] at hlk
      have HL : Hid _ := HJ.out.hit HT.out.tr hix
      generalize lv j = lj at c0 hlk
      clear hix
      go_wp2
      go_ret
      exact ⟨k, rfl, HL.out, rfl⟩
    | none =>
      rw [hix] at hlk
      by_cases h0 : j = 0
      · have HL : Hid (LS tx m (t ++ [c]) 0) := by
          have h1 := HJ.out
          have h2 := hix
          rw [h0] at h1 h2
          exact h1.root HT.out.tr h2
        have d0 : ((j : Int) == 0) = true := by rw [beq_iff_eq]; omega
        generalize lv j = lj at c0 hlk
        clear hix h0
        go_wp2
        go_ret
        exact ⟨0, rfl, HL.out, rfl⟩
      · obtain ⟨h1, h2⟩ := HJ.out.next HT.out.tr h0 hix
        have HL : Hid (fd.Way tx m t c (E j)) := h1
        have HM : Hid ((tx (E j)).length < (tx j).length) := h2
        have d0 : ((j : Int) == 0) = false := by rw [beq_eq_false_iff_ne]; omega
        generalize lv j = lj at c0 hlk
        generalize E j = e at c1 HL HM
        clear hix h0 h1 h2
        go_wp2
        go_round
        case rel => exact ⟨e, rfl, HL⟩
        case measure => simpa [intOf] using HM.out
end Go.Proofs.YtehmjffbfgnijabDoor.tree
