/- What the closure of package text's Wide does: it puts one half behind what there is. -/
import Derived.Test.YtaboemchkmmgeaaDoorEnc1
import Derived.Test.YtaboemchkmmgeaaDoorRefWord
import Derived.Lib.AppendStr
import Derived.OneCell
namespace Go.Proofs.YtaboemchkmmgeaaDoor.enc
set_option linter.unusedVariables false
open Go.ChangeShapes Go.WideShapes Go.ChangeAt Go.RowKit
open mem rows num words

theorem strCells_nums (t : List Int) (ht : ∀ z ∈ t, 0 ≤ z ∧ z < 256) : Lib.strCells (strOfNums t) = t.map (Value.int .u8) := by
  unfold Lib.strCells
  rw [strOfNums_data, List.map_map]
  apply List.map_congr_left
  intro z hz
  have := ht z hz
  obtain ⟨n, hn⟩ := Int.eq_ofNat_of_zero_le this.1
  subst hn
  have hn : n < 256 := by omega
  simp [Nat.mod_eq_of_lt hn]
theorem BOwn.slice {w : World} {base : Nat} {v : Value} {l : List Int} (h : BOwn w base v l) : ∃ p n c, v = .slice p n c := by
  rcases h.2 with ⟨h1, _⟩ | ⟨g, cap, cur, h1, _⟩
  · exact ⟨_, _, _, h1⟩
  · exact ⟨_, _, _, h1⟩
/-- An append of a text's bytes, as a step of a walk. -/
theorem wpL_apps {ops : Array Oper} {rest : List Oper} {o : Oper} {a : Act} {Q : Exit → Act → World → Prop} {w : World} (hgd : o.guard = none) (s x : Operand)
    (ho : o.op = .call { callee := .builtin .append, args := #[s, x], argTypes := #[58, 9] }) (hty : o.type = 58) (v : Value) (l t : List Int) (hs : a.eval s = v) (hx : a.eval x = .string (strOfNums t))
    (base : Nat) (hown : BOwn w base v l) (ht : ∀ z ∈ t, 0 ≤ z ∧ z < 256) (hn : l.length + t.length ≤ 5000) (hb : base ≤ w.heap.size)
    (h : ∀ v' w', BOwn w' base v' (l ++ t) → w.grownBy w' v.ownBlock → wpList Tryd.prog ops Q rest (a.put o.dst v') w') : wpList Tryd.prog ops Q (o :: rest) a w := by
  obtain ⟨i0, hi, hz0, hz1, hz2⟩ := info_parts info8
  have hsz : (strOfNums t).size = t.length := strOfNums_size t
  obtain ⟨v', w', hr, h1, h2, _⟩ := Lib.run_append_own_string (P := Tryd.prog) w base 58 9 58 5 i0 Tryd.underlying58 Tryd.underlying9 hi hz0 hz1 hz2 v l.length _ hown (strOfNums t) (by rw [hsz]; unfold maxLen; omega) (by rw [hsz]; omega) hb
  refine Lib.wpList_append_run w hgd s x _ _ ho v _ hs hx v' w' (by rw [hty]; exact hr) (h v' w' ?_ h2)
  unfold BOwn
  rw [List.map_append, List.length_append, ← hsz, ← strCells_nums t ht]
  exact h1
/-- What Wide has made so far: the order lies at Oc, the bytes at Bc. -/
structure Wi (w0 w : World) (Oc Bc : Nat) (O : Int) (v : Value) (L : List Int) : Prop where
  ord : w.cell? ⟨Oc, 0, none⟩ = some (.int .i64 O)
  lt : Oc < w.heap.size
  here : w.heap[Bc]? = some (.cells #[v] 58 (0, 0))
  ne : Oc ≠ Bc
  own : BOwn w (Oc + 1) v L
  bl : Bl w0 w
  base : w0.heap.size ≤ Oc
  base' : w0.heap.size ≤ Bc
theorem Wi.step {w0 w w' : World} {Oc Bc : Nat} {O : Int} {v : Value} {L : List Int} (h : Wi w0 w Oc Bc O v L) (hb : Bl w w') : Wi w0 w' Oc Bc O v L :=
  ⟨at_bl hb h.ord, Nat.lt_of_lt_of_le h.lt hb.size, by rw [Below.block hb _ (lt_of_block h.here)]; exact h.here, h.ne, h.own.step hb, h.bl.trans hb, h.base, h.base'⟩
theorem Wi.apart {w0 w : World} {Oc Bc : Nat} {O : Int} {v : Value} {L : List Int} (h : Wi w0 w Oc Bc O v L) : v.ownBlock ≠ some Bc := by
  intro e
  rcases h.own.2 with ⟨h1, _⟩ | ⟨g, cap, cur, h1, h2, h3, h4⟩
  · rw [h1] at e; cases e
  · rw [h1] at e
    have e' : g = Bc := by simpa [Value.ownBlock] using e
    rw [e', h.here] at h3
    simp at h3
theorem Wi.grown {w0 w w' : World} {Oc Bc : Nat} {O : Int} {v v' : Value} {L L' : List Int} (h : Wi w0 w Oc Bc O v L) (ho : BOwn w' (Oc + 1) v' L') (hg : w.grownBy w' v.ownBlock) : Wi w0 (w'.setCell ⟨Bc, 0, none⟩ v') Oc Bc O v' L' := by
  have hb : w'.heap[Bc]? = some (.cells #[v] 58 (0, 0)) := by
    rw [hg.block Bc (lt_of_block h.here) (fun e => h.apart e.symm)]
    exact h.here
  have hap : v'.ownBlock ≠ some Bc := by
    intro e
    rcases ho.2 with ⟨h1, _⟩ | ⟨g, cap, cur, h1, h2, h3, h4⟩
    · rw [h1] at e; cases e
    · rw [h1] at e
      have e' : g = Bc := by simpa [Value.ownBlock] using e
      rw [e', hb] at h3
      simp at h3
  have hO : w'.cell? ⟨Oc, 0, none⟩ = some (.int .i64 O) := hg.cell h.ord (fun e => by
    have := (h.own.block Oc e.symm).1
    omega)
  refine ⟨?_, ?_, one_setCell hb, h.ne, ownsRow_setCell_other ho hap _, ?_, h.base, h.base'⟩
  · rw [World.cell?_setCell_other _ _ _ _ (by intro e; exact h.ne (by simpa using (congrArg Addr.block e).symm))]
    exact hO
  · have := hg.size
    have := h.lt
    simp [World.setCell]
    omega
  · exact (bl_grown h.bl hg (fun k e => by have := (h.own.block k e).1; have := h.base; omega)).setCell h.base' _
theorem half_at (h : Int) (o : Bool) (O : Int) (hO : (if o then (1 : Int) else 0) = O) (w0 w : World) (Oc Bc : Nat) (v : Value) (L : List Int) (h0 : 0 ≤ h) (h1 : h < 65536) (hL : L.length ≤ 4500) (hi : Wi w0 w Oc Bc O v L) :
    Calls Tryd.prog 35 #[.int .i64 h, .pointer (some ⟨Oc, 0, none⟩), .pointer (some ⟨Bc, 0, none⟩)] w fun e w' => e = .returned (.tuple #[]) ∧ ∃ v', Wi w0 w' Oc Bc O v' (L ++ putL h 2 o 2) := by
  have cP := fun w => put_at h 2 o O w hO (Or.inr (Or.inl rfl))
  have cP' : ∀ w, Calls Tryd.prog 36 #[.int .u64 h, .int .i64 2, .int .i64 O] w fun e w' => e = .returned (.tuple #[.string (strOfNums (putL h 2 o 2)), .nilIface]) ∧ Gb w w' := cP
  have hT := putL_bd h 2 o 2
  have hTl : (putL h 2 o 2).length = 2 := putL_len h 2 o 2
  have HI : Hid (Wi w0 w Oc Bc O v L) := hi
  have hc := hi.ord
  clear cP hO hi
  generalize putL h 2 o 2 = T at *
  go_enter Tryd.func35, Tryd.ntmps35
  go_wp2_with (first
    | (go_at_call 36; refine (cP' _).mono ?_; rintro e w1 ⟨rfl, hg1⟩; have hi1 := HI.out.step hg1.bl; have hc1 := cell_of_one hi1.here)
    | (at_builtin; refine wpL_apps rfl (.tmp 13) (.tmp 14) rfl rfl _ L T rfl rfl _ hi1.own hT (by omega) (by have := hi1.lt; omega) ?_; intro v' w2 ho2 hg2; obtain ⟨p', n', c', rfl⟩ := ho2.slice; have hW := hi1.grown ho2 hg2; have hc2 : w2.cell? ⟨Bc, 0, none⟩ = some v := hg2.cell hc1 (fun e => hi1.apart e.symm); have hf2 : w2.frozen? ⟨Bc, 0, none⟩ = false := by unfold World.frozen?; rw [hg2.block Bc (lt_of_block hi1.here) (fun e => hi1.apart e.symm), hi1.here]; rfl))
  go_end0
  exact ⟨rfl, _, hW⟩
end Go.Proofs.YtaboemchkmmgeaaDoor.enc
