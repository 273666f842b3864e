/- Texts laid together: ByRow, Wy1, Wy2, Wy3, Wy4. -/
import Derived.Test.YtococaecjecjgaaGreatDoorXLayoutBack24
import Derived.Lib.AppendStr
import Derived.Deep.RegionHeld3
import Derived.Test.YtococaecjecjgaaGreatDoorXLayoutBack15
import Derived.Lib.Builder
import Derived.Lib.UnsafeStr
import Derived.Test.YtococaecjecjgaaGreatDoorXLayoutBack21
import Derived.Test.YtococaecjecjgaaGreatDoorXLayoutBack23
/- A row of bytes that grows: bytes and texts put behind it, its text, its cells; a variable of one cell that holds it. -/
namespace Go.Proofs.YtococaecjecjgaaGreatDoor.rows
set_option linter.unusedVariables false
open Go.ChangeShapes Go.WideShapes Go.ChangeAt Go.RowKit
open mem

/-- A text's bytes, as numbers. -/
def bs (t : ByteArray) : List Int := t.data.toList.map fun b => (b.toNat : Int)
theorem bs_len (t : ByteArray) : (bs t).length = t.size := by
  show _ = t.data.toList.length
  simp [bs]
/-- A row of the call's own that holds just these bytes. -/
def BOwn (w : World) (base : Nat) (v : Value) (l : List Int) : Prop := w.ownsRow base 5 1 v l.length (l.map (Value.int .u8))
theorem BOwn.nil (w : World) (base : Nat) : BOwn w base (.slice none 0 0) [] := World.ownsRow_nil _ _ _ _
theorem BOwn.block {w : World} {base : Nat} {v : Value} {l : List Int} (h : BOwn w base v l) : ∀ k, v.ownBlock = some k → base ≤ k ∧ k < w.heap.size := World.ownsRow.lt h
theorem BOwn.slice {w : World} {base : Nat} {v : Value} {l : List Int} (h : BOwn w base v l) : ∃ p c, v = .slice p l.length c := by
  rcases h.2 with ⟨h1, h2⟩ | ⟨g, cap, cur, h1, _⟩
  · exact ⟨_, _, by rw [h1, h2]⟩
  · exact ⟨_, _, h1⟩
theorem BOwn.step {w w' : World} {base : Nat} {v : Value} {l : List Int} (h : BOwn w base v l) (hb : Bl w w') : BOwn w' base v l := by
  refine ⟨h.1, ?_⟩
  rcases h.2 with h | ⟨g, cap, cur, h1, h2, h3, h4⟩
  · exact Or.inl h
  · refine Or.inr ⟨g, cap, cur, h1, h2, ?_, h4⟩
    have hg : g < w.heap.size := by
      rcases Nat.lt_or_ge g w.heap.size with h | h
      · exact h
      · rw [Array.getElem?_eq_none h] at h3; cases h3
    rw [Below.block hb g hg]
    exact h3
theorem BOwn.set_other {w : World} {base : Nat} {v : Value} {l : List Int} (h : BOwn w base v l) {a : Addr} (ha : v.ownBlock ≠ some a.block) (x : Value) : BOwn (w.setCell a x) base v l := by
  refine ⟨h.1, ?_⟩
  rcases h.2 with h | ⟨g, cap, cur, h1, h2, h3, h4⟩
  · exact Or.inl h
  · refine Or.inr ⟨g, cap, cur, h1, h2, ?_, h4⟩
    have hne : ¬ a.block = g := fun e => ha (by rw [h1, e]; rfl)
    simp [World.setCell, Array.getElem?_modify, hne, h3]
/-- Its block bears bytes. -/
theorem BOwn.typed {w : World} {base : Nat} {v : Value} {l : List Int} (h : BOwn w base v l) {k : Nat} (hk : v.ownBlock = some k) : ∃ c, w.heap[k]? = some (.cells c 5 (0, 0)) := by
  rcases h.2 with ⟨h1, _⟩ | ⟨g, cap, cur, h1, h2, h3, h4⟩
  · rw [h1] at hk; cases hk
  · rw [h1] at hk
    have e : g = k := by simpa [Value.ownBlock] using hk
    rw [← e]
    exact ⟨cur, h3⟩
theorem BOwn.cells {w : World} {base : Nat} {v : Value} {l : List Int} (h : BOwn w base v l) {j : Nat} (hj : j < l.length) : ∃ g c, v = .slice (some ⟨g, 0, none⟩) l.length c ∧ w.cell? ⟨g, j, none⟩ = some (.int .u8 (l.getD j 0)) ∧ w.frozen? ⟨g, j, none⟩ = false := by
  rcases h.2 with ⟨_, h0⟩ | ⟨g, cap, cur, h1, _, h3, _, _, hcs, htake⟩
  · omega
  · refine ⟨g, cap, h1, ?_, ?_⟩
    · have : (l.map (Value.int .u8))[j]? = some (.int .u8 (l.getD j 0)) := by simp [hj]
      rw [← htake, Nat.mul_one, List.getElem?_take, if_pos hj] at this
      simp only [World.cell?, h3]
      simpa using this
    · simp [World.frozen?, h3]
/-- Its text. -/
theorem BOwn.text {w : World} {base : Nat} {v : Value} {l : List Int} (h : BOwn w base v l) : (convert 79 9 v).run Tryz.prog w = .ok (.string (strOfNums l)) w := by
  rcases h.2 with ⟨rfl, h0⟩ | ⟨g, cap, cur, rfl, _, h3, _, _, hcs, htake⟩
  · have : l = [] := List.eq_nil_of_length_eq_zero h0
    subst this
    show (convert 79 9 (.slice none 0 0)).run Tryz.prog w = .ok (.string (strOfNums [])) w
    kernel_rfl
  · refine run_convert_bytes_arg w 79 5 Tryz.underlying79 Tryz.underlying5 g 0 l.length cap l rfl (fun i hi => ?_) 9 Tryz.underlying9
    have : (l.map (Value.int .u8))[i]? = some (.int .u8 (l.getD i 0)) := by simp [hi]
    rw [← htake, Nat.mul_one, List.getElem?_take, if_pos hi] at this
    simp only [World.cell?, h3, Nat.zero_add]
    simpa using this
theorem info8 : (Tryz.prog.info? 5).map (fun i => (i.zero, i.size, i.bytes)) = some (some (.int .u8 0), 1, 1) := by kernel_rfl
theorem info8' : ∃ i, Tryz.prog.info? 5 = some i ∧ i.zero = some (.int .u8 0) ∧ i.size = 1 ∧ i.bytes = 1 := by
  obtain ⟨i, h1, h2⟩ := Option.map_eq_some_iff.1 info8
  simp only [Prod.mk.injEq] at h2
  exact ⟨i, h1, h2.1, h2.2.1, h2.2.2⟩
theorem strCells_bs (t : ByteArray) : Lib.strCells t = (bs t).map (Value.int .u8) := by
  unfold Lib.strCells bs
  rw [List.map_map]
  rfl
/-- A text's bytes, put behind. -/
theorem app_str (w : World) (base : Nat) (v : Value) (l : List Int) (t : ByteArray) (hown : BOwn w base v l) (hl : l.length + t.size ≤ 30000) (hb : base ≤ w.heap.size) :
    ∃ v' w', (Builtin.append_ #[79, 9] 79 #[v, .string t]).run Tryz.prog w = .ok v' w' ∧ BOwn w' base v' (l ++ bs t) ∧ w.grownBy w' v.ownBlock := by
  obtain ⟨i0, hi, hz0, hz1, hz2⟩ := info8'
  obtain ⟨v', w', hr, h1, h2, _⟩ := Lib.run_append_own_string (P := Tryz.prog) w base 79 9 79 5 i0 Tryz.underlying79 Tryz.underlying9 hi hz0 hz1 hz2 v l.length _ hown t (by unfold maxLen; omega) (by omega) hb
  refine ⟨v', w', hr, ?_, h2⟩
  unfold BOwn
  rw [List.map_append, List.length_append, bs_len, ← strCells_bs]
  exact h1
/-- An append whose run is known, in a region that draws. -/
theorem step_append_run {P : Program} {ops : Array Oper} {o : Oper} {a : Act} {w : World} {K : Act → World → Prop} {Q : Exit → Act → World → Prop} {E : Prop}
    (hg : o.guard = none) (s x : Operand) (t tx : TypeId) (hop : o.op = Op.call { callee := Callee.builtin Builtin.append, args := #[s, x], argTypes := #[t, tx] })
    (vs vx : Value) (hs : a.eval s = vs) (hx : a.eval x = vx) (v' : Value) (w' : World) (hr : (Builtin.append_ #[t, tx] o.type #[vs, vx]).run P w = .ok v' w') (hK : K (a.put o.dst v') w') :
    if Region.wanted o (yielded ops a.tmps) = true then Oper.wp P o a w K Q else E := by
  have hw : Region.wanted o (yielded ops a.tmps) = true := by simp [Region.wanted, hg]
  rw [if_pos hw]
  exact Lib.wp_append_run w s x t tx hop vs vx hs hx v' w' hr hK
theorem lt_of_some {w : World} {k : Nat} {o : Obj} (h : w.heap[k]? = some o) : k < w.heap.size := by
  rcases Nat.lt_or_ge k w.heap.size with h' | h'
  · exact h'
  · rw [Array.getElem?_eq_none h'] at h; cases h
/-- A variable of one cell. -/
def Vr (w : World) (b : Nat) (v : Value) (t : TypeId) : Prop := w.heap[b]? = some (.cells #[v] t (0, 0))
theorem Vr.lt {w : World} {b : Nat} {v : Value} {t : TypeId} (h : Vr w b v t) : b < w.heap.size := lt_of_some h
theorem Vr.cell {w : World} {b : Nat} {v : Value} {t : TypeId} (h : Vr w b v t) : w.cell? ⟨b, 0, none⟩ = some v := by
  unfold Vr at h
  simp [World.cell?, h]
theorem Vr.frozen {w : World} {b : Nat} {v : Value} {t : TypeId} (h : Vr w b v t) : w.frozen? ⟨b, 0, none⟩ = false := by
  unfold Vr at h
  simp [World.frozen?, h]
theorem Vr.new (w : World) (v : Value) (t : TypeId) : Vr (w.alloc (.cells #[v] t)) w.heap.size v t := by
  show (w.heap.push _)[w.heap.size]? = _
  rw [Array.getElem?_push, if_pos rfl]
theorem Vr.step {w w' : World} {b : Nat} {v : Value} {t : TypeId} (h : Vr w b v t) (hb : Bl w w') : Vr w' b v t := by
  have := h.lt
  unfold Vr at h ⊢
  rw [Below.block hb _ this]
  exact h
theorem Vr.set {w : World} {b : Nat} {v : Value} {t : TypeId} (h : Vr w b v t) (x : Value) : Vr (w.setCell ⟨b, 0, none⟩ x) b x t := by
  unfold Vr at h ⊢
  simp [World.setCell, Array.getElem?_modify, h]
theorem Vr.set_other {w : World} {b c j : Nat} {v : Value} {t : TypeId} (h : Vr w b v t) (hne : c ≠ b) (x : Value) : Vr (w.setCell ⟨c, j, none⟩ x) b v t := by
  unfold Vr at h ⊢
  simp [World.setCell, Array.getElem?_modify, hne, h]
theorem Vr.grown {w w' : World} {b : Nat} {v : Value} {t : TypeId} {row : Option Nat} (h : Vr w b v t) (hg : w.grownBy w' row) (hne : row ≠ some b) : Vr w' b v t := by
  have := h.lt
  unfold Vr at h ⊢
  rw [hg.block b this (fun e => hne e.symm)]
  exact h
/-- A row of bytes never lies in a variable of another type. -/
theorem BOwn.ne {w : World} {base b : Nat} {v x : Value} {l : List Int} {t : TypeId} (h : BOwn w base v l) (k : Vr w b x t) (ht : t ≠ 5) : v.ownBlock ≠ some b := by
  intro e
  obtain ⟨c, hc⟩ := h.typed e
  unfold Vr at k
  rw [k] at hc
  injection hc with hc
  injection hc with _ h2 _
  exact ht h2
end Go.Proofs.YtococaecjecjgaaGreatDoor.rows
/- A writer: its builder, which is a part of it. -/
namespace Go.Proofs.YtococaecjecjgaaGreatDoor.ly
set_option linter.unusedVariables false
open Go.ChangeShapes Go.WideShapes Go.ChangeAt Go.RowKit
open mem lx ex tm num bld

theorem infoB : ∃ j, Tryz.prog.info? 81 = some j ∧ j.size = 2 := by
  have h : (Tryz.prog.info? 81).map (·.size) = some 2 := by kernel_rfl
  obtain ⟨i, h1, h2⟩ := Option.map_eq_some_iff.1 h
  exact ⟨i, h1, h2⟩
theorem lies_writer : liesAt Tryz.prog Tryz.prog.depth 83 (3 / Tryz.prog.cellsOf 83) 1 81 1 = true := by kernel_rfl
/-- A writer that has written so much. -/
structure Wr (w : World) (P mb : Nat) (l : List Ty) (acc : List UInt8) : Prop where
  at_ : ∃ p v, w.heap[P]? = some (.cells #[.map (some mb), .pointer p, v] 83 (0, 0)) ∧ (p = none ∨ p = some ⟨P, 1, none⟩) ∧ rows.BOwn w P v (acc.map fun b => (b.toNat : Int)) ∧ v.ownBlock ≠ some P
  mp : TyM w mb l
  lt : mb < P
theorem Wr.lt' {w : World} {P mb : Nat} {l : List Ty} {acc : List UInt8} (h : Wr w P mb l acc) : P < w.heap.size := by
  obtain ⟨p, v, h1, _⟩ := h.at_
  exact lt_of_heap h1
theorem Wr.bl {w w' : World} {P mb : Nat} {l : List Ty} {acc : List UInt8} (h : Wr w P mb l acc) (hb : Bl w w') : Wr w' P mb l acc := by
  obtain ⟨p, v, h1, h2, h3, h4⟩ := h.at_
  have hP := h.lt'
  exact ⟨⟨p, v, by rw [Below.block hb P hP]; exact h1, h2, h3.step hb, h4⟩, h.mp.keep (fun g hg => Below.block hb g (by have := h.lt; omega)) hb.size (Kx.bl hb), h.lt⟩
/-- What writing leaves as it is. -/
structure Fr (P : Nat) (w w' : World) : Prop where
  b : Below P w w'
  k : Kb P w w'
theorem Fr.refl (P : Nat) (w : World) : Fr P w w := ⟨Below.refl _ _, Kb.refl _ _⟩
theorem Fr.trans {P : Nat} {a b c : World} (h : Fr P a b) (k : Fr P b c) : Fr P a c := ⟨h.b.trans k.b, h.k.trans k.k⟩
theorem Fr.bl {P : Nat} {w w' : World} (h : Bl w w') (hP : P ≤ w.heap.size) : Fr P w w' := ⟨Below.mono h hP, Kb.bl h⟩
set_option maxRecDepth 10000 in
theorem check_at (w : World) (P : Nat) (m : Value) (p : Option Addr) (v : Value) (h : w.heap[P]? = some (.cells #[m, .pointer p, v] 83 (0, 0))) (hp : p = none ∨ p = some ⟨P, 1, none⟩) :
    Calls Tryz.prog 125 #[.pointer (some ⟨P, 1, none⟩)] w fun e w' => e = .returned (.tuple #[]) ∧ w'.heap[P]? = some (.cells #[m, .pointer (some ⟨P, 1, none⟩), v] 83 (0, 0)) ∧ Gp P w w' := by
  obtain ⟨j, hj, hjs⟩ := infoB
  have c1 : w.cell? ⟨P, 1, none⟩ = some (.pointer p) := by rw [cell_of h]; rfl
  have z1 : w.frozen? ⟨P, 1, none⟩ = false := by simp [World.frozen?, h]
  have hP := lt_of_heap h
  have hsh : w.shape? P = some (83, 3) := by simp [World.shape?, h]
  have H : Hid (w.heap[P]? = some (.cells #[m, .pointer p, v] 83 (0, 0))) := h
  rcases hp with rfl | rfl
  · have hc1 := Lib.run_to_unsafe (P := Tryz.prog) w (src := 78) (dst := 204) ⟨P, 1, none⟩ Tryz.underlying78 Tryz.underlying204 hj (by rw [hjs]; decide) hsh (show (1 : Nat) < 3 by decide)
    have hc2 := Lib.run_from_unsafe (P := Tryz.prog) w (src := 204) (dst := 78) ⟨P, 1, none⟩ Tryz.underlying204 Tryz.underlying78 hj hsh lies_writer
    clear h hsh hj hjs
    go_enter Tryz.func125, Tryz.ntmps125
    go_wp2
    rw [run_callFunc_extern Tryz.func154 (by kernel_rfl) (by kernel_rfl) (by kernel_rfl) (e := Extern.AbiNoEscape.same) (by kernel_rfl), Lib.run_noEscape]
    simp only [Result.andThen]
    rw [Oper.upon_value]
    go_wp2
    refine bodyPost_end (results_none rfl _ _ _) rfl ⟨rfl, ?_, Gp.set _⟩
    exact heap_set H.out
  · have hn := fun w => Lib.run_neq_ptr_same (P := Tryz.prog) w (tp := 78) ⟨P, 1, none⟩ Tryz.underlying78 hj
    clear h hsh hj hjs
    go_enter Tryz.func125, Tryz.ntmps125
    go_wp2
    exact bodyPost_end (results_none rfl _ _ _) rfl ⟨rfl, H.out, Gp.refl _ _⟩
set_option maxRecDepth 10000 in
set_option maxHeartbeats 1600000 in
theorem wstr_at (w : World) (P mb : Nat) (l : List Ty) (acc : List UInt8) (t : ByteArray) (h : Wr w P mb l acc) (hl : acc.length + t.size ≤ 30000) :
    Calls Tryz.prog 93 #[.pointer (some ⟨P, 1, none⟩), .string t] w fun e w' => e = .returned (.tuple #[.int .i64 t.size, .nilIface]) ∧ Wr w' P mb l (acc ++ L t) ∧ Fr P w w' := by
  obtain ⟨p, v, h1, h2, h3, h4⟩ := h.at_
  have cC := check_at w P _ p v h1 h2
  have HW : Hid (Wr w P mb l acc ∧ rows.BOwn w P v (acc.map fun b => (b.toNat : Int)) ∧ v.ownBlock ≠ some P) := ⟨h, h3, h4⟩
  clear h h1 h2 h3 h4
  go_enter Tryz.func93, Tryz.ntmps93
  go_wp2_with fail
  refine cC.mono ?_
  rintro e w1 ⟨rfl, hc1, hg1⟩
  have hO1 : rows.BOwn w1 P v (acc.map fun b => (b.toNat : Int)) := by
    have hb := HW.out.2.1
    refine ⟨hb.1, ?_⟩
    rcases hb.2 with hn | ⟨g, cap, cur, e1, e2, e3, e4⟩
    · exact Or.inl hn
    · refine Or.inr ⟨g, cap, cur, e1, e2, ?_, e4⟩
      rw [hg1.block g (lt_of_heap e3) (fun e => by subst e; exact HW.out.2.2 (by rw [e1]; rfl))]
      exact e3
  obtain ⟨v', w2, hr, hO2, hg2⟩ := rows.app_str w1 P v _ t hO1 (by rw [List.length_map]; exact hl) (by have := lt_of_heap hc1; omega)
  obtain ⟨sp, sc, hsv⟩ := hO1.slice
  obtain ⟨sp', sc', hsv'⟩ := hO2.slice
  have hP2 : w2.heap[P]? = some (.cells #[.map (some mb), .pointer (some ⟨P, 1, none⟩), v] 83 (0, 0)) := (hg2.block P (lt_of_heap hc1) (fun e => HW.out.2.2 e.symm)).trans hc1
  have hne' : v'.ownBlock ≠ some P := fun e => by
    obtain ⟨c, hc⟩ := hO2.typed e
    rw [hP2] at hc
    simp at hc
  have hP3 : (w2.setCell ⟨P, 2, none⟩ v').heap[P]? = some (.cells #[.map (some mb), .pointer (some ⟨P, 1, none⟩), v'] 83 (0, 0)) := heap_set hP2
  have hrow : ∀ k, v.ownBlock = some k → P ≤ k ∧ k < w1.heap.size := hO1.block
  have hs3 := Gp.set (P := P) (j := 2) (w := w2) v'
  have hO3 : rows.BOwn (w2.setCell ⟨P, 2, none⟩ v') P v' ((acc ++ L t).map fun b => (b.toNat : Int)) := by
    have e : (acc ++ L t).map (fun b => (b.toNat : Int)) = (acc.map fun b => (b.toNat : Int)) ++ rows.bs t := by rw [List.map_append]; rfl
    rw [e]
    exact hO2.set_other (by show v'.ownBlock ≠ some P; exact hne') _
  have hFr : Fr P w (w2.setCell ⟨P, 2, none⟩ v') := by
    refine ⟨⟨hs3.os.trans (hg2.os.trans hg1.os), hs3.tape.trans (hg2.tape.trans hg1.tape), hs3.output.trans (hg2.output.trans hg1.output), Nat.le_trans hg1.size (Nat.le_trans hg2.size hs3.size), fun k hk => ?_⟩, ⟨Nat.le_trans hg1.size (Nat.le_trans hg2.size hs3.size), fun k o hk hne ho => ?_⟩⟩
    · have hPs := HW.out.1.lt'
      have := hg1.size
      have := hg2.size
      rw [hs3.block k (by omega) (by omega), hg2.block k (by omega) (fun e => by have := (hrow k e.symm).1; omega), hg1.block k (by omega) (by omega)]
    · have hkl := lt_of_heap hk
      have h1k : w1.heap[k]? = some o := by rw [hg1.block k hkl hne]; exact hk
      rw [hs3.block k (by have := hg1.size; have := hg2.size; omega) hne, hg2.block k (lt_of_heap h1k) (fun e => by
        obtain ⟨c, hc⟩ := hO1.typed e.symm
        rw [h1k] at hc
        exact ho _ _ (Option.some.inj hc))]
      exact h1k
  have hKx : Kx w (w2.setCell ⟨P, 2, none⟩ v') := fun b cs hb => hFr.k.same b _ hb (fun e => by subst e; obtain ⟨_, _, q, _⟩ := HW.out.1.at_; rw [hb] at q; simp at q) (fun c fz e => by injection e with _ e2 _; exact absurd e2 (by decide))
  have HF : Hid (Wr (w2.setCell ⟨P, 2, none⟩ v') P mb l (acc ++ L t) ∧ Fr P w (w2.setCell ⟨P, 2, none⟩ v')) := ⟨⟨⟨_, v', hP3, Or.inr rfl, hO3, hne'⟩, HW.out.1.mp.keep (fun g hg => hFr.b.block g (by have := HW.out.1.lt; omega)) hFr.b.size hKx, HW.out.1.lt⟩, hFr⟩
  have c2 : w1.cell? ⟨P, 2, none⟩ = some v := by rw [cell_of hc1]; rfl
  have d2 : w2.cell? ⟨P, 2, none⟩ = some v := by rw [cell_of hP2]; rfl
  have z2 : w2.frozen? ⟨P, 2, none⟩ = false := by simp [World.frozen?, hP2]
  have HA : Hid _ := hr
  obtain ⟨n1, hn1⟩ : ∃ n, n = (acc.map fun b => (b.toNat : Int)).length := ⟨_, rfl⟩
  obtain ⟨n2, hn2⟩ : ∃ n, n = (acc.map (fun b => (b.toNat : Int)) ++ rows.bs t).length := ⟨_, rfl⟩
  rw [← hn1] at hsv
  rw [← hn2] at hsv'
  rw [hsv] at c2 d2 HA
  rw [hsv'] at HA HF
  clear hn1 hn2 cC hc1 hg1 hO1 hr hO2 hg2 hP2 hne' hP3 hrow hs3 hO3 hFr hKx hsv hsv'
  go_wp2_with (at_builtin; refine Lib.wpList_append_run _ rfl (.tmp 12) (.tmp 13) _ _ rfl _ _ rfl rfl _ _ HA.out ?_)
  go_ret2
  exact ⟨rfl, HF.out⟩
end Go.Proofs.YtococaecjecjgaaGreatDoor.ly
/- A writer: must, and a number. -/
namespace Go.Proofs.YtococaecjecjgaaGreatDoor.ly
set_option linter.unusedVariables false
open Go.ChangeShapes Go.WideShapes Go.ChangeAt Go.RowKit
open mem lx ex tm num bld words

theorem must_at (w : World) : Calls Tryz.prog 104 #[.bool true] w fun e w' => e = .returned (.tuple #[]) ∧ w' = w := by
  go_enter Tryz.func104, Tryz.ntmps104
  go_wp2
  exact bodyPost_end (results_none rfl _ _ _) rfl ⟨rfl, rfl⟩
theorem fits_r64 {d : D} {n : Int} (hd : WD d) (h1 : d.kd = 1) (hf : fits n d.wd d.sg = true) : R64 n := by
  obtain ⟨hw, _⟩ := num_cases hd h1
  unfold fits sgn at hf
  unfold R64
  rcases hw with e | e | e | ⟨e, e2⟩
  · rw [e] at hf; cases hs : d.sg <;> rw [hs] at hf <;> simp at hf <;> omega
  · rw [e] at hf; cases hs : d.sg <;> rw [hs] at hf <;> simp at hf <;> omega
  · rw [e] at hf; cases hs : d.sg <;> rw [hs] at hf <;> simp at hf <;> omega
  · rw [e, e2] at hf; simp at hf; omega
set_option maxHeartbeats 1000000 in
theorem fits_at {d : D} {n : Int} (hd : WD d) (h1 : d.kd = 1) (hf : fits n d.wd d.sg = true) (w : World) :
    Calls Tryz.prog 137 #[.int .i64 n, .int .i64 (d.wd : Int), .bool d.sg] w fun e w' => e = .returned (.bool true) ∧ w' = w := by
  obtain ⟨hr1, hr2⟩ := fits_r64 hd h1 hf
  obtain ⟨hw, _⟩ := num_cases hd h1
  unfold fits at hf
  by_cases hs : d.sg = true
  · rw [hs] at hf ⊢
    simp only [if_true, beq_iff_eq] at hf
    have hW : d.wd = 1 ∨ d.wd = 2 ∨ d.wd = 4 ∨ d.wd = 8 := by omega
    have hu : IntKind.u64.wrap n = n % 18446744073709551616 := IntKind.wrap_u64 n
    have hsg : sgn (n % 18446744073709551616) d.wd = n := by
      unfold sgn at hf ⊢
      rcases hW with e | e | e | e <;> rw [e] at hf ⊢ <;> simp at hf ⊢ <;> omega
    have hS := fun wx => sgn_calls (n % 18446744073709551616) d.wd hW (by omega) (by omega) wx
    rw [hsg] at hS
    generalize d.wd = W at *
    have h2 : ((1 : Int) ≤ (W : Int)) := by omega
    have h3 : ((W : Int) ≤ 8) := by omega
    clear hf hsg hW hw hs hd h1
    go_enter Tryz.func137, Tryz.ntmps137
    go_wp2_with (first | (go_at_call 117; refine (hS _).mono ?_; rintro e w1 ⟨rfl, rfl⟩) | go_in)
    all_goals (try (exfalso; omega))
    all_goals (go_ret; exact ⟨by simp, rfl⟩)
  · have hs : d.sg = false := by simpa using hs
    rw [hs] at hf ⊢ hw
    simp at hf
    have hW : d.wd = 1 ∨ d.wd = 2 ∨ d.wd = 4 := by
      rcases hw with e | e | e | ⟨_, e⟩
      · omega
      · omega
      · omega
      · cases e
    rcases hW with e | e | e
    all_goals
      rw [e] at hf ⊢
      simp at hf
      obtain ⟨g1, g2⟩ := hf
      have hn : IntKind.u64.wrap n = n := by rw [IntKind.wrap_u64]; omega
      clear hd h1 hw hs e
      go_enter Tryz.func137, Tryz.ntmps137
      go_wp2_with go_in
      all_goals (try (exfalso; omega))
      all_goals (go_ret; exact ⟨by simp <;> omega, rfl⟩)
theorem Wr.cells {w : World} {P mb : Nat} {l : List Ty} {acc : List UInt8} (h : Wr w P mb l acc) : w.cell? ⟨P, 0, none⟩ = some (.map (some mb)) ∧ ∀ j, w.frozen? ⟨P, j, none⟩ = false := by
  obtain ⟨p, v, h1, _⟩ := h.at_
  exact ⟨by rw [cell_of h1]; rfl, fun j => by simp [World.frozen?, h1]⟩
theorem Fr.iv {w w' : World} {P N : Nat} {c : C} (h : Fr P w w') (hi : Iv w N c) (hne : N ≠ P) : Iv w' N c := hi.kb h.k hne
theorem Fr.nv {w w' : World} {P N : Nat} {d : ND} {p : Option Addr} {n c : Nat} (h : Fr P w w') (hi : Nv w N d p n c) (hne : N ≠ P) : Nv w' N d p n c := h.k.same N _ hi hne (fun c fz e => by injection e with _ e2 _; exact absurd e2 (by decide))
/-- What a step of the writer answers. -/
def WrA (w : World) (P mb : Nat) (l : List Ty) (acc out : List UInt8) (e : Ending) (w' : World) : Prop := e = .returned (.tuple #[]) ∧ Wr w' P mb l (acc ++ out) ∧ Fr P w w'
set_option maxRecDepth 10000 in
set_option maxHeartbeats 1000000 in
theorem wnum_at (w : World) (P mb : Nat) (l : List Ty) (acc : List UInt8) (c : C) (n : Int) (h : Wr w P mb l acc) (hd : WD c.d) (h1 : c.d.kd = 1) (hf : fits n c.d.wd c.d.sg = true) (hl : acc.length + c.d.wd ≤ 30000) :
    Calls Tryz.prog 105 #[.pointer (some ⟨P, 0, none⟩), itV c, .int .i64 n] w (WrA w P mb l acc (pb n c.d.wd (c.d.od == 1))) := by
  obtain ⟨hw, ho⟩ := num_cases hd h1
  have hr := fits_r64 hd h1 hf
  have hW : (c.d.wd : Int) = 1 ∨ (c.d.wd : Int) = 2 ∨ (c.d.wd : Int) = 4 ∨ (c.d.wd : Int) = 8 := by omega
  have hO : (if (c.d.od == 1) then (1 : Int) else 0) = (c.d.od : Int) := by rcases ho with e | e <;> rw [e] <;> rfl
  have cF := fun wx => fits_at hd h1 hf wx
  have cP := fun wx => words.put_at (n % 18446744073709551616) c.d.wd (c.d.od == 1) (c.d.od : Int) wx hO hW
  have hu : IntKind.u64.wrap n = n % 18446744073709551616 := IntKind.wrap_u64 n
  obtain ⟨t, ht⟩ : ∃ t, t = strOfNums (putL (n % 18446744073709551616) c.d.wd (c.d.od == 1) c.d.wd) := ⟨_, rfl⟩
  have hts : t.size = c.d.wd := by rw [ht, put_len]
  have htp : L t = pb n c.d.wd (c.d.od == 1) := by
    rw [ht]
    unfold L strOfNums pb
    simp
  rw [← ht] at cP
  rw [itV_eq, ← htp]
  obtain ⟨w1, hw1⟩ : ∃ w1, w1 = w.alloc (.cells #[.int .i64 (c.d.kd : Int), .int .i64 (c.d.at_ : Int), .string (tx c.d.nm), .string (tx c.d.ty), .int .i64 (c.d.wd : Int), .int .i64 (c.d.od : Int), .bool c.d.sg, .bool c.d.mn, .pointer c.pc, .int .i64 (c.d.ru : Int), .string (tx c.d.f1), .string (tx c.d.l1), .slice c.p c.n c.c] 60) := ⟨_, rfl⟩
  obtain ⟨N, hN⟩ : ∃ N, N = w.heap.size := ⟨_, rfl⟩
  have hb1 : Bl w w1 := by rw [hw1]; exact (Bl.refl _).alloc _
  have hI := Iv.new w c
  rw [← hw1, ← hN] at hI
  have HI : Hid (Iv w1 N c ∧ Wr w1 P mb l acc ∧ Bl w w1 ∧ P ≤ w.heap.size ∧ acc.length + t.size ≤ 30000) := ⟨hI, h.bl hb1, hb1, Nat.le_of_lt h.lt', by omega⟩
  have i4 : w1.cell? ⟨N, 4, none⟩ = some (.int .i64 (c.d.wd : Int)) := hI.cell 4
  have i5 : w1.cell? ⟨N, 5, none⟩ = some (.int .i64 (c.d.od : Int)) := hI.cell 5
  have i6 : w1.cell? ⟨N, 6, none⟩ = some (.bool c.d.sg) := hI.cell 6
  have hN1 := hI.lt
  clear hI hd h1 hf hw ho hW hO ht hts htp hl h hb1
  generalize c.d.wd = W at *
  generalize (c.d.od : Int) = O at *
  generalize hsg : c.d.sg = sg at *
  go_enter Tryz.func105, Tryz.ntmps105
  go_upto_region 1 with fail
  rw [← hw1, ← hN]
  clear hw1 hN hsg
  go_wp2_with (first | (go_at_call 137; refine (cF _).mono ?_; rintro e w2 ⟨rfl, rfl⟩) | (go_at_call 104; refine (must_at _).mono ?_; rintro e w3 ⟨rfl, rfl⟩) | (go_at_call 138; go_loud (refine (cP _).mono ?_); rintro e w4 ⟨rfl, hgb⟩))
  have hW3 := HI.out.2.1.bl hgb.bl
  refine (wstr_at w3 P mb l acc t hW3 HI.out.2.2.2.2).mono ?_
  rintro e w5 ⟨rfl, hr5, hf5⟩
  have HF : Hid (Wr w5 P mb l (acc ++ L t) ∧ Fr P w w5) := ⟨hr5, (Fr.bl (HI.out.2.2.1.trans hgb.bl) HI.out.2.2.2.1).trans hf5⟩
  clear hr5 hf5 hW3 hgb
  go_wp2
  exact bodyPost_end (results_none rfl _ _ _) rfl ⟨rfl, HF.out⟩
end Go.Proofs.YtococaecjecjgaaGreatDoor.ly
/- A writer: one node. -/
namespace Go.Proofs.YtococaecjecjgaaGreatDoor.ly
set_option linter.unusedVariables false
open Go.ChangeShapes Go.WideShapes Go.ChangeAt Go.RowKit
open mem lx ex tm num bld

/-- An item's items. -/
def SubL (w : World) (mb : Nat) (c : C) (sub : Its) : Prop := ∃ cs, ir.Lie w (fun g => g < mb) c.p c.n c.c cs ∧ Rep w (fun g => g < mb) sub cs
theorem SubL.keep {w w' : World} {mb : Nat} {c : C} {sub : Its} (h : SubL w mb c sub) (hk : ∀ g, g < mb → w'.heap[g]? = w.heap[g]?) (hs : w.heap.size ≤ w'.heap.size) (hx : Kx w w') : SubL w' mb c sub := by
  obtain ⟨cs, h1, h2⟩ := h
  exact ⟨cs, h1.keep (fun g hg _ => hk g hg) hs, h2.keep (fun g hg _ => hk g hg) hs hx⟩
/-- What writing leaves of expressions. -/
theorem Wr.kx {w w' : World} {P mb : Nat} {l : List Ty} {acc : List UInt8} (h : Wr w P mb l acc) (hf : Fr P w w') : Kx w w' := fun b cs hb => hf.k.same b _ hb (fun e => by subst e; obtain ⟨_, _, q, _⟩ := h.at_; rw [hb] at q; simp at q) (fun c fz e => by injection e with _ e2 _; exact absurd e2 (by decide))
theorem SubL.fr {w w' : World} {P mb : Nat} {l : List Ty} {acc : List UInt8} {c : C} {sub : Its} (h : SubL w mb c sub) (hw : Wr w P mb l acc) (hf : Fr P w w') : SubL w' mb c sub := h.keep (fun g hg => hf.b.block g (by have := hw.lt; omega)) hf.b.size (hw.kx hf)
theorem IsNs.fr {w w' : World} {P : Nat} {p : Option Addr} {n c : Nat} {ks : Nds} (h : IsNs w (fun g => g < P) p n c ks) (hf : Fr P w w') : IsNs w' (fun g => g < P) p n c ks := h.keep (fun g hg _ => hf.b.block g hg) hf.b.size
/-- How many nodes there are. -/
def Nds.sz : Nds → Nat
  | .nil => 0
  | .cons _ s t => s.sz + t.sz + 1
theorem Nds.len_sz (l : Nds) : l.len ≤ l.sz := by
  induction l with
  | nil => exact Nat.le_refl _
  | cons d s t _ it => unfold Nds.len Nds.sz; omega
/-- A block that is written. -/
def WBlk (l : List Ty) (f : Nat) : Prop :=
  ∀ (w : World) (P mb : Nat) (acc : List UInt8) (i : Its) (pI : Option Addr) (nI cI : Nat) (csI : List C) (ks : Nds) (p : Option Addr) (n c : Nat) (out : List UInt8), Wr w P mb l acc → OKI i → ir.Lie w (fun g => g < mb) pI nI cI csI → Rep w (fun g => g < mb) i csI → IsNs w (fun g => g < P) p n c ks → wrB l f i ks = .ok out → acc.length + out.length ≤ 30000 → ks.sz ≤ 400 →
    Calls Tryz.prog 106 #[.pointer (some ⟨P, 0, none⟩), .slice pI nI cI, .slice p n c] w (WrA w P mb l acc out)
/-- The boxes of one. -/
structure Bw (w w2 : World) (X Q P mb : Nat) (l : List Ty) (acc : List UInt8) (c : C) (sub : Its) (d : ND) (p : Option Addr) (n cc : Nat) (ks : Nds) : Prop where
  iv : Iv w2 X c
  nv : Nv w2 Q d p n cc
  wr : Wr w2 P mb l acc
  it : SubL w2 mb c sub
  ns : IsNs w2 (fun g => g < P) p n cc ks
  bl : Bl w w2
  lt : P < X ∧ X < Q ∧ P < w.heap.size
theorem Bw.on {w w2 w3 : World} {X Q P mb : Nat} {l : List Ty} {acc : List UInt8} {c : C} {sub : Its} {d : ND} {p : Option Addr} {n cc : Nat} {ks : Nds} (h : Bw w w2 X Q P mb l acc c sub d p n cc ks) (hb : Bl w2 w3) : Bw w w3 X Q P mb l acc c sub d p n cc ks :=
  ⟨h.iv.bl hb, h.nv.bl hb, h.wr.bl hb, h.it.fr h.wr (Fr.bl hb (Nat.le_of_lt h.wr.lt')), h.ns.fr (Fr.bl hb (Nat.le_of_lt h.wr.lt')), h.bl.trans hb, h.lt⟩
theorem Bw.new (w : World) (P mb : Nat) (l : List Ty) (acc : List UInt8) (c : C) (sub : Its) (d : ND) (p : Option Addr) (n cc : Nat) (ks : Nds) (h : Wr w P mb l acc) (hi : SubL w mb c sub) (hn : IsNs w (fun g => g < P) p n cc ks) :
    Bw w ((w.alloc (.cells #[.int .i64 (c.d.kd : Int), .int .i64 (c.d.at_ : Int), .string (tx c.d.nm), .string (tx c.d.ty), .int .i64 (c.d.wd : Int), .int .i64 (c.d.od : Int), .bool c.d.sg, .bool c.d.mn, .pointer c.pc, .int .i64 (c.d.ru : Int), .string (tx c.d.f1), .string (tx c.d.l1), .slice c.p c.n c.c] 60)).alloc (.cells #[.string (tx d.nm), .int .i64 (d.kd : Int), .int .i64 (d.at_ : Int), .int .i64 (d.sz : Int), .int .i64 d.n, .string (tx d.tx), .slice p n cc] 27))
      w.heap.size (w.heap.size + 1) P mb l acc c sub d p n cc ks := by
  have v1 := Iv.new w c
  generalize hw1 : w.alloc (.cells #[.int .i64 (c.d.kd : Int), .int .i64 (c.d.at_ : Int), .string (tx c.d.nm), .string (tx c.d.ty), .int .i64 (c.d.wd : Int), .int .i64 (c.d.od : Int), .bool c.d.sg, .bool c.d.mn, .pointer c.pc, .int .i64 (c.d.ru : Int), .string (tx c.d.f1), .string (tx c.d.l1), .slice c.p c.n c.c] 60) = w1 at *
  have e1 : w1.heap.size = w.heap.size + 1 := by rw [← hw1]; simp
  have b1 : Bl w w1 := by rw [← hw1]; exact (Bl.refl _).alloc _
  have b2 : Bl w1 (w1.alloc (.cells #[.string (tx d.nm), .int .i64 (d.kd : Int), .int .i64 (d.at_ : Int), .int .i64 (d.sz : Int), .int .i64 d.n, .string (tx d.tx), .slice p n cc] 27)) := (Bl.refl _).alloc _
  have hP := h.lt'
  refine ⟨v1.bl b2, ?_, h.bl (b1.trans b2), hi.fr h (Fr.bl (b1.trans b2) (Nat.le_of_lt hP)), hn.fr (Fr.bl (b1.trans b2) (Nat.le_of_lt hP)), b1.trans b2, hP, by omega, hP⟩
  rw [← e1]
  exact new_at _ _
set_option maxRecDepth 10000 in
set_option maxHeartbeats 4000000 in
theorem wone_at (l : List Ty) (f : Nat) (hB : WBlk l f) (hl : OKT l) (w : World) (P mb : Nat) (acc : List UInt8) (c : C) (sub : Its) (d : ND) (p : Option Addr) (n cc : Nat) (ks : Nds) (out : List UInt8) (h : Wr w P mb l acc) (hd : WK c.d) (hs : c.d.kd = 4 → OKI sub) (hi : SubL w mb c sub) (hn : IsNs w (fun g => g < P) p n cc ks) (ho : wOne l (wrB l f) c.d sub d ks = .ok out) (hlen : acc.length + out.length ≤ 30000) (hz : ks.sz ≤ 400) :
    Calls Tryz.prog 65 #[.pointer (some ⟨P, 0, none⟩), itV c, ndV d p n cc] w (WrA w P mb l acc out) := by
  obtain ⟨nm, kd, at_, sz, nn, t⟩ := d
  unfold wOne at ho
  dsimp only at ho
  by_cases hk : nm = c.d.nm ∧ kd = c.d.kd
  rotate_left
  · rw [if_neg hk] at ho; cases ho
  rw [if_pos hk] at ho
  obtain ⟨rfl, rfl⟩ := hk
  have hBw := Bw.new w P mb l acc c sub ⟨c.d.nm, c.d.kd, at_, sz, nn, t⟩ p n cc ks h hi hn
  rw [itV_eq]
  unfold ndV
  dsimp only at hBw ⊢
  obtain ⟨w2, hw2⟩ : ∃ w2, w2 = (w.alloc (.cells #[.int .i64 (c.d.kd : Int), .int .i64 (c.d.at_ : Int), .string (tx c.d.nm), .string (tx c.d.ty), .int .i64 (c.d.wd : Int), .int .i64 (c.d.od : Int), .bool c.d.sg, .bool c.d.mn, .pointer c.pc, .int .i64 (c.d.ru : Int), .string (tx c.d.f1), .string (tx c.d.l1), .slice c.p c.n c.c] 60)).alloc (.cells #[.string (tx c.d.nm), .int .i64 (c.d.kd : Int), .int .i64 (at_ : Int), .int .i64 (sz : Int), .int .i64 nn, .string (tx t), .slice p n cc] 27) := ⟨_, rfl⟩
  obtain ⟨X, hX⟩ : ∃ X, X = w.heap.size := ⟨_, rfl⟩
  rw [← hw2, ← hX] at hBw
  have HB : Hid (Bw w w2 X (X + 1) P mb l acc c sub ⟨c.d.nm, c.d.kd, at_, sz, nn, t⟩ p n cc ks) := hBw
  obtain ⟨x0, x1, x2, x3, x4, x5, x6, x7, x8, x9, x10, x11, x12⟩ := hBw.iv.facts
  obtain ⟨y0, y1, y2, y3, y4, y5, y6⟩ := hBw.nv.cells
  dsimp only at y0 y1 y2 y3 y4 y5 y6
  have hXs := hBw.iv.lt
  have hQs := hBw.nv.lt
  have hPs := hBw.wr.lt'
  have HM : Hid (WBlk l f ∧ OKT l) := ⟨hB, hl⟩
  have hk4 := hd.kd4
  clear h hi hn hBw hB hl
  rcases hk4 with h1 | h1 | h1 | h1
  · -- a number
    have hwd := hd.wd (by omega)
    rw [if_pos h1] at ho
    by_cases hf : fits nn c.d.wd c.d.sg = true
    rotate_left
    · rw [if_neg hf] at ho; cases ho
    rw [if_pos hf] at ho
    injection ho with ho
    subst ho
    have cN := wnum_at w2 P mb l acc c nn HB.out.wr hwd h1 hf (by rw [pb_len] at hlen; omega)
    rw [itV_eq] at cN
    have hk1 : ((c.d.kd : Int) == 1) = true := by rw [h1]; rfl
    clear hd hs hwd hf h1 hlen
    go_enter Tryz.func65, Tryz.ntmps65
    go_upto_region 1 with fail
    rw [← hX, ← hw2]
    clear hX hw2
    go_wp2_with (first | (go_at_call 104; refine (must_at _).mono ?_; rintro e w3 ⟨rfl, rfl⟩))
    refine cN.mono ?_
    rintro e w4 ⟨rfl, hr4, hf4⟩
    have HF : Hid (Wr w4 P mb l (acc ++ pb nn c.d.wd (c.d.od == 1)) ∧ Fr P w w4) := ⟨hr4, (Fr.bl HB.out.bl (Nat.le_of_lt HB.out.lt.2.2)).trans hf4⟩
    clear hr4 hf4 cN
    go_wp2
    exact bodyPost_end (results_none rfl _ _ _) rfl ⟨rfl, HF.out⟩
  · -- bytes
    rw [if_neg (by omega), if_pos h1] at ho
    injection ho with ho
    subst ho
    have cS := fun wx (hw : Wr wx P mb l acc) => wstr_at wx P mb l acc (tx t) hw (by rw [tx_size]; exact hlen)
    rw [L_tx] at cS
    have hk1 : ((c.d.kd : Int) == 1) = false := by rw [h1]; rfl
    have hk2 : ((c.d.kd : Int) == 2) = true := by rw [h1]; rfl
    have HD : Hid (Bw w w2.drew X (X + 1) P mb l acc c sub ⟨c.d.nm, c.d.kd, at_, sz, nn, t⟩ p n cc ks) := HB.out.on (Bl.refl _).drew
    clear hd hs h1 hlen
    go_enter Tryz.func65, Tryz.ntmps65
    go_upto_region 1 with fail
    rw [← hX, ← hw2]
    clear hX hw2
    go_upto_region 6 with (go_at_call 104; refine (must_at _).mono ?_; rintro e w3 ⟨rfl, rfl⟩)
    go_region_held3 (fun wS => wS.cell? ⟨X + 1, 5, none⟩ = some (.string (tx t))) (first | assumption | exact at_bl ((Bl.refl _).drew) (by assumption))
      (first
        | (go_at_call 93; (with_reducible refine (cS _ HD.out.wr).mono ?_); rintro e w6 ⟨rfl, hr6, hf6⟩
           have HF : Hid (Wr w6 P mb l (acc ++ t) ∧ Fr P w w6) := ⟨hr6, (Fr.bl HD.out.bl (Nat.le_of_lt HD.out.lt.2.2)).trans hf6⟩
           have y6 : w6.cell? ⟨X + 1, 5, none⟩ = some (.string (tx t)) := (hf6.nv HD.out.nv (by have := HD.out.lt; omega)).cells.2.2.2.2.2.1
           clear hr6 hf6))
    go_wp2
    exact bodyPost_end (results_none rfl _ _ _) rfl ⟨rfl, HF.out⟩
  · -- a struct
    rw [if_neg (by omega), if_neg (by omega), if_pos h1] at ho
    obtain ⟨i, hfi⟩ : ∃ i, fnd l c.d.ty = some i := by
      cases hf : fnd l c.d.ty with
      | none => rw [hf] at ho; cases ho
      | some i => exact ⟨i, rfl⟩
    rw [hfi] at ho
    dsimp only at ho
    have hoki := HM.out.2.fnd hfi
    have hty := hd.ty h1
    have cI := fun wx (hw : TyM wx mb l) => items_at wx mb l c.d.ty hw hty
    rw [hfi] at cI
    have hk1 : ((c.d.kd : Int) == 1) = false := by rw [h1]; rfl
    have hk2 : ((c.d.kd : Int) == 2) = false := by rw [h1]; rfl
    have hk3 : ((c.d.kd : Int) == 3) = true := by rw [h1]; rfl
    have p0 := HB.out.wr.cells.1
    have HD : Hid (Bw w w2.drew X (X + 1) P mb l acc c sub ⟨c.d.nm, c.d.kd, at_, sz, nn, t⟩ p n cc ks ∧ OKI i ∧ wrB l f i ks = .ok out ∧ acc.length + out.length ≤ 30000 ∧ ks.sz ≤ 400) := ⟨HB.out.on (Bl.refl _).drew, hoki, ho, hlen, hz⟩
    clear hd hs h1 hlen ho hoki hty hfi
    go_enter Tryz.func65, Tryz.ntmps65
    go_upto_region 1 with fail
    rw [← hX, ← hw2]
    clear hX hw2
    go_upto_region 8 with (go_at_call 104; refine (must_at _).mono ?_; rintro e w3 ⟨rfl, rfl⟩)
    go_region_held3 (fun wS => wS.cell? ⟨P, 0, none⟩ = some (.map (some mb)) ∧ wS.cell? ⟨X, 3, none⟩ = some (.string (tx c.d.ty)) ∧ wS.cell? ⟨X + 1, 6, none⟩ = some (.slice p n cc)) (refine ⟨?_, ?_, ?_⟩ <;> first | assumption | exact at_bl ((Bl.refl _).drew) (by assumption))
      (first
        | (go_at_call 64; (with_reducible refine (cI _ HD.out.1.wr.mp).mono ?_); rintro e w6 ⟨hb6, pI, nI, cI', csI, rfl, hli, hre⟩
           have H6 : Hid (Bw w w6 X (X + 1) P mb l acc c sub ⟨c.d.nm, c.d.kd, at_, sz, nn, t⟩ p n cc ks ∧ ir.Lie w6 (fun g => g < mb) pI nI cI' csI ∧ Rep w6 (fun g => g < mb) i csI) := ⟨HD.out.1.on hb6, hli, hre⟩
           have q1 : w6.cell? ⟨P, 0, none⟩ = some (.map (some mb)) := H6.out.1.wr.cells.1
           have q2 : w6.cell? ⟨X, 3, none⟩ = some (.string (tx c.d.ty)) := H6.out.1.iv.facts.2.2.2.1
           have q3 : w6.cell? ⟨X + 1, 6, none⟩ = some (.slice p n cc) := H6.out.1.nv.cells.2.2.2.2.2.2
           clear hb6 hli hre)
        | (go_at_call 106; refine (HM.out.1 _ P mb acc i _ _ _ _ ks _ _ _ out H6.out.1.wr HD.out.2.1 H6.out.2.1 H6.out.2.2 H6.out.1.ns HD.out.2.2.1 HD.out.2.2.2.1 HD.out.2.2.2.2).mono ?_; rintro e w7 ⟨rfl, hr7, hf7⟩
           have HF : Hid (Wr w7 P mb l (acc ++ out) ∧ Fr P w w7) := ⟨hr7, (Fr.bl H6.out.1.bl (Nat.le_of_lt H6.out.1.lt.2.2)).trans hf7⟩
           have r1 : w7.cell? ⟨P, 0, none⟩ = some (.map (some mb)) := hr7.cells.1
           have r2 : w7.cell? ⟨X, 3, none⟩ = some (.string (tx c.d.ty)) := (hf7.iv H6.out.1.iv (by have := H6.out.1.lt; omega)).facts.2.2.2.1
           have r3 : w7.cell? ⟨X + 1, 6, none⟩ = some (.slice p n cc) := (hf7.nv H6.out.1.nv (by have := H6.out.1.lt; omega)).cells.2.2.2.2.2.2
           clear hr7 hf7))
    go_wp2
    exact bodyPost_end (results_none rfl _ _ _) rfl ⟨rfl, HF.out⟩
  · -- a when
    rw [if_neg (by omega), if_neg (by omega), if_neg (by omega)] at ho
    have hk1 : ((c.d.kd : Int) == 1) = false := by rw [h1]; rfl
    have hk2 : ((c.d.kd : Int) == 2) = false := by rw [h1]; rfl
    have hk3 : ((c.d.kd : Int) == 3) = false := by rw [h1]; rfl
    have hk4 : ((c.d.kd : Int) == 4) = true := by rw [h1]; rfl
    have hoks := hs h1
    obtain ⟨csI, hli, hre⟩ := HB.out.it
    by_cases h0 : nn = 0
    · rw [if_pos h0] at ho
      have cB := HM.out.1 w2 P mb acc .nil none 0 0 [] ks p n cc out HB.out.wr OKI.nil ⟨rfl, Nat.le_refl _, Or.inl rfl⟩ rfl HB.out.ns ho hlen hz
      have hn0 : (nn == 0) = true := by rw [h0]; rfl
      clear hd hs h1 hlen ho hoks h0 hli hre
      go_enter Tryz.func65, Tryz.ntmps65
      go_upto_region 1 with fail
      rw [← hX, ← hw2]
      clear hX hw2
      go_wp2_with (first | (go_at_call 104; refine (must_at _).mono ?_; rintro e w3 ⟨rfl, rfl⟩))
      refine cB.mono ?_
      rintro e w4 ⟨rfl, hr4, hf4⟩
      have HF : Hid (Wr w4 P mb l (acc ++ out) ∧ Fr P w w4) := ⟨hr4, (Fr.bl HB.out.bl (Nat.le_of_lt HB.out.lt.2.2)).trans hf4⟩
      clear hr4 hf4 cB
      go_wp2
      exact bodyPost_end (results_none rfl _ _ _) rfl ⟨rfl, HF.out⟩
    · rw [if_neg h0] at ho
      have cB := HM.out.1 w2 P mb acc sub c.p c.n c.c csI ks p n cc out HB.out.wr hoks hli hre HB.out.ns ho hlen hz
      have hn0 : (nn == 0) = false := by simpa using h0
      clear hd hs h1 hlen ho hoks h0 hli hre
      go_enter Tryz.func65, Tryz.ntmps65
      go_upto_region 1 with fail
      rw [← hX, ← hw2]
      clear hX hw2
      go_wp2_with (first | (go_at_call 104; refine (must_at _).mono ?_; rintro e w3 ⟨rfl, rfl⟩))
      refine cB.mono ?_
      rintro e w4 ⟨rfl, hr4, hf4⟩
      have HF : Hid (Wr w4 P mb l (acc ++ out) ∧ Fr P w w4) := ⟨hr4, (Fr.bl HB.out.bl (Nat.le_of_lt HB.out.lt.2.2)).trans hf4⟩
      clear hr4 hf4 cB
      go_wp2
      exact bodyPost_end (results_none rfl _ _ _) rfl ⟨rfl, HF.out⟩
end Go.Proofs.YtococaecjecjgaaGreatDoor.ly
/- A writer: a part. -/
namespace Go.Proofs.YtococaecjecjgaaGreatDoor.ly
set_option linter.unusedVariables false
open Go.ChangeShapes Go.WideShapes Go.ChangeAt Go.RowKit
open mem lx ex tm num bld

/-- Nodes' writing, under way. -/
structure Rw (w wr : World) (X P mb : Nat) (l : List Ty) (acc out : List UInt8) (f : Nat) (c : C) (sub : Its) (p : Option Addr) (n cc : Nat) (cs : List CN) (j : Nat) (rest : Nds) (rem : List UInt8) : Prop where
  ws : Wr wr P mb l (acc ++ out)
  fr : Fr P w wr
  iv : Iv wr X c
  it : SubL wr mb c sub
  li : nr.Lie wr (fun g => g < P) p n cc cs
  re : RepN wr (fun g => g < P) rest (cs.drop j)
  ok : wReps l (wrB l f) c.d sub rest = .ok rem
  sz : rest.sz ≤ 400
  ln : acc.length + out.length + rem.length ≤ 30000
  lt : P < X ∧ P < w.heap.size
theorem Rw.go {w wr w' : World} {X P mb : Nat} {l : List Ty} {acc out out' : List UInt8} {f : Nat} {c : C} {sub : Its} {p : Option Addr} {n cc : Nat} {cs : List CN} {j j' : Nat} {rest rest' : Nds} {rem rem' : List UInt8} (h : Rw w wr X P mb l acc out f c sub p n cc cs j rest rem)
    (hf : Fr P wr w') (hw : Wr w' P mb l (acc ++ out')) (hr : RepN wr (fun g => g < P) rest' (cs.drop j')) (ho : wReps l (wrB l f) c.d sub rest' = .ok rem') (hz : rest'.sz ≤ 400) (hl : acc.length + out'.length + rem'.length ≤ 30000) : Rw w w' X P mb l acc out' f c sub p n cc cs j' rest' rem' :=
  ⟨hw, h.fr.trans hf, hf.iv h.iv (by have := h.lt; omega), h.it.fr h.ws hf, h.li.keep (fun g hg _ => hf.b.block g hg) hf.b.size, hr.keep (fun g hg _ => hf.b.block g hg) hf.b.size, ho, hz, hl, h.lt⟩
theorem wReps_cons {l : List Ty} {rec : Its → Nds → Except Int (List UInt8)} {d : D} {sub : Its} {nd : ND} {k t : Nds} {out : List UInt8} (h : wReps l rec d sub (.cons nd k t) = .ok out) : ∃ a b, wOne l rec d sub nd k = .ok a ∧ wReps l rec d sub t = .ok b ∧ out = a ++ b := by
  rw [wReps] at h
  split at h
  · cases h
  · rename_i a ha
    split at h
    · cases h
    · rename_i b hb
      injection h with h
      exact ⟨a, b, ha, hb, h.symm⟩
set_option maxRecDepth 10000 in
set_option maxHeartbeats 4000000 in
theorem wpart_at (l : List Ty) (f : Nat) (hB : WBlk l f) (hl : OKT l) (w : World) (P mb : Nat) (acc : List UInt8) (c : C) (sub : Its) (d : ND) (p : Option Addr) (n cc : Nat) (ks : Nds) (out : List UInt8) (h : Wr w P mb l acc) (hd : WD c.d) (hs : c.d.kd = 4 → OKI sub) (hi : SubL w mb c sub) (hn : IsNs w (fun g => g < P) p n cc ks) (ho : wPart l (wrB l f) c.d sub d ks = .ok out) (hlen : acc.length + out.length ≤ 30000) (hz : ks.sz ≤ 400) :
    Calls Tryz.prog 139 #[.pointer (some ⟨P, 0, none⟩), itV c, ndV d p n cc] w (WrA w P mb l acc out) := by
  have hBw := Bw.new w P mb l acc c sub d p n cc ks h hi hn
  rw [itV_eq]
  unfold ndV
  obtain ⟨w2, hw2⟩ : ∃ w2, w2 = (w.alloc (.cells #[.int .i64 (c.d.kd : Int), .int .i64 (c.d.at_ : Int), .string (tx c.d.nm), .string (tx c.d.ty), .int .i64 (c.d.wd : Int), .int .i64 (c.d.od : Int), .bool c.d.sg, .bool c.d.mn, .pointer c.pc, .int .i64 (c.d.ru : Int), .string (tx c.d.f1), .string (tx c.d.l1), .slice c.p c.n c.c] 60)).alloc (.cells #[.string (tx d.nm), .int .i64 (d.kd : Int), .int .i64 (d.at_ : Int), .int .i64 (d.sz : Int), .int .i64 d.n, .string (tx d.tx), .slice p n cc] 27) := ⟨_, rfl⟩
  obtain ⟨X, hX⟩ : ∃ X, X = w.heap.size := ⟨_, rfl⟩
  rw [← hw2, ← hX] at hBw
  have HB : Hid (Bw w w2 X (X + 1) P mb l acc c sub d p n cc ks) := hBw
  obtain ⟨x0, x1, x2, x3, x4, x5, x6, x7, x8, x9, x10, x11, x12⟩ := hBw.iv.facts
  obtain ⟨y0, y1, y2, y3, y4, y5, y6⟩ := hBw.nv.cells
  have hXs := hBw.iv.lt
  have hQs := hBw.nv.lt
  have HM : Hid (WBlk l f ∧ OKT l ∧ WD c.d ∧ (c.d.kd = 4 → OKI sub)) := ⟨hB, hl, hd, hs⟩
  clear h hi hn hBw hB hl
  unfold wPart at ho
  by_cases hm : c.d.mn = true
  rotate_left
  · rw [if_neg hm] at ho
    have cO := wone_at l f HM.out.1 HM.out.2.1 w2 P mb acc c sub d p n cc ks out HB.out.wr (Or.inl hd) hs HB.out.it HB.out.ns ho hlen hz
    rw [itV_eq] at cO
    unfold ndV at cO
    have hmf : c.d.mn = false := by simpa using hm
    have HMN : Hid (c.d.mn = false) := hmf
    clear hmf
    clear hd hs hm ho hlen hz
    go_enter Tryz.func139, Tryz.ntmps139
    go_upto_region 1 with fail
    rw [← hX, ← hw2]
    clear hX hw2
    rw [HMN.out] at x7 cO
    go_wp2_with fail
    refine cO.mono ?_
    rintro e w4 ⟨rfl, hr4, hf4⟩
    have HF : Hid (Wr w4 P mb l (acc ++ out) ∧ Fr P w w4) := ⟨hr4, (Fr.bl HB.out.bl (Nat.le_of_lt HB.out.lt.2.2)).trans hf4⟩
    clear hr4 hf4 cO
    go_wp2
    exact bodyPost_end (results_none rfl _ _ _) rfl ⟨rfl, HF.out⟩
  · rw [if_pos hm] at ho
    by_cases hk : d.nm = c.d.nm ∧ d.kd = 9
    rotate_left
    · rw [if_neg hk] at ho; cases ho
    rw [if_pos hk] at ho
    obtain ⟨hk1, hk2⟩ := hk
    rw [hk1] at y0
    rw [show ((d.kd : Nat) : Int) = 9 by rw [hk2]; rfl] at y1
    obtain ⟨cs, hli, hre⟩ := HB.out.ns
    have hnl : n = ks.len := (IsNs.len ⟨cs, hli, hre⟩).1
    have hn4 : n ≤ 400 := by have := ks.len_sz; omega
    have H0 : Hid (Rw w w2 X P mb l acc [] f c sub p n cc cs 0 ks out) := ⟨by rw [List.append_nil]; exact HB.out.wr, Fr.bl HB.out.bl (Nat.le_of_lt HB.out.lt.2.2), HB.out.iv, HB.out.it, hli, by rw [List.drop_zero]; exact hre, ho, hz, by simpa using hlen, HB.out.lt.1, HB.out.lt.2.2⟩
    have HN : Hid (n = cs.length) := hli.1
    have HMN : Hid (c.d.mn = true) := hm
    clear hd hs ho hlen hz hli hre hnl hk1 hk2 hm
    go_enter Tryz.func139, Tryz.ntmps139
    go_upto_region 1 with fail
    rw [← hX, ← hw2]
    clear hX hw2
    rw [HMN.out] at x7
    go_wp2_with (first | (go_at_call 104; refine (must_at _).mono ?_; rintro e w3 ⟨rfl, rfl⟩))
    go_loopw [29] (fun v29 wr => ∃ (j : Nat) (rest : Nds) (o1 rem : List UInt8), v29 = .int .i64 (j : Int) ∧ j ≤ n ∧ Hid (Rw w wr X P mb l acc o1 f c sub p n cc cs j rest rem ∧ o1 ++ rem = out)) (fun v29 _ => n - (intOf v29).toNat)
    case atStart => exact ⟨0, ks, [], out, rfl, Nat.zero_le _, H0.out, rfl⟩
    case round =>
      obtain ⟨j, rest, o1, rem, rfl, hj, HR⟩ := hrel
      clear x0 x1 x2 x3 x4 x5 x6 x7 x8 x9 x10 x11 x12 y0 y1 y2 y3 y4 y5 y6 hXs hQs
      by_cases hlt : j < n
      · have h1 := HR.out.1.re
        obtain ⟨c1, hc1⟩ : ∃ c1, cs[j]? = some c1 := by
          have : j < cs.length := by have := HN.out; omega
          exact ⟨_, List.getElem?_eq_getElem this⟩
        have hdr : cs.drop j = c1 :: cs.drop (j + 1) := by
          obtain ⟨hjl, e⟩ := List.getElem?_eq_some_iff.1 hc1
          rw [List.drop_eq_getElem_cons hjl, e]
        rw [hdr] at h1
        cases rest with
        | nil => cases h1
        | cons nd k t =>
          obtain ⟨c1', r, e, hcd, hks, hrr⟩ := h1
          injection e with e1 e2
          subst e1 e2
          subst hcd
          obtain ⟨a, b, ha, hb, hab⟩ := wReps_cons HR.out.1.ok
          obtain ⟨hnn, hnc, hlc⟩ := HR.out.1.li
          obtain ⟨g, rfl, hgm, hgs, hcell⟩ : ∃ g, p = some ⟨g, 0, none⟩ ∧ g < P ∧ g < wr.heap.size ∧ ∀ j u, (nr.rowE cs)[j]? = some u → wr.cell? ⟨g, j, none⟩ = some u := by
            rcases hlc with hlc | hlc
            · rw [hlc] at hc1; cases hc1
            · exact hlc
          have hcj : ∀ i u, (cl c1)[i]? = some u → wr.cell? ⟨g, j * 7 + i, none⟩ = some u := fun i u hu => by
            have hi : i < 7 := by
              have := (List.getElem?_eq_some_iff.1 hu).1
              rw [nr.cl_len] at this
              exact this
            obtain ⟨hjl, e⟩ := List.getElem?_eq_some_iff.1 hc1
            exact hcell _ _ (by rw [nr.rowE_get cs j hjl i hi, e]; exact hu)
          have f0 : wr.cell? ⟨g, j * 7, none⟩ = some (.string (tx c1.d.nm)) := hcj 0 _ rfl
          have f1 : wr.cell? ⟨g, j * 7 + 1, none⟩ = some (.int .i64 (c1.d.kd : Int)) := hcj 1 _ rfl
          have f2 : wr.cell? ⟨g, j * 7 + 2, none⟩ = some (.int .i64 (c1.d.at_ : Int)) := hcj 2 _ rfl
          have f3 : wr.cell? ⟨g, j * 7 + 3, none⟩ = some (.int .i64 (c1.d.sz : Int)) := hcj 3 _ rfl
          have f4 : wr.cell? ⟨g, j * 7 + 4, none⟩ = some (.int .i64 c1.d.n) := hcj 4 _ rfl
          have f5 : wr.cell? ⟨g, j * 7 + 5, none⟩ = some (.string (tx c1.d.tx)) := hcj 5 _ rfl
          have f6 : wr.cell? ⟨g, j * 7 + 6, none⟩ = some (.slice c1.p c1.n c1.c) := hcj 6 _ rfl
          obtain ⟨w5, hw5⟩ : ∃ w5, w5 = wr.alloc (.cells #[.string (tx c1.d.nm), .int .i64 (c1.d.kd : Int), .int .i64 (c1.d.at_ : Int), .int .i64 (c1.d.sz : Int), .int .i64 c1.d.n, .string (tx c1.d.tx), .slice c1.p c1.n c1.c] 27) := ⟨_, rfl⟩
          obtain ⟨Nb, hNb⟩ : ∃ Nb, Nb = wr.heap.size := ⟨_, rfl⟩
          have hb5 : Bl wr w5 := by rw [hw5]; exact (Bl.refl _).alloc _
          have hfb : Fr P wr w5 := Fr.bl hb5 (Nat.le_of_lt HR.out.1.ws.lt')
          have hzz : k.sz ≤ 400 ∧ t.sz ≤ 400 := by have := HR.out.1.sz; unfold Nds.sz at this; omega
          have hll : acc.length + o1.length + (a.length + b.length) ≤ 30000 := by have := HR.out.1.ln; rw [hab, List.length_append] at this; exact this
          have hks' : IsNs w5 (fun g => g < P) c1.p c1.n c1.c k := IsNs.fr hks hfb
          have cO := wone_at l f HM.out.1 HM.out.2.1 w5 P mb (acc ++ o1) c sub c1.d c1.p c1.n c1.c k a (HR.out.1.ws.bl hb5) (Or.inl HM.out.2.2.1) HM.out.2.2.2 (HR.out.1.it.fr HR.out.1.ws hfb) hks' ha (by rw [List.length_append]; omega) hzz.1
          rw [itV_eq, HMN.out] at cO
          unfold ndV at cO
          have H5 : Hid (Fr P wr w5 ∧ RepN wr (fun g => g < P) t (cs.drop (j + 1)) ∧ wReps l (wrB l f) c.d sub t = .ok b ∧ t.sz ≤ 400 ∧ acc.length + o1.length + (a.length + b.length) ≤ 30000 ∧ rem = a ++ b) := ⟨hfb, hrr, hb, hzz.2, hll, hab⟩
          obtain ⟨x0, x1, x2, x3, x4, x5, x6, x7, x8, x9, x10, x11, x12⟩ := HR.out.1.iv.facts
          rw [HMN.out] at x7
          have hXs := HR.out.1.iv.lt
          have hj1 : (0 : Int) ≤ (j : Int) := by omega
          have hj2 : (j : Int) < (n : Int) := by omega
          have hju : decide ((j : Int) < (n : Int)) = true := decide_eq_true hj2
          clear hnn hc1 hdr hks hrr ha hb hab hnc hlc hcell hcj hgm hb5 hfb hzz hll hks'
          go_wp2_with fail
          rw [← hw5]
          clear hw5 f0 f1 f2 f3 f4 f5 f6
          refine cO.mono ?_
          rintro e w6 ⟨rfl, hr6, hf6⟩
          have H6 : Hid (Rw w w6 X P mb l acc (o1 ++ a) f c sub (some ⟨g, 0, none⟩) n cc cs (j + 1) t b ∧ (o1 ++ a) ++ b = out) := ⟨HR.out.1.go (H5.out.1.trans hf6) (by rw [← List.append_assoc]; exact hr6) H5.out.2.1 H5.out.2.2.1 H5.out.2.2.2.1 (by rw [List.length_append]; have := H5.out.2.2.2.2.1; omega), by rw [List.append_assoc, ← H5.out.2.2.2.2.2]; exact HR.out.2⟩
          clear cO hr6 hf6
          go_wp2
          go_roundw
          case rel => exact ⟨j + 1, t, o1 ++ a, b, by go_num, by omega, H6.out⟩
          case measure => simp [intOf]; omega
      · obtain rfl : j = n := by omega
        have hend : rest = .nil ∧ rem = [] := by
          have h1 := HR.out.1.re
          have h2 := HR.out.1.ok
          rw [List.drop_eq_nil_of_le (by have := HN.out; omega)] at h1
          cases rest with
          | nil => rw [wReps] at h2; injection h2 with h2; exact ⟨rfl, h2.symm⟩
          | cons nd k t => obtain ⟨_, _, e, _⟩ := h1; cases e
        have HF : Hid (Wr wr P mb l (acc ++ out) ∧ Fr P w wr) := ⟨by have e := HR.out.2; rw [hend.2, List.append_nil] at e; rw [← e]; exact HR.out.1.ws, HR.out.1.fr⟩
        clear hend
        go_wp2
        exact bodyPost_end (results_none rfl _ _ _) rfl ⟨rfl, HF.out⟩
end Go.Proofs.YtococaecjecjgaaGreatDoor.ly
