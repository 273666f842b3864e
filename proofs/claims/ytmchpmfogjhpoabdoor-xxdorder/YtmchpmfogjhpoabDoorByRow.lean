/- A row of bytes that grows: bytes and texts put behind it, its text, its cells; a variable of one cell that holds it. -/
import Derived.Test.YtmchpmfogjhpoabDoorFdV
import Derived.Lib.AppendStr
import Derived.Deep.RegionHeld3
namespace Go.Proofs.YtmchpmfogjhpoabDoor.rows
set_option linter.unusedVariables false
open Go.ChangeShapes Go.WideShapes Go.ChangeAt Go.RowKit
open mem

/-- A text's bytes, as numbers. -/
def bs (t : ByteArray) : List Int := t.data.toList.map fun b => (b.toNat : Int)
theorem bs_len (t : ByteArray) : (bs t).length = t.size := by
  show _ = t.data.toList.length
  simp [bs]
theorem bs_get (t : ByteArray) (i : Nat) : (bs t).getD i 0 = sb t i := by
  unfold bs sb
  simp only [List.getD_eq_getElem?_getD, List.getElem?_map]
  cases t.data.toList[i]? <;> rfl
theorem bs_bd {t : ByteArray} {z : Int} (h : z ∈ bs t) : 0 ≤ z ∧ z < 256 := by
  obtain ⟨b, _, rfl⟩ := List.mem_map.1 h
  have := b.toNat_lt
  omega
theorem str_bs (t : ByteArray) : strOfNums (bs t) = t := by
  apply ByteArray.ext
  apply Array.ext'
  rw [strOfNums_data]
  unfold bs
  rw [List.map_map]
  conv => rhs; rw [← List.map_id t.data.toList]
  apply List.map_congr_left
  intro b _
  simp
theorem bs_str {l : List Int} (h : ∀ z ∈ l, 0 ≤ z ∧ z < 256) : bs (strOfNums l) = l := by
  unfold bs
  rw [strOfNums_data, List.map_map]
  conv => rhs; rw [← List.map_id l]
  apply List.map_congr_left
  intro z hz
  have := h z hz
  obtain ⟨n, rfl⟩ := Int.eq_ofNat_of_zero_le this.1
  have hn : n < 256 := by omega
  simp [Nat.mod_eq_of_lt hn]
theorem bs_inj {a b : ByteArray} (h : bs a = bs b) : a = b := by rw [← str_bs a, ← str_bs b, h]
theorem bs_extract (s : ByteArray) (a b : Nat) (h1 : a ≤ b) (h2 : b ≤ s.size) : bs (s.extract a b) = (List.range (b - a)).map fun i => sb s (a + i) := by
  have hl : (bs (s.extract a b)).length = b - a := by rw [bs_len, ByteArray.size_extract]; omega
  apply List.ext_getElem
  · rw [hl]; simp
  · intro i h3 h4
    have hi : i < (s.extract a b).size := by rw [← bs_len]; exact h3
    have e1 : (bs (s.extract a b)).getD i 0 = sb s (a + i) := by
      rw [bs_get, sb_get _ _ hi, ByteArray.getElem_extract, sb_get s (a + i) (by rw [ByteArray.size_extract] at hi; omega)]
    rw [List.getD_eq_getElem?_getD, List.getElem?_eq_getElem h3] at e1
    simp only [List.getElem_map, List.getElem_range]
    exact e1
theorem bs_all (s : ByteArray) : bs s = (List.range s.size).map (sb s) := by
  apply List.ext_getElem
  · rw [bs_len]; simp
  · intro i h3 h4
    have e1 := bs_get s i
    rw [List.getD_eq_getElem?_getD, List.getElem?_eq_getElem h3] at e1
    simp only [List.getElem_map, List.getElem_range]
    exact e1
/-- A row of the call's own that holds just these bytes. -/
def BOwn (w : World) (base : Nat) (v : Value) (l : List Int) : Prop := w.ownsRow base 5 1 v l.length (l.map (Value.int .u8))
theorem BOwn.nil (w : World) (base : Nat) : BOwn w base (.slice none 0 0) [] := World.ownsRow_nil _ _ _ _
theorem BOwn.block {w : World} {base : Nat} {v : Value} {l : List Int} (h : BOwn w base v l) : ∀ k, v.ownBlock = some k → base ≤ k ∧ k < w.heap.size := World.ownsRow.lt h
theorem BOwn.slice {w : World} {base : Nat} {v : Value} {l : List Int} (h : BOwn w base v l) : ∃ p c, v = .slice p l.length c := by
  rcases h.2 with ⟨h1, h2⟩ | ⟨g, cap, cur, h1, _⟩
  · exact ⟨_, _, by rw [h1, h2]⟩
  · exact ⟨_, _, h1⟩
theorem BOwn.step {w w' : World} {base : Nat} {v : Value} {l : List Int} (h : BOwn w base v l) (hb : Bl w w') : BOwn w' base v l := by
  refine ⟨h.1, ?_⟩
  rcases h.2 with h | ⟨g, cap, cur, h1, h2, h3, h4⟩
  · exact Or.inl h
  · refine Or.inr ⟨g, cap, cur, h1, h2, ?_, h4⟩
    have hg : g < w.heap.size := by
      rcases Nat.lt_or_ge g w.heap.size with h | h
      · exact h
      · rw [Array.getElem?_eq_none h] at h3; cases h3
    rw [Below.block hb g hg]
    exact h3
theorem BOwn.set_other {w : World} {base : Nat} {v : Value} {l : List Int} (h : BOwn w base v l) {a : Addr} (ha : v.ownBlock ≠ some a.block) (x : Value) : BOwn (w.setCell a x) base v l := by
  refine ⟨h.1, ?_⟩
  rcases h.2 with h | ⟨g, cap, cur, h1, h2, h3, h4⟩
  · exact Or.inl h
  · refine Or.inr ⟨g, cap, cur, h1, h2, ?_, h4⟩
    have hne : ¬ a.block = g := fun e => ha (by rw [h1, e]; rfl)
    simp [World.setCell, Array.getElem?_modify, hne, h3]
/-- Its block bears bytes. -/
theorem BOwn.typed {w : World} {base : Nat} {v : Value} {l : List Int} (h : BOwn w base v l) {k : Nat} (hk : v.ownBlock = some k) : ∃ c, w.heap[k]? = some (.cells c 5 (0, 0)) := by
  rcases h.2 with ⟨h1, _⟩ | ⟨g, cap, cur, h1, h2, h3, h4⟩
  · rw [h1] at hk; cases hk
  · rw [h1] at hk
    have e : g = k := by simpa [Value.ownBlock] using hk
    rw [← e]
    exact ⟨cur, h3⟩
theorem BOwn.cells {w : World} {base : Nat} {v : Value} {l : List Int} (h : BOwn w base v l) {j : Nat} (hj : j < l.length) : ∃ g c, v = .slice (some ⟨g, 0, none⟩) l.length c ∧ w.cell? ⟨g, j, none⟩ = some (.int .u8 (l.getD j 0)) ∧ w.frozen? ⟨g, j, none⟩ = false := by
  rcases h.2 with ⟨_, h0⟩ | ⟨g, cap, cur, h1, _, h3, _, _, hcs, htake⟩
  · omega
  · refine ⟨g, cap, h1, ?_, ?_⟩
    · have : (l.map (Value.int .u8))[j]? = some (.int .u8 (l.getD j 0)) := by simp [hj]
      rw [← htake, Nat.mul_one, List.getElem?_take, if_pos hj] at this
      simp only [World.cell?, h3]
      simpa using this
    · simp [World.frozen?, h3]
/-- Its text. -/
theorem BOwn.text {w : World} {base : Nat} {v : Value} {l : List Int} (h : BOwn w base v l) : (convert 38 9 v).run Tryd.prog w = .ok (.string (strOfNums l)) w := by
  rcases h.2 with ⟨rfl, h0⟩ | ⟨g, cap, cur, rfl, _, h3, _, _, hcs, htake⟩
  · have : l = [] := List.eq_nil_of_length_eq_zero h0
    subst this
    show (convert 38 9 (.slice none 0 0)).run Tryd.prog w = .ok (.string (strOfNums [])) w
    kernel_rfl
  · refine run_convert_bytes_arg w 38 5 Tryd.underlying38 Tryd.underlying5 g 0 l.length cap l rfl (fun i hi => ?_) 9 Tryd.underlying9
    have : (l.map (Value.int .u8))[i]? = some (.int .u8 (l.getD i 0)) := by simp [hi]
    rw [← htake, Nat.mul_one, List.getElem?_take, if_pos hi] at this
    simp only [World.cell?, h3, Nat.zero_add]
    simpa using this
theorem info8 : (Tryd.prog.info? 5).map (fun i => (i.zero, i.size, i.bytes)) = some (some (.int .u8 0), 1, 1) := by kernel_rfl
theorem info8' : ∃ i, Tryd.prog.info? 5 = some i ∧ i.zero = some (.int .u8 0) ∧ i.size = 1 ∧ i.bytes = 1 := by
  obtain ⟨i, h1, h2⟩ := Option.map_eq_some_iff.1 info8
  simp only [Prod.mk.injEq] at h2
  exact ⟨i, h1, h2.1, h2.2.1, h2.2.2⟩
theorem app_bytes (w : World) (base : Nat) (v : Value) (l t : List Int) (X n c : Nat) (hown : BOwn w base v l) (hn : n = t.length) (hX : ∀ j, j < t.length → w.cell? ⟨X, j, none⟩ = some (.int .u8 (t.getD j 0))) (hl : l.length + t.length ≤ 30000) (hb : base ≤ w.heap.size) :
    ∃ v' w', (Builtin.append_ #[38, 38] 38 #[v, .slice (some ⟨X, 0, none⟩) n c]).run Tryd.prog w = .ok v' w' ∧ BOwn w' base v' (l ++ t) ∧ w.grownBy w' v.ownBlock := by
  obtain ⟨i0, hi, hz0, hz1, hz2⟩ := info8'
  subst hn
  obtain ⟨v', w', hr, ho, hg, _⟩ := run_append_own (P := Tryd.prog) w base 38 38 5 i0 (.int .u8 0) 1 1 Tryd.underlying38 hi hz0 hz1 hz2 rfl (by decide) v l.length (l.map (Value.int .u8)) hown
    ⟨X, 0, none⟩ t.length c (t.map (Value.int .u8)) (by simp) (fun j u hu => by
      have hj : j < t.length := by have := (List.getElem?_eq_some_iff.1 hu).1; simpa using this
      rw [Addr.add_lit, Nat.zero_add, hX j hj]
      simp [hj] at hu
      rw [← hu]
      simp [hj]) (fun u hu => by obtain ⟨y, _, rfl⟩ := List.mem_map.1 hu; rfl) (by unfold maxLen; omega) (by omega) hb
  refine ⟨v', w', hr, ?_, hg⟩
  unfold BOwn
  rw [List.map_append, List.length_append]
  exact ho
/-- Bytes that were just laid, put behind. -/
theorem app_lit (w : World) (base : Nat) (v : Value) (l t : List Int) (hown : BOwn w base v l) (hl : l.length + t.length ≤ 30000) (hb : base ≤ w.heap.size) :
    ∃ v' w', (Builtin.append_ #[38, 38] 38 #[v, .slice (some ⟨w.heap.size, 0, none⟩) t.length t.length]).run Tryd.prog (w.alloc (.cells (t.map (Value.int .u8)).toArray 5)) = .ok v' w' ∧ BOwn w' base v' (l ++ t) ∧ (w.alloc (.cells (t.map (Value.int .u8)).toArray 5)).grownBy w' v.ownBlock :=
  app_bytes (w.alloc (.cells (t.map (Value.int .u8)).toArray 5)) base v l t w.heap.size t.length t.length (hown.step ((Bl.refl _).alloc _)) rfl (fun j hj => by
    have e : (w.alloc (.cells (t.map (Value.int .u8)).toArray 5)).heap[w.heap.size]? = some (.cells (t.map (Value.int .u8)).toArray 5) := by
      show (w.heap.push _)[w.heap.size]? = _
      rw [Array.getElem?_push, if_pos rfl]
    unfold World.cell?
    rw [e]
    simp [hj]) hl (by simp; omega)
theorem strCells_bs (t : ByteArray) : Lib.strCells t = (bs t).map (Value.int .u8) := by
  unfold Lib.strCells bs
  rw [List.map_map]
  rfl
/-- A text's bytes, put behind. -/
theorem app_str (w : World) (base : Nat) (v : Value) (l : List Int) (t : ByteArray) (hown : BOwn w base v l) (hl : l.length + t.size ≤ 30000) (hb : base ≤ w.heap.size) :
    ∃ v' w', (Builtin.append_ #[38, 9] 38 #[v, .string t]).run Tryd.prog w = .ok v' w' ∧ BOwn w' base v' (l ++ bs t) ∧ w.grownBy w' v.ownBlock := by
  obtain ⟨i0, hi, hz0, hz1, hz2⟩ := info8'
  obtain ⟨v', w', hr, h1, h2, _⟩ := Lib.run_append_own_string (P := Tryd.prog) w base 38 9 38 5 i0 Tryd.underlying38 Tryd.underlying9 hi hz0 hz1 hz2 v l.length _ hown t (by unfold maxLen; omega) (by omega) hb
  refine ⟨v', w', hr, ?_, h2⟩
  unfold BOwn
  rw [List.map_append, List.length_append, bs_len, ← strCells_bs]
  exact h1
/-- An append whose run is known, in a region that draws. -/
theorem step_append_run {P : Program} {ops : Array Oper} {o : Oper} {a : Act} {w : World} {K : Act → World → Prop} {Q : Exit → Act → World → Prop} {E : Prop}
    (hg : o.guard = none) (s x : Operand) (t tx : TypeId) (hop : o.op = Op.call { callee := Callee.builtin Builtin.append, args := #[s, x], argTypes := #[t, tx] })
    (vs vx : Value) (hs : a.eval s = vs) (hx : a.eval x = vx) (v' : Value) (w' : World) (hr : (Builtin.append_ #[t, tx] o.type #[vs, vx]).run P w = .ok v' w') (hK : K (a.put o.dst v') w') :
    if Region.wanted o (yielded ops a.tmps) = true then Oper.wp P o a w K Q else E := by
  have hw : Region.wanted o (yielded ops a.tmps) = true := by simp [Region.wanted, hg]
  rw [if_pos hw]
  exact Lib.wp_append_run w s x t tx hop vs vx hs hx v' w' hr hK
theorem lt_of_some {w : World} {k : Nat} {o : Obj} (h : w.heap[k]? = some o) : k < w.heap.size := by
  rcases Nat.lt_or_ge k w.heap.size with h' | h'
  · exact h'
  · rw [Array.getElem?_eq_none h'] at h; cases h
/-- A variable of one cell. -/
def Vr (w : World) (b : Nat) (v : Value) (t : TypeId) : Prop := w.heap[b]? = some (.cells #[v] t (0, 0))
theorem Vr.lt {w : World} {b : Nat} {v : Value} {t : TypeId} (h : Vr w b v t) : b < w.heap.size := lt_of_some h
theorem Vr.cell {w : World} {b : Nat} {v : Value} {t : TypeId} (h : Vr w b v t) : w.cell? ⟨b, 0, none⟩ = some v := by
  unfold Vr at h
  simp [World.cell?, h]
theorem Vr.frozen {w : World} {b : Nat} {v : Value} {t : TypeId} (h : Vr w b v t) : w.frozen? ⟨b, 0, none⟩ = false := by
  unfold Vr at h
  simp [World.frozen?, h]
theorem Vr.new (w : World) (v : Value) (t : TypeId) : Vr (w.alloc (.cells #[v] t)) w.heap.size v t := by
  show (w.heap.push _)[w.heap.size]? = _
  rw [Array.getElem?_push, if_pos rfl]
theorem Vr.step {w w' : World} {b : Nat} {v : Value} {t : TypeId} (h : Vr w b v t) (hb : Bl w w') : Vr w' b v t := by
  have := h.lt
  unfold Vr at h ⊢
  rw [Below.block hb _ this]
  exact h
theorem Vr.set {w : World} {b : Nat} {v : Value} {t : TypeId} (h : Vr w b v t) (x : Value) : Vr (w.setCell ⟨b, 0, none⟩ x) b x t := by
  unfold Vr at h ⊢
  simp [World.setCell, Array.getElem?_modify, h]
theorem Vr.set_other {w : World} {b c j : Nat} {v : Value} {t : TypeId} (h : Vr w b v t) (hne : c ≠ b) (x : Value) : Vr (w.setCell ⟨c, j, none⟩ x) b v t := by
  unfold Vr at h ⊢
  simp [World.setCell, Array.getElem?_modify, hne, h]
theorem Vr.grown {w w' : World} {b : Nat} {v : Value} {t : TypeId} {row : Option Nat} (h : Vr w b v t) (hg : w.grownBy w' row) (hne : row ≠ some b) : Vr w' b v t := by
  have := h.lt
  unfold Vr at h ⊢
  rw [hg.block b this (fun e => hne e.symm)]
  exact h
/-- A row of bytes never lies in a variable of another type. -/
theorem BOwn.ne {w : World} {base b : Nat} {v x : Value} {l : List Int} {t : TypeId} (h : BOwn w base v l) (k : Vr w b x t) (ht : t ≠ 5) : v.ownBlock ≠ some b := by
  intro e
  obtain ⟨c, hc⟩ := h.typed e
  unfold Vr at k
  rw [k] at hc
  injection hc with hc
  injection hc with _ h2 _
  exact ht h2
end Go.Proofs.YtmchpmfogjhpoabDoor.rows
