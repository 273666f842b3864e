/- Texts laid together: BlB, BlC, BlE, TmM, TmN. -/
import Derived.Test.YtpanodaecjlgaaaGreatDoorXTypesFinds18
import Derived.Deep.RegionHeld3
import Derived.Test.YtpanodaecjlgaaaGreatDoorXTypesFinds10
import Derived.Test.YtpanodaecjlgaaaGreatDoorXTypesFinds17
/- A row of pointers to which one adds at the right. -/
namespace Go.Proofs.YtpanodaecjlgaaaGreatDoor.qp
set_option linter.unusedVariables false
open Go.ChangeShapes Go.WideShapes Go.ChangeAt Go.RowKit Go.Shelf
open mem lx ex
open qi (tape_setCells grown_cells)

def rowP (l : List Nat) : List Value := l.map (fun b => .pointer (some ⟨b, 0, none⟩))
theorem rowP_len (l : List Nat) : (rowP l).length = l.length := by simp [rowP]
theorem rowP_app (a b : List Nat) : rowP (a ++ b) = rowP a ++ rowP b := by simp [rowP]
theorem rowP_get {l : List Nat} {k b : Nat} (h : l[k]? = some b) : (rowP l)[k]? = some (.pointer (some ⟨b, 0, none⟩)) := by simp [rowP, h]
theorem infoP : (Tryz.prog.info? 73).map (fun i => (i.zero, i.size, i.bytes)) = some (some (.pointer none), 1, 8) := by kernel_rfl
theorem infoP' : ∃ i, Tryz.prog.info? 73 = some i ∧ i.zero = some (.pointer none) ∧ i.size = 1 ∧ i.bytes = 8 := by
  obtain ⟨i, h1, h2⟩ := Option.map_eq_some_iff.1 infoP
  simp only [Prod.mk.injEq] at h2
  exact ⟨i, h1, h2.1, h2.2.1, h2.2.2⟩
def Q (w : World) (base : Nat) (v : Value) (l : List Nat) : Prop := (v = .slice none 0 0 ∧ l = []) ∨ ∃ (g off cap : Nat), v = .slice (some ⟨g, off, none⟩) l.length cap ∧ base ≤ g ∧ g < w.heap.size ∧ l.length ≤ cap ∧ cap ≤ maxLen ∧ (∀ k u, (rowP l)[k]? = some u → w.cell? ⟨g, off + k, none⟩ = some u) ∧ (∀ k, k < cap → (w.cell? ⟨g, off + k, none⟩).isSome = true ∧ w.frozen? ⟨g, off + k, none⟩ = false)
theorem Q.shape {w : World} {base : Nat} {v : Value} {l : List Nat} (h : Q w base v l) : ∃ p c, v = .slice p l.length c ∧ l.length ≤ c ∧ c ≤ maxLen := by
  rcases h with ⟨rfl, rfl⟩ | ⟨g, off, cap, rfl, _, _, h1, h2, _⟩
  · exact ⟨none, 0, rfl, Nat.le_refl _, Nat.zero_le _⟩
  · exact ⟨_, cap, rfl, h1, h2⟩
theorem Q.block {w : World} {base : Nat} {v : Value} {l : List Nat} (h : Q w base v l) : ∀ k, v.ownBlock = some k → base ≤ k ∧ k < w.heap.size := by
  intro k hk
  rcases h with ⟨rfl, _⟩ | ⟨g, off, cap, rfl, h1, h2, _⟩
  · cases hk
  · injection hk with hk
    subst hk
    exact ⟨h1, h2⟩
theorem Q.kept {w w' : World} {base : Nat} {v : Value} {l : List Nat} {row : Option Nat} (h : Q w base v l) (hg : w.grownBy w' row) (hne : ∀ k, v.ownBlock = some k → row ≠ some k) : Q w' base v l := by
  rcases h with h | ⟨g, off, cap, rfl, h1, h2, h3, h4, h5, h6⟩
  · exact Or.inl h
  · have hb : w'.heap[g]? = w.heap[g]? := hg.block g h2 (fun e => hne g rfl e.symm)
    refine Or.inr ⟨g, off, cap, rfl, h1, Nat.lt_of_lt_of_le h2 hg.size, h3, h4, fun k u hu => ?_, fun k hk => ?_⟩
    · rw [World.cell?_of_block (a := ⟨g, off + k, none⟩) hb]; exact h5 k u hu
    · rw [World.cell?_of_block (a := ⟨g, off + k, none⟩) hb, World.frozen?_of_block (a := ⟨g, off + k, none⟩) hb]; exact h6 k hk
theorem Q.bl {w w' : World} {base : Nat} {v : Value} {l : List Nat} (h : Q w base v l) (hb : Bl w w') : Q w' base v l := h.kept (row := none) ⟨hb.os, hb.tape, hb.output, hb.size, fun k hk _ => Below.block hb k hk⟩ (fun _ _ => by simp)
theorem Q.nil (w : World) (base : Nat) : Q w base (.slice none 0 0) [] := Or.inl ⟨rfl, rfl⟩
theorem Q.mono {w : World} {base base' : Nat} {v : Value} {l : List Nat} (h : Q w base v l) (hb : base' ≤ base) : Q w base' v l := by
  rcases h with h | ⟨g, off, cap, h1, h2, h3⟩
  · exact Or.inl h
  · exact Or.inr ⟨g, off, cap, h1, by omega, h3⟩
theorem Q.at {w : World} {base : Nat} {p : Option Addr} {n c : Nat} {l : List Nat} (h : Q w base (.slice p n c) l) {k b : Nat} (hk : l[k]? = some b) : ∃ x, p = some x ∧ x.block < w.heap.size ∧ w.cell? (x.add k) = some (.pointer (some ⟨b, 0, none⟩)) := by
  rcases h with ⟨_, h⟩ | ⟨g, off, cap, hv, h1, h2, h3, h4, h5, h6⟩
  · rw [h] at hk; cases hk
  · injection hv with e1 e2 e3
    exact ⟨_, e1, h2, by rw [Addr.add_lit]; exact h5 k _ (rowP_get hk)⟩
theorem Q.one {w : World} {base N b : Nat} (hN : w.heap[N]? = some (.cells #[.pointer (some ⟨b, 0, none⟩)] 73 (0, 0))) (hb : base ≤ N) : Q w base (.slice (some ⟨N, 0, none⟩) 1 1) [b] := by
  refine Or.inr ⟨N, 0, 1, rfl, hb, lt_of_heap hN, Nat.le_refl _, by unfold maxLen; omega, fun k u hu => ?_, fun k hk => ?_⟩
  · rw [Nat.zero_add, cell_of hN]
    cases k with
    | zero => exact hu
    | succ k => simp [rowP] at hu
  · obtain rfl : k = 0 := by omega
    exact ⟨by rw [Nat.zero_add, cell_of hN]; rfl, by simp [World.frozen?, hN]⟩
set_option maxRecDepth 10000 in
/-- More, at the right. -/
theorem Q.app {w : World} {base base2 : Nat} {v u : Value} {l m : List Nat} (h : Q w base v l) (hu : Q w base2 u m) (hn : l.length + m.length ≤ 100000) (hb : base ≤ w.heap.size) :
    ∃ v' w', (Builtin.append_ #[127, 127] 127 #[v, u]).run Tryz.prog w = .ok v' w' ∧ Q w' base v' (l ++ m) ∧ w.grownBy w' v.ownBlock ∧ (v'.ownBlock = v.ownBlock ∨ v'.ownBlock = some w.heap.size) := by
  obtain ⟨i, hi, hz, h1, h2⟩ := infoP'
  have hs : Src Tryz.prog i.size 127 u m.length (rowP m) w := by
    rw [h1]
    rcases hu with ⟨rfl, rfl⟩ | ⟨g, off, cap, rfl, _, _, _, _, hc, _⟩
    · exact Src.ofNil w Tryz.underlying127 0
    · refine Src.ofSlice w Tryz.underlying127 _ _ _ _ (by rw [rowP_len, Nat.mul_one]) (fun j x hx => ?_) (fun x hx => ?_)
      · rw [Addr.add_lit]
        exact hc j x hx
      · simp only [rowP, List.mem_map] at hx
        obtain ⟨z, _, rfl⟩ := hx
        rfl
  -- a new row
  have grow : ∀ (p : Option Addr) (sc : Nat), v = .slice p l.length sc → sc < l.length + m.length → (Builtin.firstCells i.size l.length (.slice p l.length sc)).run Tryz.prog w.drew = .ok (rowP l).toArray w.drew →
      ∃ v' w', (Builtin.append_ #[127, 127] 127 #[v, u]).run Tryz.prog w = .ok v' w' ∧ Q w' base v' (l ++ m) ∧ w.grownBy w' v.ownBlock ∧ (v'.ownBlock = v.ownBlock ∨ v'.ownBlock = some w.heap.size) := by
    rintro p sc rfl hg hold
    have hrun := run_append_grow_src (P := Tryz.prog) w 127 127 127 73 i (.pointer none) Tryz.underlying127 hi hz p l.length sc (rowP l) hold u m.length (rowP m) hs hg (by omega) (growslice_fits hg (by rw [h2]; omega))
    have hge := grownCap_ge w (l.length + m.length) sc 73
    have hcm := grownCap_le_maxLen w (l.length + m.length) sc 73 (by unfold maxLen; omega)
    obtain ⟨A, hA⟩ : ∃ A, A = (rowP l ++ rowP m).toArray ++ Builtin.zeroCells (Value.pointer none).cells (grownCap w (l.length + m.length) sc 73 - (l.length + m.length)) := ⟨_, rfl⟩
    rw [← hA] at hrun
    have hAs : A.size = grownCap w (l.length + m.length) sc 73 := by
      rw [hA, Array.size_append, size_zeroCells, List.size_toArray, List.length_append, rowP_len, rowP_len, show (Value.pointer none).cells.size = 1 from rfl]
      omega
    have hcell : ∀ j, (w.drew.alloc (.cells A 73)).cell? ⟨w.heap.size, j, none⟩ = A[j]? := fun j => World.cell?_alloc_new w.drew A 73 j
    have hnew : (w.drew.alloc (.cells A 73)).heap[w.heap.size]? = some (.cells A 73 (0, 0)) := new_at w.drew (.cells A 73)
    refine ⟨_, _, hrun, Or.inr ⟨w.heap.size, 0, _, by rw [List.length_append], hb, lt_of_heap hnew, by rw [List.length_append]; exact hge, hcm, fun k x hx => ?_, fun k hk => ?_⟩, ⟨rfl, rfl, rfl, by simp, fun k hk _ => Below.heap_alloc w.drew _ k hk⟩, Or.inr rfl⟩
    · rw [Nat.zero_add, hcell, hA]
      have hk := (List.getElem?_eq_some_iff.1 hx).1
      rw [rowP_app] at hx hk
      rw [Array.getElem?_append_left (by rw [List.size_toArray]; exact hk), List.getElem?_toArray]
      exact hx
    · rw [Nat.zero_add, hcell]
      refine ⟨by rw [Array.getElem?_eq_getElem (by rw [hAs]; exact hk)]; rfl, ?_⟩
      unfold World.frozen?
      dsimp only
      rw [hnew]
      simp
  rcases h with ⟨rfl, rfl⟩ | ⟨g, off, cap, rfl, k1, k2, k3, k4, k5, k6⟩
  · by_cases hm : m = []
    · subst hm
      refine ⟨.slice none 0 0, w, ?_, Or.inl ⟨rfl, rfl⟩, ⟨rfl, rfl, rfl, Nat.le_refl _, fun _ _ _ => rfl⟩, Or.inl rfl⟩
      exact run_append_nothing (P := Tryz.prog) w 127 127 127 73 i Tryz.underlying127 hi none 0 0 (Nat.le_refl _) u hs
    · have hmp : 0 < m.length := List.length_pos_iff.2 hm
      exact grow none 0 rfl (by simpa using hmp) (run_firstCells_none w.drew i.size 0 0 0)
  · by_cases hroom : l.length + m.length ≤ cap
    · have hrun := run_append_room_src (P := Tryz.prog) w 127 127 127 73 i Tryz.underlying127 hi g off l.length cap u m.length (rowP m) hs hroom
        (fun j hj => by rw [rowP_len] at hj; rw [h1, Nat.mul_one, Nat.add_assoc]; exact (k6 _ (by omega)).1) (fun j hj => by rw [rowP_len] at hj; rw [h1, Nat.mul_one, Nat.add_assoc]; exact (k6 _ (by omega)).2)
      rw [h1, Nat.mul_one] at hrun
      refine ⟨_, _, hrun, Or.inr ⟨g, off, cap, by rw [List.length_append], k1, by rw [(tape_setCells g _ _ w).2]; exact k2, by rw [List.length_append]; exact hroom, k4, fun k x hx => ?_, fun k hk => ?_⟩, grown_cells _ _ _ _, Or.inl rfl⟩
      · rw [rowP_app] at hx
        by_cases hkl : k < l.length
        · rw [List.getElem?_append_left (by rw [rowP_len]; exact hkl)] at hx
          rw [World.cell?_setCells_out g _ _ w _ (fun _ _ => Or.inl (by show off + k < off + l.length; omega))]
          exact k5 k x hx
        · rw [List.getElem?_append_right (by rw [rowP_len]; omega), rowP_len] at hx
          have hj := (List.getElem?_eq_some_iff.1 hx).1
          have := World.cell?_setCells_in g (rowP m) (off + l.length) w (fun j hj => by rw [rowP_len] at hj; rw [Nat.add_assoc]; exact (k6 _ (by omega)).1) (k - l.length) hj
          rw [show off + l.length + (k - l.length) = off + k by omega] at this
          rw [this, ← hx]
          first | rfl | exact (List.getElem?_eq_getElem hj).symm
      · exact ⟨World.isSome_setCells g _ _ w _ (k6 k hk).1, by rw [World.frozen?_setCells]; exact (k6 k hk).2⟩
    · refine grow _ cap rfl (by omega) ?_
      rw [h1]
      exact run_firstCells_some w.drew 1 l.length ⟨g, off, none⟩ l.length cap (rowP l) (by rw [rowP_len, Nat.mul_one]) (fun j x hx => by rw [Addr.add_lit]; simpa using k5 j x hx)
end Go.Proofs.YtpanodaecjlgaaaGreatDoor.qp
/- The document's checker of templates: the names in an expression. -/
namespace Go.Proofs.YtpanodaecjlgaaaGreatDoor.tc
set_option linter.unusedVariables false
open Go.ChangeShapes Go.WideShapes Go.ChangeAt Go.RowKit Go.Shelf Go.Maps
open mem lx ex tm

/-- The names in an expression, from the left, and where they stand. -/
def nms : Ex → List (Nat × List UInt8)
  | .num _ _ => []
  | .nam a t => [(a, t)]
  | .bin _ _ l r => nms l ++ nms r
def nmsO : Option Ex → List (Nat × List UInt8)
  | none => []
  | some x => nms x
/-- The first one that isn't seen. -/
def firstN (seen : List (List UInt8)) : List (Nat × List UInt8) → Option Nat
  | [] => none
  | e :: r => if e.2 ∈ seen then firstN seen r else some e.1
theorem firstN_app (seen : List (List UInt8)) (a b : List (Nat × List UInt8)) : firstN seen (a ++ b) = match firstN seen a with | some p => some p | none => firstN seen b := by
  induction a with
  | nil => rfl
  | cons e r ih =>
    rw [List.cons_append, firstN, firstN]
    by_cases h : e.2 ∈ seen
    · rw [if_pos h, if_pos h, ih]
    · rw [if_neg h, if_neg h]
theorem mis_nms (seen : List (List UInt8)) (x : Ex) : mis seen x = firstN seen (nms x) := by
  induction x with
  | num a n => rfl
  | nam a t => rfl
  | bin a o l r il ir =>
    rw [mis, nms, firstN_app, il, ir]
    cases firstN seen (nms l) <;> rfl
theorem misO_nms (seen : List (List UInt8)) (o : Option Ex) : misO seen o = firstN seen (nmsO o) := by
  cases o with
  | none => rfl
  | some x => exact mis_nms seen x
theorem firstN_step (seen : List (List UInt8)) (l : List (Nat × List UInt8)) (j : Nat) (e : Nat × List UInt8) (h : l[j]? = some e) : (e.2 ∈ seen → firstN seen (l.drop j) = firstN seen (l.drop (j + 1))) ∧ (e.2 ∉ seen → firstN seen (l.drop j) = some e.1) := by
  obtain ⟨hl, he⟩ := List.getElem?_eq_some_iff.1 h
  rw [List.drop_eq_getElem_cons hl, he, firstN]
  exact ⟨fun hm => by rw [if_pos hm], fun hm => by rw [if_neg hm]⟩
theorem firstN_same {S S' : List (List UInt8)} (h : ∀ y, y ∈ S ↔ y ∈ S') (l : List (Nat × List UInt8)) : firstN S l = firstN S' l := by
  induction l with
  | nil => rfl
  | cons e r ih =>
    rw [firstN, firstN, ih]
    by_cases hm : e.2 ∈ S
    · rw [if_pos hm, if_pos ((h _).1 hm)]
    · rw [if_neg hm, if_neg (fun hc => hm ((h _).2 hc))]
theorem nms_sz (x : Ex) : (nms x).length ≤ sz x := by
  induction x with
  | num a n => exact Nat.zero_le _
  | nam a t => show 1 ≤ sz _; unfold sz; omega
  | bin a o l r il ir => rw [nms, List.length_append, sz]; omega
/-- Pointers to names, az they lie. -/
def NmL (w : World) : List Nat → List (Nat × List UInt8) → Prop
  | [], [] => True
  | b :: az, e :: l => w.heap[b]? = some (cellsX 2 e.1 0 e.2 [] (.pointer none) (.pointer none)) ∧ NmL w az l
  | [], _ :: _ => False
  | _ :: _, [] => False
theorem NmL.keep {w w' : World} (h : Kx w w') : ∀ {az : List Nat} {l : List (Nat × List UInt8)}, NmL w az l → NmL w' az l
  | [], [], _ => trivial
  | b :: az, e :: l, hn => ⟨h _ _ hn.1, NmL.keep h hn.2⟩
  | [], _ :: _, hn => hn.elim
  | _ :: _, [], hn => hn.elim
theorem NmL.len {w : World} : ∀ {az : List Nat} {l : List (Nat × List UInt8)}, NmL w az l → az.length = l.length
  | [], [], _ => rfl
  | b :: az, e :: l, hn => by rw [List.length_cons, List.length_cons, NmL.len hn.2]
  | [], _ :: _, hn => hn.elim
  | _ :: _, [], hn => hn.elim
theorem NmL.app {w : World} : ∀ {az bs : List Nat} {l m : List (Nat × List UInt8)}, NmL w az l → NmL w bs m → NmL w (az ++ bs) (l ++ m)
  | [], bs, [], m, _, h2 => h2
  | b :: az, bs, e :: l, m, hn, h2 => ⟨hn.1, NmL.app hn.2 h2⟩
  | [], _, _ :: _, _, hn, _ => hn.elim
  | _ :: _, _, [], _, hn, _ => hn.elim
theorem NmL.at {w : World} : ∀ {az : List Nat} {l : List (Nat × List UInt8)} {k : Nat} {e : Nat × List UInt8}, NmL w az l → l[k]? = some e → ∃ b, az[k]? = some b ∧ w.heap[b]? = some (cellsX 2 e.1 0 e.2 [] (.pointer none) (.pointer none))
  | [], [], _, _, _, h => by cases h
  | b :: az, f :: l, 0, e, hn, h => by
    simp at h
    subst h
    exact ⟨b, rfl, hn.1⟩
  | b :: az, f :: l, k + 1, e, hn, h => by
    obtain ⟨c, h1, h2⟩ := NmL.at hn.2 (k := k) (e := e) (by simpa using h)
    exact ⟨c, by simpa using h1, h2⟩
  | [], _ :: _, _, _, hn, _ => hn.elim
  | _ :: _, [], _, _, hn, _ => hn.elim
/-- What is answered. -/
def NA (w0 w : World) (l : List (Nat × List UInt8)) (e : Ending) (w' : World) : Prop := ∃ (p : Option Addr) (c : Nat) (az : List Nat), e = .returned (.slice p l.length c) ∧ Bl w w' ∧ qp.Q w' w.heap.size (.slice p l.length c) az ∧ NmL w0 az l
theorem NA.of {w0 w w' : World} {l : List (Nat × List UInt8)} {v : Value} {az : List Nat} (hb : Bl w w') (hq : qp.Q w' w.heap.size v az) (hn : NmL w0 az l) : NA w0 w l (.returned v) w' := by
  obtain ⟨p, c, rfl, _, _⟩ := hq.shape
  rw [hn.len] at hq ⊢
  exact ⟨p, c, az, rfl, hb, hq, hn⟩
end Go.Proofs.YtpanodaecjlgaaaGreatDoor.tc
/- The document's checker of templates: exprNames. -/
namespace Go.Proofs.YtpanodaecjlgaaaGreatDoor.tc
set_option linter.unusedVariables false
open Go.ChangeShapes Go.WideShapes Go.ChangeAt Go.RowKit Go.Shelf Go.Maps
open mem lx ex tm

theorem names_nil (w : World) : Calls Tryz.prog 70 #[.pointer none] w fun e w' => e = .returned (.slice none 0 0) ∧ w' = w := by
  go_enter Tryz.func70, Tryz.ntmps70
  go_wp2
  go_ret
  exact ⟨rfl, rfl⟩
set_option maxRecDepth 10000 in
set_option maxHeartbeats 4000000 in
theorem names_x (x : Ex) : ∀ (v : Value) (w0 w : World), Bl w0 w → IsX w0 v x → sz x ≤ 5000 → Calls Tryz.prog 70 #[v] w fun e w' => NA w0 w (nms x) e w' := by
  induction x with
  | num a n =>
    intro v w0 w h0 hx hs
    obtain ⟨b, rfl, hb0⟩ := hx
    have hb := Kx.bl h0 _ _ hb0
    have c0 : w.cell? ⟨b, 0, none⟩ = some (.int .i64 1) := by rw [cell_of hb]; rfl
    have hbs := lt_of_heap hb
    clear hb hb0 hs h0
    go_enter Tryz.func70, Tryz.ntmps70
    go_wp2
    go_ret
    exact NA.of (Bl.refl _) (qp.Q.nil _ _) trivial
  | nam a t =>
    intro v w0 w h0 hx hs
    obtain ⟨b, rfl, hb0⟩ := hx
    have hb := Kx.bl h0 _ _ hb0
    have c0 : w.cell? ⟨b, 0, none⟩ = some (.int .i64 2) := by rw [cell_of hb]; rfl
    have hbs := lt_of_heap hb
    have HB : Hid (w0.heap[b]? = some (cellsX 2 a 0 t [] (.pointer none) (.pointer none))) := hb0
    clear hb hb0 hs h0
    go_enter Tryz.func70, Tryz.ntmps70
    go_wp2
    go_ret
    have hbl : Bl w (w.alloc (.cells #[.pointer (some ⟨b, 0, none⟩)] 73)) := (Bl.refl w).alloc _
    exact NA.of (az := [b]) hbl (qp.Q.one (new_at w _) (Nat.le_refl _)) ⟨HB.out, trivial⟩
  | bin a o l r il ir =>
    intro v w0 w h0 hx hs
    obtain ⟨b, vl, vr, rfl, hb0, hl, hr⟩ := hx
    have hb := Kx.bl h0 _ _ hb0
    have c0 : w.cell? ⟨b, 0, none⟩ = some (.int .i64 3) := by rw [cell_of hb]; rfl
    have c5 : w.cell? ⟨b, 5, none⟩ = some vl := by rw [cell_of hb]; rfl
    have hbs := lt_of_heap hb
    have hsz : sz l + sz r + 1 ≤ 5000 := hs
    have hbd : Bl w w.drew := (Bl.refl _).drew
    have cL := il vl w0 w.drew (h0.trans hbd) hl (by omega)
    have c6 : w.cell? ⟨b, 6, none⟩ = some vr := by rw [cell_of hb]; rfl
    have HR : Hid (∀ w2, Bl w.drew w2 → w2.cell? ⟨b, 5, none⟩ = some vl ∧ w2.cell? ⟨b, 6, none⟩ = some vr ∧ b < w2.heap.size) := fun w2 h2 => ⟨at_bl (hbd.trans h2) c5, at_bl (hbd.trans h2) c6, Nat.lt_of_lt_of_le hbs (hbd.trans h2).size⟩
    have HS : Hid (sz r ≤ 5000 ∧ (nms l).length + (nms r).length ≤ 100000 ∧ Bl w0 w ∧ IsX w0 vr r) := ⟨by omega, by have := nms_sz l; have := nms_sz r; omega, h0, hr⟩
    have q5 : w.drew.cell? ⟨b, 5, none⟩ = some vl := at_bl hbd c5
    have q6 : w.drew.cell? ⟨b, 6, none⟩ = some vr := at_bl hbd c6
    clear hb hb0 hl hr hs hsz il h0
    go_enter Tryz.func70, Tryz.ntmps70
    go_upto_region 5 with fail
    go_region_held3 (fun wS => wS.cell? ⟨b, 5, none⟩ = some vl ∧ wS.cell? ⟨b, 6, none⟩ = some vr) (refine ⟨?_, ?_⟩ <;> first | assumption)
      (first
        | (go_at_call 70; (with_reducible refine cL.mono ?_); rintro e w2 ⟨p, c, az, rfl, hb2, hq2, hn2⟩
           obtain ⟨s5, s6, hbs2⟩ := HR.out w2 hb2
           have cR := ir vr w0 w2 ((HS.out.2.2.1.trans hbd).trans hb2) HS.out.2.2.2 HS.out.1
           have H2 : Hid (Bl w w2 ∧ qp.Q w2 w.heap.size (.slice p (nms l).length c) az ∧ NmL w0 az (nms l)) := ⟨hbd.trans hb2, hq2, hn2⟩
           clear hb2 hq2 hn2)
        | (go_at_call 70; (with_reducible refine cR.mono ?_); rintro e w3 ⟨p3, c3, bs, rfl, hb3, hq3, hn3⟩
           have hlb := hn3.len
           have hla := H2.out.2.2.len
           have t5 := at_bl hb3 s5
           have t6 := at_bl hb3 s6
           obtain ⟨v4, w4, hr4, hq4, hg4, hv4⟩ := qp.Q.app (H2.out.2.1.bl hb3) hq3 (by rw [hla, hlb]; exact HS.out.2.1) (by have := H2.out.1.size; have := hb3.size; omega)
           have HR4 : Hid _ := hr4
           have hbl4 : Bl w w4 := bl_grown (H2.out.1.trans hb3) hg4 (fun k hk => (H2.out.2.1.block k hk).1)
           have u5 := at_bl hbl4 c5
           have u6 := at_bl hbl4 c6
           have H4 : Hid (NA w0 w (nms (.bin a o l r)) (.returned v4) w4) := NA.of hbl4 hq4 (H2.out.2.2.app hn3)
           clear hr4 hq4 hg4 hv4 hb3 hq3 hn3 hbl4)
        | (refine step_append_run rfl (.tmp 23) (.tmp 28) 127 127 rfl (.slice p (nms l).length c) (.slice p3 (nms r).length c3) rfl rfl v4 w4 ?hr ?_; (case hr => with_reducible exact HR4.out)))
    go_wp2
    go_ret
    exact H4.out
end Go.Proofs.YtpanodaecjlgaaaGreatDoor.tc
/- Templates: how much is read, and where it stands (pure). -/
namespace Go.Proofs.YtpanodaecjlgaaaGreatDoor.tm
set_option linter.unusedVariables false
open lx ex

def szO : Option Ex → Nat
  | none => 0
  | some x => sz x
/-- How many tokens items take, at least. -/
def zI : Its → Nat
  | .nil => 1
  | .cons d s t => 2 + szO d.ct + zI s + zI t
theorem tot_le (l : Its) : tot l ≤ zI l := by
  induction l with
  | nil => exact Nat.zero_le _
  | cons d s t is it => rw [tot, zI]; omega
section
variable {en : Nat}
theorem tail_len {ts : List Tk} (h : (hd en ts).t ≠ []) : ts.tail.length + 1 = ts.length := by
  cases ts with
  | nil => exact absurd rfl h
  | cons t r => rfl
theorem name_len {ts r : List Tk} {t : List UInt8} (h : name en ts = .ok (t, r)) : r.length + 1 = ts.length := by
  unfold name at h
  split at h
  · cases h
  · rename_i h1
    split at h
    · cases h
    · injection h with h
      injection h with h3 h4
      rw [← h4]
      refine tail_len (en := en) (fun e => h1 (Or.inr ?_))
      rw [e]; decide
theorem want_len {m : List UInt8} {ts r : List Tk} (hm : m ≠ []) (h : want en m ts = .ok r) : r.length + 1 = ts.length := by
  unfold want at h
  split at h
  · rename_i h1
    injection h with h
    rw [← h]
    exact tail_len (en := en) (by rw [h1]; exact hm)
  · cases h
theorem rx_len {m : List UInt8} {ts r : List Tk} {x : Ex} (hT : TS ts) (h : rx nb en m ts = .ok (x, r)) : sz x + r.length ≤ ts.length := ((nw_all _).1 _ _ _ _ _ hT (rx_is h).1).2
theorem many_len {ts r : List Tk} {x : Ex} (hT : TS ts) (h : many nb en ts = .ok (x, r)) : sz x + 2 + r.length ≤ ts.length := by
  unfold many at h
  split at h
  · cases h
  · rename_i r1 h1
    split at h
    · cases h
    · rename_i x1 r2 h2
      injection h with h
      injection h with h3 h4
      subst h3 h4
      have s1 := want_told h1
      have l1 := want_len (by decide) h1
      have l2 := rx_len (hT.sb s1) h2
      have l3 : r2.tail.length + 1 = r2.length := tail_len (en := en) (by rw [(rx_is h2).2]; decide)
      omega
theorem rule_len {d e : D} {ts r : List Tk} (h : rule en d ts = .ok (e, r)) : r.length ≤ ts.length ∧ e.ct = d.ct := by
  unfold rule at h
  split at h
  · cases h
  · split at h
    · cases h
    · rename_i a r1 h2
      have l1 := name_len h2
      have lt : ts.tail.length ≤ ts.length := by rw [List.length_tail]; omega
      split at h
      · split at h
        · injection h with h; injection h with h4 h5; subst h4 h5
          exact ⟨by omega, rfl⟩
        · split at h
          · cases h
          · rename_i b r2 h4
            have l2 := name_len h4
            injection h with h; injection h with h5 h6; subst h5 h6
            exact ⟨by omega, rfl⟩
      · injection h with h; injection h with h4 h5; subst h4 h5
        exact ⟨by omega, rfl⟩
theorem mark_len {d e : D} {ts r : List Tk} (hT : TS ts) (hd : d.ct = none) (h : mark nb en d ts = .ok (e, r)) : szO e.ct + r.length ≤ ts.length := by
  unfold mark at h
  split at h
  · split at h
    · cases h
    · rename_i x r5 h5
      have l1 := many_len hT h5
      injection h with h; injection h with h6 h7; subst h6 h7
      show sz x + _ ≤ _
      omega
  · split at h
    · obtain ⟨l1, l2⟩ := rule_len h
      rw [l2, hd]
      have : ts.tail.length ≤ ts.length := by rw [List.length_tail]; omega
      show 0 + _ ≤ _
      omega
    · injection h with h; injection h with h6 h7; subst h6 h7
      rw [hd]
      show 0 + _ ≤ _
      omega
theorem kind_len {ts r : List Tk} {d : D} (h : kind en ts = .ok (d, r)) : r.length + 1 = ts.length ∧ d.ct = none := by
  unfold kind at h
  split at h
  · rename_i w o s hn
    injection h with h; injection h with h1 h2; subst h1 h2
    exact ⟨tail_len (en := en) (fun e => by rw [e, show numOf [] = none by decide] at hn; cases hn), rfl⟩
  · split at h
    · cases h
    · rename_i t r' hn
      have l1 := name_len hn
      injection h with h; injection h with h1 h2; subst h1 h2
      exact ⟨l1, rfl⟩
theorem part_len {ts r : List Tk} {e : D} (hT : TS ts) (h : part nb en ts = .ok (e, r)) : 3 + szO e.ct + r.length ≤ ts.length := by
  unfold part at h
  split at h
  · cases h
  · rename_i d1 r1 h1
    obtain ⟨l1, c1⟩ := kind_len h1
    split at h
    · cases h
    · rename_i t r2 h2
      have l2 := name_len h2
      split at h
      · cases h
      · rename_i d3 r3 h3
        have hT2 : TS r2 := by
          have s1 : Sb_ r1 ts := by
            unfold kind at h1
            split at h1
            · injection h1 with h1; injection h1 with _ e2; rw [← e2]; exact sb_tail ts
            · split at h1
              · cases h1
              · rename_i t' r' hn
                injection h1 with h1; injection h1 with _ e2; rw [← e2]; exact (name_told hT hn).2
          exact (hT.sb s1).sb (name_told (hT.sb s1) h2).2
        have l3 := mark_len hT2 (d := { d1 with nm := t }) c1 h3
        split at h
        · cases h
        · rename_i r4 h4
          have l4 := want_len (by decide) h4
          injection h with h; injection h with h5 h6; subst h5 h6
          omega
theorem byts_len {ts r : List Tk} {e : D} (hT : TS ts) (h : byts nb en ts = .ok (e, r)) : 4 + szO e.ct + r.length ≤ ts.length := by
  unfold byts at h
  split at h
  · cases h
  · rename_i t r1 h1
    have l1 := name_len h1
    split at h
    · cases h
    · rename_i x r2 h2
      have l2 := many_len (hT.sb (name_told hT h1).2) h2
      split at h
      · cases h
      · rename_i r3 h3
        have l3 := want_len (by decide) h3
        injection h with h; injection h with h5 h6; subst h5 h6
        show 4 + sz x + _ ≤ _
        omega
/-- Places. -/
def TP (en : Nat) (ts : List Tk) : Prop := en ≤ 100000 ∧ ∀ t ∈ ts, t.a ≤ 100000
theorem TP.sb {r ts : List Tk} (h : TP en ts) (k : Sb_ r ts) : TP en r := ⟨h.1, fun t ht => h.2 t (k t ht)⟩
theorem TP.hd {ts : List Tk} (h : TP en ts) : (hd en ts).a ≤ 100000 := by
  cases ts with
  | nil => exact h.1
  | cons t r => exact h.2 t (by simp)
theorem item_len {k : Nat} {ts r : List Tk} {d : D} {s : Its} (hT : TS ts) (hP : TP en ts) (hi : ∀ ts l r, TS ts → TP en ts → blk nb en k ts = .ok (l, r) → zI l + 1 + r.length ≤ ts.length ∧ AtB l) (h : item nb en (blk nb en k) ts = .ok ((d, s), r)) : 2 + szO d.ct + zI s + r.length ≤ ts.length ∧ d.at_ ≤ 100000 ∧ AtB s := by
  unfold item at h
  split at h
  · rename_i hw
    have l0 : ts.tail.length + 1 = ts.length := tail_len (en := en) (by rw [hw]; decide)
    split at h
    · cases h
    · rename_i x r1 h1
      have l1 := rx_len (hT.sb (sb_tail ts)) h1
      have s1 := (rx_told (hT.sb (sb_tail ts)) h1).2.trans (sb_tail ts)
      split at h
      · cases h
      · rename_i l r2 h2
        obtain ⟨g1, g2⟩ := hi _ _ _ (hT.sb s1) (hP.sb s1) h2
        injection h with h; injection h with h3 h4; injection h3 with h5 h6; subst h5 h6 h4
        refine ⟨?_, hP.hd, g2⟩
        show 2 + sz x + _ + _ ≤ _
        omega
  · split at h
    · rename_i hw
      have l0 : ts.tail.length + 1 = ts.length := tail_len (en := en) (by rw [hw]; decide)
      split at h
      · cases h
      · rename_i d1 r1 h1
        have l1 := byts_len (hT.sb (sb_tail ts)) h1
        injection h with h; injection h with h3 h4; injection h3 with h5 h6; subst h5 h6 h4
        refine ⟨?_, hP.hd, trivial⟩
        show 2 + szO d1.ct + 1 + _ ≤ _
        omega
    · split at h
      · cases h
      · rename_i d1 r1 h1
        have l1 := part_len hT h1
        injection h with h; injection h with h3 h4; injection h3 with h5 h6; subst h5 h6 h4
        refine ⟨?_, hP.hd, trivial⟩
        show 2 + szO d1.ct + 1 + _ ≤ _
        omega
theorem loop_len {k : Nat} (hi : ∀ ts l r, TS ts → TP en ts → blk nb en k ts = .ok (l, r) → zI l + 1 + r.length ≤ ts.length ∧ AtB l) (n : Nat) : ∀ (ts : List Tk) (l : Its) (r : List Tk), TS ts → TP en ts → loop nb en (blk nb en k) n ts = .ok (l, r) → zI l + r.length ≤ ts.length ∧ AtB l := by
  have hnil : ∀ ts : List Tk, (hd en ts).t = [125] → zI .nil + ts.tail.length ≤ ts.length := by
    intro ts h
    have := tail_len (en := en) (ts := ts) (by rw [h]; decide)
    show 1 + _ ≤ _
    omega
  induction n with
  | zero =>
    intro ts l r hT hP h
    rw [loop] at h
    split at h
    · rename_i h0
      injection h with h; injection h with h1 h2; subst h1 h2
      exact ⟨hnil ts h0, trivial⟩
    · cases h
  | succ n ih =>
    intro ts l r hT hP h
    rw [loop] at h
    split at h
    · rename_i h0
      injection h with h; injection h with h1 h2; subst h1 h2
      exact ⟨hnil ts h0, trivial⟩
    · split at h
      · cases h
      · rename_i d s r1 h1
        obtain ⟨g1, g2, g3⟩ := item_len hT hP hi h1
        have s1 := (item_told hT (fun ts l r a b => blk_told k ts l r a b) h1).2.2.2
        split at h
        · cases h
        · rename_i l1 r2 h2
          obtain ⟨k1, k2⟩ := ih _ _ _ (hT.sb s1) (hP.sb s1) h2
          injection h with h; injection h with h3 h4; subst h3 h4
          exact ⟨by rw [zI]; omega, g2, g3, k2⟩
theorem blk_len (k : Nat) : ∀ (ts : List Tk) (l : Its) (r : List Tk), TS ts → TP en ts → blk nb en k ts = .ok (l, r) → zI l + 1 + r.length ≤ ts.length ∧ AtB l := by
  induction k with
  | zero =>
    intro ts l r hT hP h
    rw [blk] at h
    split at h <;> cases h
  | succ k ih =>
    intro ts l r hT hP h
    rw [blk] at h
    split at h
    · rename_i h0
      obtain ⟨g1, g2⟩ := loop_len ih 16 _ _ _ (hT.sb (sb_tail ts)) (hP.sb (sb_tail ts)) h
      have := tail_len (en := en) (ts := ts) (by rw [h0]; decide)
      exact ⟨by omega, g2⟩
    · cases h
def zT (l : List Ty) : Nat := (l.map (fun t => 3 + zI t.l)).sum
theorem typs_len (n : Nat) : ∀ (ts : List Tk) (l : List Ty), TS ts → TP en ts → typs nb en n ts = .ok l → zT l ≤ ts.length ∧ ∀ t ∈ l, t.at_ ≤ 100000 ∧ AtB t.l := by
  induction n with
  | zero =>
    intro ts l hT hP h
    cases ts with
    | nil => cases h; exact ⟨Nat.le_refl _, fun t ht => by cases ht⟩
    | cons t r => rw [typs] at h; split at h <;> cases h
  | succ n ih =>
    intro ts l hT hP h
    cases ts with
    | nil => cases h; exact ⟨Nat.zero_le _, fun t ht => by cases ht⟩
    | cons t r =>
      have s0 : Sb_ r (t :: r) := fun u hu => by simp [hu]
      have hT' := hT.sb s0
      rw [typs] at h
      split at h
      · split at h
        · cases h
        · rename_i m r1 h1
          have l1 := name_len h1
          obtain ⟨n1, s1⟩ := name_told hT' h1
          split at h
          · cases h
          · rename_i it r2 h2
            obtain ⟨g1, g2⟩ := blk_len 8 _ _ _ (hT'.sb s1) ((hP.sb s0).sb s1) h2
            obtain ⟨_, _, _, s2⟩ := blk_told 8 _ _ _ (hT'.sb s1) h2
            split at h
            · cases h
            · rename_i q h3
              obtain ⟨k1, k2⟩ := ih _ _ (hT'.sb (s2.trans s1)) ((hP.sb s0).sb (s2.trans s1)) h3
              injection h with h
              subst h
              refine ⟨?_, fun u hu => ?_⟩
              · unfold zT at k1 ⊢
                rw [List.map_cons, List.sum_cons, List.length_cons]
                show 3 + zI it + _ ≤ _
                omega
              · rw [List.mem_cons] at hu
                rcases hu with rfl | hu
                · exact ⟨(hP.sb s0).hd, g2⟩
                · exact k2 u hu
      · cases h
end
end Go.Proofs.YtpanodaecjlgaaaGreatDoor.tm
/- Templates: how long what is written is; what Parse tells (pure). -/
namespace Go.Proofs.YtpanodaecjlgaaaGreatDoor.tm
set_option linter.unusedVariables false
open lx ex

theorem txO_len {o : Option Ex} (h : ∀ x, o = some x → WX x) : (txO o).length ≤ 40 * szO o := by
  cases o with
  | none => exact Nat.zero_le _
  | some x =>
    have w := h x rfl
    have := txt_len w.2.1 w.1.okb
    show (txt x).length ≤ 40 * sz x
    omega
theorem wd_wx {d : D} (h : WD d) : ∀ x, d.ct = some x → WX x := by
  intro y hy
  rcases h with h | h | h | h
  · obtain ⟨x, hx, wx⟩ := h.2.1
    rw [hx] at hy; injection hy with hy; rw [← hy]; exact wx
  · obtain ⟨x, hx, wx⟩ := h.2.2.1
    rw [hx] at hy; injection hy with hy; rw [← hy]; exact wx
  · rcases h.2.2.2.2.2.2.2.2.2 with ⟨_, x, hx, wx⟩ | ⟨_, hx⟩
    · rw [hx] at hy; injection hy with hy; rw [← hy]; exact wx
    · rw [hx] at hy; cases hy
  · rcases h.2.2.2.2 with ⟨_, ⟨x, hx, wx⟩, _⟩ | ⟨_, hx, _⟩
    · rw [hx] at hy; injection hy with hy; rw [← hy]; exact wx
    · rw [hx] at hy; cases hy
theorem rw_len (r : Nat) : (rw_ r).length ≤ 5 := by
  unfold rw_
  split
  · decide
  · split <;> decide
theorem paT_len {d : D} (h : WD d) (h4 : d.kd ≠ 4) : (paT d).length ≤ 70 + 40 * szO d.ct := by
  have h1 := kw_len h h4
  have h2 := (wd_nm h h4).2.2.1
  have h3 := txO_len (wd_wx h)
  have h5 : (mnT d).length ≤ 2 + (txO d.ct).length := by
    unfold mnT
    split
    · simp only [List.length_append, List.length_cons, List.length_nil]; omega
    · exact Nat.zero_le _
  have h6 : (ruT d).length ≤ 40 := by
    unfold ruT
    by_cases hr : d.ru = 0 ∨ 4 ≤ d.ru
    · rw [if_pos hr]; exact Nat.zero_le _
    · rw [if_neg hr]
      obtain ⟨wr, _⟩ := ru_wr h (fun e => hr (Or.inl e))
      have f1 : d.f1.length ≤ 12 ∧ d.l1.length ≤ 12 := by
        rcases wr with w | w | w
        · exact absurd (Or.inl w.1) hr
        · exact ⟨w.2.1.2.2.1, by rw [w.2.2]; exact Nat.zero_le _⟩
        · exact ⟨w.2.1.2.2.1, w.2.2.2.2.1⟩
      have r5 := rw_len d.ru
      split <;> simp only [List.length_append, List.length_cons, List.length_nil] <;> omega
  unfold paT
  simp only [List.length_append, List.length_cons, List.length_nil]
  omega
theorem itx_len (l : Its) : ∀ (k : Nat) (pad : List UInt8), WI k l → pad.length + 2 * k ≤ 16 → (itx pad l).length ≤ 100 * zI l := by
  induction l with
  | nil => intro k pad _ _; exact Nat.zero_le _
  | cons d s t is it =>
    intro k pad hw hp
    obtain ⟨w1, w2, w3, w4⟩ := hw
    have ht := it k pad w4 hp
    rw [itx, zI]
    by_cases h4 : d.kd = 4
    · obtain ⟨g1, g2, g3⟩ := w3 h4
      have hs := is (k - 1) (pad ++ [32, 32]) g3 (by simp; omega)
      have h3 := txO_len (wd_wx w1)
      rw [if_pos h4]
      simp only [List.length_append, List.length_cons, List.length_nil]
      rw [show wWhen.length = 4 from rfl]
      omega
    · rw [if_neg h4]
      have h3 := paT_len w1 h4
      simp only [List.length_append, List.length_cons, List.length_nil]
      omega
theorem ptxt_len (l : List Ty) (h : ∀ t ∈ l, NM t.nm ∧ t.l.len ≤ 16 ∧ WI 7 t.l) : (ptxt l).length ≤ 100 * zT l := by
  induction l with
  | nil => exact Nat.zero_le _
  | cons t l ih =>
    have k1 := ih (fun u hu => h u (by simp [hu]))
    obtain ⟨n1, n2, n3⟩ := h t (by simp)
    have k2 := itx_len t.l 7 [] n3 (by decide)
    have k3 := n1.2.2.1
    unfold ptxt at k1 ⊢
    unfold zT at k1 ⊢
    rw [List.flatMap_cons, List.length_append, List.map_cons, List.sum_cons]
    have k4 : (tyx t).length = 6 + 1 + t.nm.length + 3 + (itx [] t.l).length + 2 := by
      unfold tyx
      simp only [List.length_append, List.length_cons, List.length_nil]
      rw [show wStruct.length = 6 from rfl]
    omega
theorem zT_mem {l : List Ty} {t : Ty} (h : t ∈ l) : zI t.l ≤ zT l := by
  induction l with
  | nil => cases h
  | cons u l ih =>
    unfold zT at ih ⊢
    rw [List.map_cons, List.sum_cons]
    rw [List.mem_cons] at h
    rcases h with rfl | h
    · omega
    · have := ih h; omega
theorem ch_at {s : List UInt8} {l : List Tk} : ∀ {p : Nat}, Ch s p l → ∀ t ∈ l, t.a ≤ s.length := by
  induction l with
  | nil => intro p h t ht; cases ht
  | cons u r ih =>
    intro p h t ht
    obtain ⟨h1, h2, _, _, h5⟩ := (show p ≤ u.a ∧ u.a + u.t.length ≤ s.length ∧ _ ∧ _ ∧ Ch s (u.a + u.t.length) r from h)
    rw [List.mem_cons] at ht
    rcases ht with rfl | ht
    · omega
    · exact ih h5 t ht
theorem ch_is {s : List UInt8} {l : List Tk} : ∀ {p : Nat}, Ch s p l → ∀ t ∈ l, IsT t.t := by
  induction l with
  | nil => intro p h t ht; cases ht
  | cons u r ih =>
    intro p h t ht
    obtain ⟨_, _, _, h4, h5⟩ := (show p ≤ u.a ∧ u.a + u.t.length ≤ s.length ∧ (s.drop u.a).take u.t.length = u.t ∧ IsT u.t ∧ Ch s (u.a + u.t.length) r from h)
    rw [List.mem_cons] at ht
    rcases ht with rfl | ht
    · exact h4
    · exact ih h5 t ht
/-- What Parse tells of a text that is not too long. -/
theorem prT_told {s : List UInt8} {l : List Ty} (h : prT s = .ok l) (hs : s.length ≤ 3000) : CI l ∧ WT l ∧ (ptxt l).length ≤ 300000 ∧ l.length ≤ 8 := by
  unfold prT at h
  split at h
  · cases h
  · rename_i h0
    have hch := lx_ch s _ 0 (Nat.le_refl _) (Nat.zero_le _)
    rw [List.drop_zero] at hch
    have hln := lx_len s _ 0 (Nat.le_refl _)
    have hT : TS (lx s 0).1 := ch_is hch
    have hP : TP s.length (lx s 0).1 := ⟨by omega, fun t ht => by have := ch_at hch t ht; omega⟩
    obtain ⟨g1, g2⟩ := typs_told 8 _ _ hT h
    obtain ⟨k1, k2⟩ := typs_len 8 _ _ hT hP h
    have hw : WT l := ⟨g1, g2⟩
    have hp := ptxt_len l g2
    refine ⟨⟨hw, fun t ht => ⟨(k2 t ht).1, (k2 t ht).2, ?_⟩⟩, hw, by omega, g1⟩
    have h1 := tot_le t.l
    have h2 := zT_mem ht
    omega
end Go.Proofs.YtpanodaecjlgaaaGreatDoor.tm
