/- Texts laid together: Tc3, BlA, BlB, BlC, BlE. -/
import Derived.Test.YtococaecjecjgaaGreatDoorXLayoutReads33
import Derived.Test.YtococaecjecjgaaGreatDoorXLayoutReads24
import Derived.Maps.OwnSet
import Derived.Deep.RegionHeld3
namespace Go.Proofs.YtococaecjecjgaaGreatDoor.tc
set_option linter.unusedVariables false
open Go.ChangeShapes Go.WideShapes Go.ChangeAt Go.RowKit Go.Shelf Go.Maps
open mem lx ex tm

theorem under_isC {ds : List D} {j k : Nat} (h : k ∈ under ds j) : isC ds k = true := by
  unfold under at h
  split at h
  · cases h
  · split at h
    · exact (List.mem_filter.1 h).2
    · cases h
theorem lawI : Keyed Tryz.prog 3 := int_keyed Tryz.underlying3
def keyI (n : Nat) : Lit := .int .i64 (n : Int)
theorem keyI_of {n : Nat} (h : n ≤ 9000) : keyOf Tryz.prog 3 (.int .i64 (n : Int)) = some (keyI n) := keyOf_int_mk Tryz.underlying3 (WalkArith.wf_i64 (by omega))
theorem isKeyI (z : Nat) : WideAt.IsKeyLit (keyI z) := trivial
theorem keyI_inj {a b : Nat} (h : a ≠ b) : keyI a ≠ keyI b := fun e => h (by unfold keyI at e; injection e with _ e; omega)
theorem zero_bool (w : World) : (zeroValue 4).run Tryz.prog w = .ok (.bool false) w := by kernel_rfl
theorem plainElem_bool_inv {P : Program} {e : TypeId} (he : P.underlying e = some .bool) {v : Value} {z : DataW Unit × List MemPlace} (h : plainElem P e v = some z) : ∃ x, v = .bool x ∧ z = (.lit (.bool x), []) := by
  unfold plainElem at h
  rw [he] at h
  cases v <;> simp at h
  exact ⟨_, rfl, h.symm⟩
theorem lit_bool {a b : Bool} (h : (DataW.lit (Lit.bool a) : DataW Unit) = .lit (.bool b)) : a = b := by
  injection h with h
  injection h
theorem hbool : Tryz.prog.underlying 4 = some .bool := Tryz.underlying4
def Mq (w : World) (M n : Nat) (met : List Nat) : Prop :=
  n ≤ 9000 ∧ ∃ (D : DataW Unit) (c : Nat), c ≤ met.length ∧ w.ownsMap Tryz.prog 3 (plainElem Tryz.prog 4) M c D ∧ ∀ k : Nat, D.atKey (keyI k) (.lit (.bool false)) = .lit (.bool (decide (k ∈ met)))
theorem Mq.made (w : World) (n : Nat) (hn : n ≤ 9000) : Mq (w.alloc (.map #[] 0)) w.heap.size n [] :=
  ⟨hn, _, 0, Nat.le_refl _, World.ownsMap_made w Tryz.prog 3 _, fun c => by simp; rfl⟩
theorem Mq.grown {w w' : World} {M n : Nat} {met : List Nat} {row : Option Nat} (h : Mq w M n met) (hg : w.grownBy w' row) (hne : row ≠ some M) : Mq w' M n met := by
  obtain ⟨hn, D, c, hc, h1, h2⟩ := h
  exact ⟨hn, D, c, hc, h1.kept hg (fun e => hne e.symm), h2⟩
theorem Mq.bl {w w' : World} {M n : Nat} {met : List Nat} (h : Mq w M n met) (hb : Bl w w') : Mq w' M n met :=
  h.grown (row := none) ⟨hb.os, hb.tape, hb.output, hb.size, fun k hk _ => Below.block hb k hk⟩ (by simp)
theorem Mq.lt {w : World} {M n : Nat} {met : List Nat} (h : Mq w M n met) : M < w.heap.size := by
  obtain ⟨hn, D, c, hc, h1, h2⟩ := h
  obtain ⟨es, clock, hb, _⟩ := h1
  exact lt_of_heap hb
theorem Mq.look {w : World} {M n : Nat} {met : List Nat} (h : Mq w M n met) (k : Nat) (hk : k < n) : (Instr.lookup 197 (.map (some M)) (.int .i64 (k : Int)) false).run Tryz.prog w = .ok (.bool (decide (k ∈ met))) w := by
  obtain ⟨hn, D, c, hc, h1, h2⟩ := h
  obtain ⟨v, ps, hrun, hv⟩ := h1.lookup lawI Tryz.underlying197 (zero_bool w) (plainElem_bool Tryz.underlying4 false) (keyI_of (n := k) (by omega))
  rw [h2 k] at hv
  have e : v = .bool (decide (k ∈ met)) := by
    obtain ⟨x, e1, e2⟩ := plainElem_bool_inv hbool hv
    have e3 := congrArg Prod.fst e2
    have e4 : (DataW.lit (Lit.bool (decide (k ∈ met))) : DataW Unit) = .lit (.bool x) := e3
    rw [e1]
    exact congrArg Value.bool (lit_bool e4).symm
  rw [hrun, e]
theorem Mq.put {w : World} {M n : Nat} {met : List Nat} (h : Mq w M n met) (j : Nat) (hm : met.length ≤ 20000) (hj : j ≤ 9000) : ∃ w', (Instr.mapUpdate 197 (.map (some M)) (.int .i64 (j : Int)) (.bool true)).run Tryz.prog w = .ok () w' ∧ Mq w' M n (j :: met) ∧ w.grownBy w' (some M) := by
  obtain ⟨hn, D, c, hc, h1, h2⟩ := h
  obtain ⟨w', hr, ho, hg⟩ := h1.update lawI Tryz.underlying197 (by unfold maxLen; omega) (keyI_of hj) (plainElem_bool Tryz.underlying4 true)
  refine ⟨w', hr, ⟨hn, _, c + 1, by simp; omega, ho, fun d => ?_⟩, hg⟩
  by_cases e : d = j
  · subst e
    rw [atKey_put_same h1.isMap (isKeyI d)]
    simp
  · rw [atKey_put_other (keyI_inj e), h2 d]
    simp [e]
open Classical in
noncomputable def cntQ (w : World) (M n : Nat) : Nat := ((List.range n).filter (fun k : Nat => decide ((Instr.lookup 197 (.map (some M)) (.int .i64 (k : Int)) false).run Tryz.prog w = .ok (.bool false) w))).length
theorem cntQ_is {w : World} {M n : Nat} {met : List Nat} (h : Mq w M n met) : cntQ w M n = unm n met := by
  unfold cntQ unm
  congr 1
  apply List.filter_congr
  intro k hk
  rw [h.look k (List.mem_range.1 hk)]
  by_cases hm : k ∈ met
  · simp [hm]
  · simp [hm]
structure Rq (w wr : World) (ds : List D) (i M n : Nat) (p : Option Addr) (c : Nat) (met todo : List Nat) : Prop where
  bl : Bl w wr
  q : qi.Q wr w.heap.size (.slice p todo.length c) (ints todo)
  mt : Mq wr M n met
  ne : ∀ k, (Value.slice p todo.length c).ownBlock = some k → k ≠ M
  isc : ∀ j ∈ todo, isC ds j = true
  is : rnd ds i = bR ds i met todo
  len : mu ds met todo + met.length ≤ 20000
theorem Rq.lt {w wr : World} {ds : List D} {i M n : Nat} {p : Option Addr} {c : Nat} {met todo : List Nat} (h : Rq w wr ds i M n p c met todo) : ∀ j ∈ todo, j < ds.length := fun j hj => isC_lt (h.isc j hj)
set_option maxRecDepth 10000 in
set_option maxHeartbeats 4000000 in
theorem comes_at (x : C) (i : Nat) (cs : List C) (ok : Nat → Prop) (p : Option Addr) (n c : Nat) (w : World) (hin : ir.Lie w ok p n c cs) (hn : n ≤ 100) (hx : cs[i]? = some x) (hO : Okr cs) (hr3 : x.d.ru = 3) :
    Calls Tryz.prog 78 #[.slice p n c, .int .i64 (i : Int), .int .i64 (i : Int)] w fun e w' => e = .returned (.bool (rnd (cs.map C.d) i)) ∧ Bl w w' := by
  have hmm : ∀ w, (Instr.makeMap 197 none).run Tryz.prog w = .ok (.map (some w.heap.size)) (w.alloc (.map #[] 0)) := fun w => by kernel_rfl
  obtain ⟨w1, hw1⟩ : ∃ w1, w1 = w.alloc (.map #[] 0) := ⟨_, rfl⟩
  obtain ⟨M, hM⟩ : ∃ M, M = w.heap.size := ⟨_, rfl⟩
  have hb1 : Bl w w1 := by rw [hw1]; exact (Bl.refl _).alloc _
  have hm1 : Mq w1 M n [] := by rw [hw1, hM]; exact Mq.made w n (by omega)
  have cU := covers_at x i cs ok p n c w1 (lie_bl hin hb1) (by omega) hx hO hr3
  have hnc := hin.1
  have HO : Hid (Okr cs) := hO
  have H1 : Hid (Bl w w1 ∧ Mq w1 M n [] ∧ M = w.heap.size ∧ ir.Lie w ok p n c cs ∧ n = (cs.map C.d).length ∧ i < n) := ⟨hb1, hm1, hM, hin, by rw [List.length_map]; exact hnc, by rw [hnc]; exact (List.getElem?_eq_some_iff.1 hx).1⟩
  clear hb1 hm1 hin hnc hx hO hr3
  go_enter Tryz.func78, Tryz.ntmps78
  go_wp2_with fail
  rw [← hw1]
  refine cU.mono ?_
  rintro e w2 ⟨v, rfl, hb2, ho2⟩
  rw [← hM]
  obtain ⟨p0, c0, rfl, hc0, _⟩ := (qi.Q.of ho2).shape
  rw [ints_len] at hc0
  have H2 : Hid (Rq w w2 (cs.map C.d) i M n p0 c0 [] (under (cs.map C.d) i)) := by
    have hq : qi.Q w2 w1.heap.size (.slice p0 (under (cs.map C.d) i).length c0) (ints (under (cs.map C.d) i)) := by
      have := qi.Q.of ho2
      rw [ints_len] at this
      exact this
    have hw1s : w.heap.size < w1.heap.size := by have := H1.out.2.1.lt; have := H1.out.2.2.1; omega
    refine ⟨H1.out.1.trans hb2, ?_, H1.out.2.1.bl hb2, fun k hk => ?_, fun j hj => under_isC hj, rnd_is _ _, ?_⟩
    · rcases hq with h | ⟨g, off, cap, h0, h1, h2⟩
      · exact Or.inl h
      · exact Or.inr ⟨g, off, cap, h0, by omega, h2⟩
    · have h1 := (hq.block k hk).1
      have h2 := H1.out.2.2.1
      omega
    · have h1 := under_len (cs.map C.d) i
      have h2 := unm_le (cs.map C.d).length []
      have h3 := H1.out.2.2.2.2.1
      have h4 : unm (cs.map C.d).length [] * ((cs.map C.d).length + 1) ≤ 100 * 101 := Nat.mul_le_mul (by omega) (by omega)
      unfold mu
      simp only [List.length_nil]
      omega
  rw [ints_len]
  clear cU hw1 hM ho2 hb2
  go_wp2
  go_loopw [8] (fun v wr => ∃ (met todo : List Nat) (p1 : Option Addr) (c1 : Nat), v = .slice p1 todo.length c1 ∧ todo.length ≤ c1 ∧ Hid (Rq w wr (cs.map C.d) i M n p1 c1 met todo)) (fun v wr => lnV v + cntQ wr M n * (n + 1))
  case atStart => exact ⟨[], _, p0, c0, rfl, hc0, H2.out⟩
  case round =>
    clear H2
    obtain ⟨met, todo, p1, c1, rfl, hc1, HR⟩ := hrel
    cases todo with
    | nil =>
      have HX : Hid (rnd (cs.map C.d) i = false ∧ Bl w wr) := ⟨by rw [HR.out.is]; exact bR_nil _ _ _, HR.out.bl⟩
      rw [show ([] : List Nat).length = 0 from rfl]
      go_wp2
      rw [HX.out.1]
      go_ret
      exact ⟨rfl, HX.out.2⟩
    | cons j r =>
      have hq0 : qi.Q wr w.heap.size (.slice p1 (j :: r).length c1) ((j : Int) :: ints r) := HR.out.q
      obtain ⟨X, rfl, _, hc2, q0, hq'⟩ := hq0.head
      rw [ints_len] at hq'
      have hjn : j < n := by have := HR.out.lt j (by simp); have := H1.out.2.2.2.2.1; omega
      have hds := H1.out.2.2.2.2.1
      obtain ⟨m, hm⟩ : ∃ m, m = r.length := ⟨_, rfl⟩
      have hlr : (j :: r).length = m + 1 := by rw [hm]; simp
      rw [hlr] at hc1 ⊢
      have j0 : (0 : Int) ≤ (j : Int) := by omega
      have j1 : (j : Int) < (n : Int) := by omega
      have hcm := (hq0.shape)
      have m1 : (1 : Int) ≤ ((m + 1 : Nat) : Int) := by omega
      have hgt : (0 : Int) < ((m + 1 : Nat) : Int) := by omega
      rw [← hm] at hq'
      obtain ⟨p2, hp2⟩ : ∃ p2, p2 = (if c1 = 1 then some X else some (⟨X.block, X.off + 1, none⟩ : Addr)) := ⟨_, rfl⟩
      rw [← hp2] at hq'
      have hne2 : ∀ k, (Value.slice p2 m (c1 - 1)).ownBlock = some k → k ≠ M := by
        intro k hk
        refine HR.out.ne k ?_
        rw [hp2] at hk
        split at hk
        · exact hk
        · exact hk
      rcases Nat.decEq c1 1 with hcc | hcc
      · obtain rfl : p2 = some (⟨X.block, X.off + 1, none⟩ : Addr) := by rw [hp2, if_neg hcc]
        clear hp2
        have hX0 : X.add 0 = X := Addr.add_zero' X
        have g1 := HR.out.mt.look j hjn
        have HQ : Hid (qi.Q wr w.heap.size (.slice (some (⟨X.block, X.off + 1, none⟩ : Addr)) m (c1 - 1)) (ints r) ∧ (∀ k, (Value.slice (some (⟨X.block, X.off + 1, none⟩ : Addr)) m (c1 - 1)).ownBlock = some k → k ≠ M) ∧ m = r.length ∧ n = (cs.map C.d).length) := ⟨hq', hne2, hm, hds⟩
        have hMs := HR.out.mt.lt
        clear hq' hne2 hq0 hcm hlr hm hds
        by_cases hji : j = i
        · have HX : Hid (rnd (cs.map C.d) i = true ∧ Bl w wr) := ⟨by rw [HR.out.is, hji]; exact bR_hit _ _ _ _, HR.out.bl⟩
          subst hji
          clear HQ HR g1
          go_wp2
          rw [HX.out.1]
          go_ret
          exact ⟨rfl, HX.out.2⟩
        · have hji' : ¬ ((j : Int) = (i : Int)) := by omega
          by_cases hmt : j ∈ met
          · rw [decide_eq_true hmt] at g1
            have H9 : Hid (Rq w wr (cs.map C.d) i M n (some (⟨X.block, X.off + 1, none⟩ : Addr)) ((c1 - 1)) met r ∧ m = r.length) := by
              refine ⟨⟨HR.out.bl, by rw [← HQ.out.2.2.1]; exact HQ.out.1, HR.out.mt, by rw [← HQ.out.2.2.1]; exact HQ.out.2.1, fun k hk => HR.out.isc k (by simp [hk]), ?_, ?_⟩, HQ.out.2.2.1⟩
              · rw [HR.out.is]; exact bR_met _ _ _ _ _ hji hmt HR.out.lt
              · have := HR.out.len
                unfold mu at this ⊢
                rw [List.length_cons] at this
                omega
            clear hmt HQ HR
            go_wp2
            go_roundw
            case rel => exact ⟨met, r, _, _, by rw [← H9.out.2], by rw [← H9.out.2]; omega, H9.out.1⟩
            case measure => simp [lnV]
          · rw [decide_eq_false hmt] at g1
            have hmu := mu_step (cs.map C.d) met r j (by rw [← HQ.out.2.2.2]; exact hjn) hmt
            have hcu := cntQ_is HR.out.mt
            obtain ⟨y, hy⟩ : ∃ y, cs[j]? = some y := ⟨_, List.getElem?_eq_getElem (by have := HQ.out.2.2.2; rw [List.length_map] at this; omega)⟩
            obtain ⟨w5, hw5, hm5, hg5⟩ := HR.out.mt.put j (by have := HR.out.len; omega) (by omega)
            have hyC : y.d.ru = 3 := by
              have h := HR.out.isc j (by simp)
              unfold isC at h
              rw [List.getElem?_map, hy] at h
              simpa using h
            have hb5 : Bl w w5 := bl_grown HR.out.bl hg5 (fun k hk => by injection hk with hk; have := H1.out.2.2.1; omega)
            have hq5 : qi.Q w5 w.heap.size (.slice (some (⟨X.block, X.off + 1, none⟩ : Addr)) m (c1 - 1)) (ints r) := by
              exact HQ.out.1.kept hg5 (fun k hk e => HQ.out.2.1 k hk (by injection e with e; exact e.symm))
            have cU := covers_at y j cs ok p n c w5 (lie_bl H1.out.2.2.2.1 hb5) (by omega) hy HO.out hyC
            have H5 : Hid (Bl w w5 ∧ Mq w5 M n (j :: met) ∧ qi.Q w5 w.heap.size (.slice (some (⟨X.block, X.off + 1, none⟩ : Addr)) m (c1 - 1)) (ints r) ∧ mu (cs.map C.d) (j :: met) (r ++ under (cs.map C.d) j) < mu (cs.map C.d) met (j :: r) ∧ j ∉ met ∧ cntQ wr M n = unm n met) := ⟨hb5, hm5, hq5, hmu, hmt, hcu⟩
            clear hb5 hm5 hq5 hmu hmt hy hcu hg5 hyC
            go_wp2_with fail
            refine cU.mono ?_
            rintro e w6 ⟨u, rfl, hb6, ho6⟩
            have hq6 := H5.out.2.2.1.bl hb6
            have hM5 := H5.out.2.1.lt
            obtain ⟨v7, w7, hr7, hq7, hg7, hv7⟩ := qi.Q.app hq6 ho6 (by rw [ints_len, ints_len]; have h1 := HR.out.len; have h2 := H5.out.2.2.2.1; unfold mu at h1 h2; rw [List.length_append] at h2; omega) (Nat.le_trans H5.out.1.size hb6.size)
            obtain ⟨p7, c7, rfl, hc7, _⟩ := hq7.shape
            have H7 : Hid (Rq w w7 (cs.map C.d) i M n p7 c7 (j :: met) (r ++ under (cs.map C.d) j) ∧ (ints r ++ ints (under (cs.map C.d) j)).length = (r ++ under (cs.map C.d) j).length) := by
              have el : (ints r ++ ints (under (cs.map C.d) j)).length = (r ++ under (cs.map C.d) j).length := by simp [ints]
              refine ⟨⟨bl_grown (H5.out.1.trans hb6) hg7 (fun k hk => (H5.out.2.2.1.block k hk).1), ?_, ?_, ?_, ?_, ?_, ?_⟩, el⟩
              · rw [← el]
                have := hq7
                rw [show ints r ++ ints (under (cs.map C.d) j) = ints (r ++ under (cs.map C.d) j) by simp [ints]] at this ⊢
                exact this
              · refine (H5.out.2.1.bl hb6).grown hg7 (fun e => ?_)
                exact HQ.out.2.1 M (by rw [← e]) rfl
              · intro k hk e
                rw [← el] at hk
                rcases hv7 with h | h
                · rw [h] at hk
                  exact HQ.out.2.1 k hk e
                · rw [h] at hk
                  injection hk with hk
                  have := hb6.size
                  omega
              · intro k hk
                rw [List.mem_append] at hk
                rcases hk with hk | hk
                · exact HR.out.isc k (by simp [hk])
                · exact under_isC hk
              · rw [HR.out.is]; exact bR_new _ _ _ _ _ hji H5.out.2.2.2.2.1 HR.out.lt
              · have h1 := HR.out.len
                have h2 := H5.out.2.2.2.1
                have h3 : (j :: met).length = met.length + 1 := rfl
                omega
            have HR7 : Hid _ := hr7
            have HC : Hid ((ints r ++ ints (under (cs.map C.d) j)).length ≤ c7) := hc7
            clear hr7 hq7 hg7 hv7 hq6 hb6 ho6 hc7 cU
            go_wp2_with (at_builtin; refine Lib.wpList_append_run _ rfl (.tmp 31) (.tmp 34) _ _ rfl _ _ rfl rfl _ _ HR7.out ?_)
            go_roundw
            case rel => exact ⟨j :: met, r ++ under (cs.map C.d) j, p7, c7, by rw [← H7.out.2, List.length_append], by rw [← H7.out.2]; exact HC.out, H7.out.1⟩
            case measure =>
              have h1 := H5.out.2.2.2.1
              have h2 := cntQ_is H7.out.1.mt
              have h3 := H5.out.2.2.2.2.2
              have h4 := HQ.out.2.2.1
              have h5 := HQ.out.2.2.2
              unfold mu at h1
              rw [← h5, ← h2, ← h3, List.length_cons, ← H7.out.2] at h1
              simp [lnV] at h1 ⊢
              omega
      · obtain rfl : p2 = some X := by rw [hp2, if_pos hcc]
        subst hcc
        obtain rfl : m = 0 := by omega
        clear hp2
        have hX0 : X.add 0 = X := Addr.add_zero' X
        have g1 := HR.out.mt.look j hjn
        have HQ : Hid (qi.Q wr w.heap.size (.slice (some X) 0 0) (ints r) ∧ (∀ k, (Value.slice (some X) 0 0).ownBlock = some k → k ≠ M) ∧ 0 = r.length ∧ n = (cs.map C.d).length) := ⟨hq', hne2, hm, hds⟩
        have hMs := HR.out.mt.lt
        clear hq' hne2 hq0 hcm hlr hm hds
        by_cases hji : j = i
        · have HX : Hid (rnd (cs.map C.d) i = true ∧ Bl w wr) := ⟨by rw [HR.out.is, hji]; exact bR_hit _ _ _ _, HR.out.bl⟩
          subst hji
          clear HQ HR g1
          go_wp2
          rw [HX.out.1]
          go_ret
          exact ⟨rfl, HX.out.2⟩
        · have hji' : ¬ ((j : Int) = (i : Int)) := by omega
          by_cases hmt : j ∈ met
          · rw [decide_eq_true hmt] at g1
            have H9 : Hid (Rq w wr (cs.map C.d) i M n (some X) (0) met r ∧ 0 = r.length) := by
              refine ⟨⟨HR.out.bl, by rw [← HQ.out.2.2.1]; exact HQ.out.1, HR.out.mt, by rw [← HQ.out.2.2.1]; exact HQ.out.2.1, fun k hk => HR.out.isc k (by simp [hk]), ?_, ?_⟩, HQ.out.2.2.1⟩
              · rw [HR.out.is]; exact bR_met _ _ _ _ _ hji hmt HR.out.lt
              · have := HR.out.len
                unfold mu at this ⊢
                rw [List.length_cons] at this
                omega
            clear hmt HQ HR
            go_wp2
            go_roundw
            case rel => exact ⟨met, r, _, _, by rw [← H9.out.2], by rw [← H9.out.2]; omega, H9.out.1⟩
            case measure => simp [lnV]
          · rw [decide_eq_false hmt] at g1
            have hmu := mu_step (cs.map C.d) met r j (by rw [← HQ.out.2.2.2]; exact hjn) hmt
            have hcu := cntQ_is HR.out.mt
            obtain ⟨y, hy⟩ : ∃ y, cs[j]? = some y := ⟨_, List.getElem?_eq_getElem (by have := HQ.out.2.2.2; rw [List.length_map] at this; omega)⟩
            obtain ⟨w5, hw5, hm5, hg5⟩ := HR.out.mt.put j (by have := HR.out.len; omega) (by omega)
            have hyC : y.d.ru = 3 := by
              have h := HR.out.isc j (by simp)
              unfold isC at h
              rw [List.getElem?_map, hy] at h
              simpa using h
            have hb5 : Bl w w5 := bl_grown HR.out.bl hg5 (fun k hk => by injection hk with hk; have := H1.out.2.2.1; omega)
            have hq5 : qi.Q w5 w.heap.size (.slice (some X) 0 0) (ints r) := by
              exact HQ.out.1.kept hg5 (fun k hk e => HQ.out.2.1 k hk (by injection e with e; exact e.symm))
            have cU := covers_at y j cs ok p n c w5 (lie_bl H1.out.2.2.2.1 hb5) (by omega) hy HO.out hyC
            have H5 : Hid (Bl w w5 ∧ Mq w5 M n (j :: met) ∧ qi.Q w5 w.heap.size (.slice (some X) 0 0) (ints r) ∧ mu (cs.map C.d) (j :: met) (r ++ under (cs.map C.d) j) < mu (cs.map C.d) met (j :: r) ∧ j ∉ met ∧ cntQ wr M n = unm n met) := ⟨hb5, hm5, hq5, hmu, hmt, hcu⟩
            clear hb5 hm5 hq5 hmu hmt hy hcu hg5 hyC
            go_wp2_with fail
            refine cU.mono ?_
            rintro e w6 ⟨u, rfl, hb6, ho6⟩
            have hq6 := H5.out.2.2.1.bl hb6
            have hM5 := H5.out.2.1.lt
            obtain ⟨v7, w7, hr7, hq7, hg7, hv7⟩ := qi.Q.app hq6 ho6 (by rw [ints_len, ints_len]; have h1 := HR.out.len; have h2 := H5.out.2.2.2.1; unfold mu at h1 h2; rw [List.length_append] at h2; omega) (Nat.le_trans H5.out.1.size hb6.size)
            obtain ⟨p7, c7, rfl, hc7, _⟩ := hq7.shape
            have H7 : Hid (Rq w w7 (cs.map C.d) i M n p7 c7 (j :: met) (r ++ under (cs.map C.d) j) ∧ (ints r ++ ints (under (cs.map C.d) j)).length = (r ++ under (cs.map C.d) j).length) := by
              have el : (ints r ++ ints (under (cs.map C.d) j)).length = (r ++ under (cs.map C.d) j).length := by simp [ints]
              refine ⟨⟨bl_grown (H5.out.1.trans hb6) hg7 (fun k hk => (H5.out.2.2.1.block k hk).1), ?_, ?_, ?_, ?_, ?_, ?_⟩, el⟩
              · rw [← el]
                have := hq7
                rw [show ints r ++ ints (under (cs.map C.d) j) = ints (r ++ under (cs.map C.d) j) by simp [ints]] at this ⊢
                exact this
              · refine (H5.out.2.1.bl hb6).grown hg7 (fun e => ?_)
                exact HQ.out.2.1 M (by rw [← e]) rfl
              · intro k hk e
                rw [← el] at hk
                rcases hv7 with h | h
                · rw [h] at hk
                  exact HQ.out.2.1 k hk e
                · rw [h] at hk
                  injection hk with hk
                  have := hb6.size
                  omega
              · intro k hk
                rw [List.mem_append] at hk
                rcases hk with hk | hk
                · exact HR.out.isc k (by simp [hk])
                · exact under_isC hk
              · rw [HR.out.is]; exact bR_new _ _ _ _ _ hji H5.out.2.2.2.2.1 HR.out.lt
              · have h1 := HR.out.len
                have h2 := H5.out.2.2.2.1
                have h3 : (j :: met).length = met.length + 1 := rfl
                omega
            have HR7 : Hid _ := hr7
            have HC : Hid ((ints r ++ ints (under (cs.map C.d) j)).length ≤ c7) := hc7
            clear hr7 hq7 hg7 hv7 hq6 hb6 ho6 hc7 cU
            go_wp2_with (at_builtin; refine Lib.wpList_append_run _ rfl (.tmp 31) (.tmp 34) _ _ rfl _ _ rfl rfl _ _ HR7.out ?_)
            go_roundw
            case rel => exact ⟨j :: met, r ++ under (cs.map C.d) j, p7, c7, by rw [← H7.out.2, List.length_append], by rw [← H7.out.2]; exact HC.out, H7.out.1⟩
            case measure =>
              have h1 := H5.out.2.2.2.1
              have h2 := cntQ_is H7.out.1.mt
              have h3 := H5.out.2.2.2.2.2
              have h4 := HQ.out.2.2.1
              have h5 := HQ.out.2.2.2
              unfold mu at h1
              rw [← h5, ← h2, ← h3, List.length_cons, ← H7.out.2] at h1
              simp [lnV] at h1 ⊢
              omega
end Go.Proofs.YtococaecjecjgaaGreatDoor.tc
namespace Go.Proofs.YtococaecjecjgaaGreatDoor.tc
set_option linter.unusedVariables false
open Go.ChangeShapes Go.WideShapes Go.ChangeAt Go.RowKit Go.Shelf Go.Maps
open mem lx ex tm

def SetB (w : World) (b : Nat) (S : List (List UInt8)) (k : Nat) : Prop :=
  ∃ (D : DataW Unit) (c : Nat), c ≤ k ∧ w.ownsMap Tryz.prog 9 (plainElem Tryz.prog 4) b c D ∧ ∀ y : List UInt8, y.length ≤ 5000 → D.atKey (skey y) (.lit (.bool false)) = .lit (.bool (decide (y ∈ S)))
theorem SetB.made (w : World) : SetB (w.alloc (.map #[] 0)) w.heap.size [] 0 :=
  ⟨_, 0, Nat.le_refl _, World.ownsMap_made w Tryz.prog 9 _, fun c _ => by simp; rfl⟩
theorem SetB.step {w w' : World} {b k : Nat} {S : List (List UInt8)} {row : Option Nat} (h : SetB w b S k) (hg : w.grownBy w' row) (hne : row ≠ some b) : SetB w' b S k := by
  obtain ⟨D, c, hc, h1, h2⟩ := h
  exact ⟨D, c, hc, h1.kept hg (fun e => hne e.symm), h2⟩
theorem SetB.bl {w w' : World} {b k : Nat} {S : List (List UInt8)} (h : SetB w b S k) (hb : Bl w w') : SetB w' b S k :=
  h.step (row := none) ⟨hb.os, hb.tape, hb.output, hb.size, fun k hk _ => Below.block hb k hk⟩ (by simp)
theorem gp_grown {P : Nat} {w w' : World} (h : Gp P w w') : w.grownBy w' (some P) := ⟨h.os, h.tape, h.output, h.size, fun k hk hne => h.block k hk (fun e => hne (by rw [e]))⟩
theorem grown_gp {P : Nat} {w w' : World} (h : w.grownBy w' (some P)) : Gp P w w' := ⟨h.os, h.tape, h.output, h.size, fun k hk hne => h.block k hk (fun e => hne (by injection e))⟩
theorem SetB.gp {w w' : World} {b k P : Nat} {S : List (List UInt8)} (h : SetB w b S k) (hg : Gp P w w') (hne : b ≠ P) : SetB w' b S k := h.step (gp_grown hg) (fun e => hne (by injection e with e; exact e.symm))
theorem SetB.mono {w : World} {b k k' : Nat} {S : List (List UInt8)} (h : SetB w b S k) (hk : k ≤ k') : SetB w b S k' := by
  obtain ⟨D, c, hc, h1, h2⟩ := h
  exact ⟨D, c, by omega, h1, h2⟩
theorem SetB.block {w : World} {b k : Nat} {S : List (List UInt8)} (h : SetB w b S k) : ∃ es clock, w.heap[b]? = some (.map es clock) := by
  obtain ⟨D, c, hc, h1, h2⟩ := h
  obtain ⟨es, clock, hb, _⟩ := h1
  exact ⟨es, clock, hb⟩
theorem SetB.lt {w : World} {b k : Nat} {S : List (List UInt8)} (h : SetB w b S k) : b < w.heap.size := by
  obtain ⟨es, clock, hb⟩ := h.block
  exact lt_of_heap hb
theorem SetB.look {w : World} {b k : Nat} {S : List (List UInt8)} (h : SetB w b S k) (t : List UInt8) (ht : t.length ≤ 5000) : (Instr.lookup 98 (.map (some b)) (.string (tx t)) false).run Tryz.prog w = .ok (.bool (decide (t ∈ S))) w := by
  obtain ⟨D, c, hc, h1, h2⟩ := h
  obtain ⟨v, ps, hrun, hv⟩ := h1.lookup lawS Tryz.underlying98 (zero_bool w) (plainElem_bool Tryz.underlying4 false) (WideMaps.keyOf_string_mk Tryz.underlying9 (s := tx t) (by rw [tx_size]; unfold maxLen; omega))
  have e0 : (tx t).data.toList = t := L_tx _
  rw [e0] at hv
  have h2' : D.atKey (.string t) (.lit (.bool false)) = .lit (.bool (decide (t ∈ S))) := h2 t ht
  rw [h2'] at hv
  have e : v = .bool (decide (t ∈ S)) := by
    obtain ⟨x, e1, e2⟩ := plainElem_bool_inv hbool hv
    have e3 := congrArg Prod.fst e2
    have e4 : (DataW.lit (Lit.bool (decide (t ∈ S))) : DataW Unit) = .lit (.bool x) := e3
    rw [e1]
    exact congrArg Value.bool (lit_bool e4).symm
  rw [hrun, e]
theorem SetB.put {w : World} {b k : Nat} {S : List (List UInt8)} (h : SetB w b S k) (t : List UInt8) (ht : t.length ≤ 5000) (hk : k ≤ 5000) : ∃ w', (Instr.mapUpdate 98 (.map (some b)) (.string (tx t)) (.bool true)).run Tryz.prog w = .ok () w' ∧ SetB w' b (t :: S) (k + 1) ∧ w.grownBy w' (some b) := by
  obtain ⟨D, c, hc, h1, h2⟩ := h
  obtain ⟨w', hr, ho, hg⟩ := h1.update lawS Tryz.underlying98 (by unfold maxLen; omega) (WideMaps.keyOf_string_mk Tryz.underlying9 (s := tx t) (by rw [tx_size]; unfold maxLen; omega)) (plainElem_bool Tryz.underlying4 true)
  have e0 : (tx t).data.toList = t := L_tx _
  rw [e0] at ho
  refine ⟨w', hr, ⟨_, c + 1, by omega, ho, fun y hy => ?_⟩, hg⟩
  show (D.put (skey t) _).atKey (skey y) _ = _
  by_cases e : y = t
  · subst e
    rw [atKey_put_same h1.isMap (skey_is y)]
    simp
  · rw [atKey_put_other (skey_inj e), h2 y hy]
    simp [e]
/- A row of names. -/
def rowS (l : List (List UInt8)) : List Value := l.map (fun t => .string (tx t))
theorem rowS_len (l : List (List UInt8)) : (rowS l).length = l.length := by simp [rowS]
theorem rowS_app (a b : List (List UInt8)) : rowS (a ++ b) = rowS a ++ rowS b := by simp [rowS]
theorem rowS_get {l : List (List UInt8)} {k : Nat} {t : List UInt8} (h : l[k]? = some t) : (rowS l)[k]? = some (.string (tx t)) := by simp [rowS, h]
theorem infoS : (Tryz.prog.info? 9).map (fun i => (i.zero, i.size, i.bytes)) = some (some (.string ⟨#[]⟩), 1, 16) := by kernel_rfl
theorem infoS' : ∃ i, Tryz.prog.info? 9 = some i ∧ i.zero = some (.string ⟨#[]⟩) ∧ i.size = 1 ∧ i.bytes = 16 := by
  obtain ⟨i, h1, h2⟩ := Option.map_eq_some_iff.1 infoS
  simp only [Prod.mk.injEq] at h2
  exact ⟨i, h1, h2.1, h2.2.1, h2.2.2⟩
def Sn (w : World) (p : Option Addr) (l : List (List UInt8)) : Prop := (p = none ∧ l = []) ∨ ∃ (g : Nat) (cs : Array Value), p = some ⟨g, 0, none⟩ ∧ w.heap[g]? = some (.cells cs 9 (0, 0)) ∧ ∀ (k : Nat) (u : Value), (rowS l)[k]? = some u → cs[k]? = some u
theorem Sn.keep {w w' : World} {p : Option Addr} {l : List (List UInt8)} (h : Sn w p l) (hk : ∀ (g : Nat) (cs : Array Value), w.heap[g]? = some (.cells cs 9 (0, 0)) → w'.heap[g]? = some (.cells cs 9 (0, 0))) : Sn w' p l := by
  rcases h with h | ⟨g, cs, h1, h2, h3⟩
  · exact Or.inl h
  · exact Or.inr ⟨g, cs, h1, hk _ _ h2, h3⟩
theorem Sn.bl {w w' : World} {p : Option Addr} {l : List (List UInt8)} (h : Sn w p l) (hb : Bl w w') : Sn w' p l := h.keep (fun g cs hg => (Below.block hb g (lt_of_heap hg)).trans hg)
theorem Sn.gp {w w' : World} {p : Option Addr} {l : List (List UInt8)} {P k : Nat} {S : List (List UInt8)} (h : Sn w p l) (hg : Gp P w w') (hs : SetB w P S k) : Sn w' p l :=
  h.keep (fun g cs hc => (hg.block g (lt_of_heap hc) (fun e => by obtain ⟨es, clock, hb⟩ := hs.block; rw [← e, hc] at hb; cases hb)).trans hc)
theorem Kx.gpB {P k : Nat} {w w' : World} {S : List (List UInt8)} (h : Gp P w w') (hs : SetB w P S k) : Kx w w' := fun b cs hc =>
  (h.block b (lt_of_heap hc) (fun e => by obtain ⟨es, clock, hb⟩ := hs.block; rw [← e, hc] at hb; cases hb)).trans hc
theorem Sn.at {w : World} {p : Option Addr} {l : List (List UInt8)} (h : Sn w p l) {k : Nat} {t : List UInt8} (hk : l[k]? = some t) : ∃ g, p = some ⟨g, 0, none⟩ ∧ g < w.heap.size ∧ w.cell? ⟨g, k, none⟩ = some (.string (tx t)) := by
  rcases h with ⟨_, rfl⟩ | ⟨g, cs, h1, h2, h3⟩
  · cases hk
  · refine ⟨g, h1, lt_of_heap h2, ?_⟩
    rw [cell_of h2]
    exact h3 k _ (rowS_get hk)
theorem Sn.app {w : World} {p : Option Addr} {l : List (List UInt8)} (h : Sn w p l) (X : Nat) (z : List UInt8) (hX : w.cell? ⟨X, 0, none⟩ = some (.string (tx z))) (hn : l.length ≤ 5000) :
    ∃ g c w', (Builtin.append_ #[148, 148] 148 #[.slice p l.length l.length, .slice (some ⟨X, 0, none⟩) 1 1]).run Tryz.prog w = .ok (.slice (some ⟨g, 0, none⟩) (l.length + 1) c) w' ∧ l.length + 1 ≤ c ∧ Sn w' (some ⟨g, 0, none⟩) (l ++ [z]) ∧ Bl w w' := by
  obtain ⟨i, hi, hz, h1, h2⟩ := infoS'
  have hs : Src Tryz.prog i.size 148 (.slice (some ⟨X, 0, none⟩) 1 1) 1 [Value.string (tx z)] w := by
    rw [h1]
    refine Src.ofSlice w Tryz.underlying148 _ _ _ _ rfl (fun j x hx => ?_) (fun x hx => ?_)
    · cases j with
      | zero => simp at hx; subst hx; simpa [Addr.add] using hX
      | succ j => simp at hx
    · simp at hx; subst hx; rfl
  have hold : (Builtin.firstCells i.size l.length (.slice p l.length l.length)).run Tryz.prog w.drew = .ok (rowS l).toArray w.drew := by
    rw [h1]
    rcases h with ⟨rfl, rfl⟩ | ⟨g, cs, rfl, g2, g3⟩
    · exact run_firstCells_none w.drew 1 0 0 0
    · exact run_firstCells_some w.drew 1 l.length ⟨g, 0, none⟩ l.length l.length (rowS l) (by rw [rowS_len, Nat.mul_one]) (fun j x hx => by
        have := cell_of g2 (j := j)
        rw [Addr.add_lit, Nat.zero_add, World.cell?_drew, this]
        exact g3 j x hx)
  have hrun := run_append_grow_src (P := Tryz.prog) w 148 148 148 9 i (.string ⟨#[]⟩) Tryz.underlying148 hi hz p l.length l.length (rowS l) hold _ 1 _ hs (by omega) (by omega) (growslice_fits (by omega) (by rw [h2]; omega))
  have hge := grownCap_ge w (l.length + 1) l.length 9
  obtain ⟨A, hA⟩ : ∃ A, A = (rowS l ++ [Value.string (tx z)]).toArray ++ Builtin.zeroCells (Value.string ⟨#[]⟩).cells (grownCap w (l.length + 1) l.length 9 - (l.length + 1)) := ⟨_, rfl⟩
  rw [← hA] at hrun
  have hnew : (w.drew.alloc (.cells A 9)).heap[w.heap.size]? = some (.cells A 9 (0, 0)) := new_at w.drew (.cells A 9)
  refine ⟨_, _, _, hrun, hge, Or.inr ⟨w.heap.size, A, rfl, hnew, fun k u hu => ?_⟩, ((Bl.refl w).drew).trans ((Bl.refl _).alloc _)⟩
  rw [rowS_app] at hu
  have hk := (List.getElem?_eq_some_iff.1 hu).1
  rw [hA, Array.getElem?_append_left (by rw [List.size_toArray]; exact hk), List.getElem?_toArray]
  exact hu
end Go.Proofs.YtococaecjecjgaaGreatDoor.tc
namespace Go.Proofs.YtococaecjecjgaaGreatDoor.qp
set_option linter.unusedVariables false
open Go.ChangeShapes Go.WideShapes Go.ChangeAt Go.RowKit Go.Shelf
open mem lx ex
open qi (tape_setCells grown_cells)

def rowP (l : List Nat) : List Value := l.map (fun b => .pointer (some ⟨b, 0, none⟩))
theorem rowP_len (l : List Nat) : (rowP l).length = l.length := by simp [rowP]
theorem rowP_app (a b : List Nat) : rowP (a ++ b) = rowP a ++ rowP b := by simp [rowP]
theorem rowP_get {l : List Nat} {k b : Nat} (h : l[k]? = some b) : (rowP l)[k]? = some (.pointer (some ⟨b, 0, none⟩)) := by simp [rowP, h]
theorem infoP : (Tryz.prog.info? 58).map (fun i => (i.zero, i.size, i.bytes)) = some (some (.pointer none), 1, 8) := by kernel_rfl
theorem infoP' : ∃ i, Tryz.prog.info? 58 = some i ∧ i.zero = some (.pointer none) ∧ i.size = 1 ∧ i.bytes = 8 := by
  obtain ⟨i, h1, h2⟩ := Option.map_eq_some_iff.1 infoP
  simp only [Prod.mk.injEq] at h2
  exact ⟨i, h1, h2.1, h2.2.1, h2.2.2⟩
def Q (w : World) (base : Nat) (v : Value) (l : List Nat) : Prop := (v = .slice none 0 0 ∧ l = []) ∨ ∃ (g off cap : Nat), v = .slice (some ⟨g, off, none⟩) l.length cap ∧ base ≤ g ∧ g < w.heap.size ∧ l.length ≤ cap ∧ cap ≤ maxLen ∧ (∀ k u, (rowP l)[k]? = some u → w.cell? ⟨g, off + k, none⟩ = some u) ∧ (∀ k, k < cap → (w.cell? ⟨g, off + k, none⟩).isSome = true ∧ w.frozen? ⟨g, off + k, none⟩ = false)
theorem Q.shape {w : World} {base : Nat} {v : Value} {l : List Nat} (h : Q w base v l) : ∃ p c, v = .slice p l.length c ∧ l.length ≤ c ∧ c ≤ maxLen := by
  rcases h with ⟨rfl, rfl⟩ | ⟨g, off, cap, rfl, _, _, h1, h2, _⟩
  · exact ⟨none, 0, rfl, Nat.le_refl _, Nat.zero_le _⟩
  · exact ⟨_, cap, rfl, h1, h2⟩
theorem Q.block {w : World} {base : Nat} {v : Value} {l : List Nat} (h : Q w base v l) : ∀ k, v.ownBlock = some k → base ≤ k ∧ k < w.heap.size := by
  intro k hk
  rcases h with ⟨rfl, _⟩ | ⟨g, off, cap, rfl, h1, h2, _⟩
  · cases hk
  · injection hk with hk
    subst hk
    exact ⟨h1, h2⟩
theorem Q.kept {w w' : World} {base : Nat} {v : Value} {l : List Nat} {row : Option Nat} (h : Q w base v l) (hg : w.grownBy w' row) (hne : ∀ k, v.ownBlock = some k → row ≠ some k) : Q w' base v l := by
  rcases h with h | ⟨g, off, cap, rfl, h1, h2, h3, h4, h5, h6⟩
  · exact Or.inl h
  · have hb : w'.heap[g]? = w.heap[g]? := hg.block g h2 (fun e => hne g rfl e.symm)
    refine Or.inr ⟨g, off, cap, rfl, h1, Nat.lt_of_lt_of_le h2 hg.size, h3, h4, fun k u hu => ?_, fun k hk => ?_⟩
    · rw [World.cell?_of_block (a := ⟨g, off + k, none⟩) hb]; exact h5 k u hu
    · rw [World.cell?_of_block (a := ⟨g, off + k, none⟩) hb, World.frozen?_of_block (a := ⟨g, off + k, none⟩) hb]; exact h6 k hk
theorem Q.bl {w w' : World} {base : Nat} {v : Value} {l : List Nat} (h : Q w base v l) (hb : Bl w w') : Q w' base v l := h.kept (row := none) ⟨hb.os, hb.tape, hb.output, hb.size, fun k hk _ => Below.block hb k hk⟩ (fun _ _ => by simp)
theorem Q.nil (w : World) (base : Nat) : Q w base (.slice none 0 0) [] := Or.inl ⟨rfl, rfl⟩
theorem Q.mono {w : World} {base base' : Nat} {v : Value} {l : List Nat} (h : Q w base v l) (hb : base' ≤ base) : Q w base' v l := by
  rcases h with h | ⟨g, off, cap, h1, h2, h3⟩
  · exact Or.inl h
  · exact Or.inr ⟨g, off, cap, h1, by omega, h3⟩
theorem Q.at {w : World} {base : Nat} {p : Option Addr} {n c : Nat} {l : List Nat} (h : Q w base (.slice p n c) l) {k b : Nat} (hk : l[k]? = some b) : ∃ x, p = some x ∧ x.block < w.heap.size ∧ w.cell? (x.add k) = some (.pointer (some ⟨b, 0, none⟩)) := by
  rcases h with ⟨_, h⟩ | ⟨g, off, cap, hv, h1, h2, h3, h4, h5, h6⟩
  · rw [h] at hk; cases hk
  · injection hv with e1 e2 e3
    exact ⟨_, e1, h2, by rw [Addr.add_lit]; exact h5 k _ (rowP_get hk)⟩
theorem Q.one {w : World} {base N b : Nat} (hN : w.heap[N]? = some (.cells #[.pointer (some ⟨b, 0, none⟩)] 58 (0, 0))) (hb : base ≤ N) : Q w base (.slice (some ⟨N, 0, none⟩) 1 1) [b] := by
  refine Or.inr ⟨N, 0, 1, rfl, hb, lt_of_heap hN, Nat.le_refl _, by unfold maxLen; omega, fun k u hu => ?_, fun k hk => ?_⟩
  · rw [Nat.zero_add, cell_of hN]
    cases k with
    | zero => exact hu
    | succ k => simp [rowP] at hu
  · obtain rfl : k = 0 := by omega
    exact ⟨by rw [Nat.zero_add, cell_of hN]; rfl, by simp [World.frozen?, hN]⟩
set_option maxRecDepth 10000 in
theorem Q.app {w : World} {base base2 : Nat} {v u : Value} {l m : List Nat} (h : Q w base v l) (hu : Q w base2 u m) (hn : l.length + m.length ≤ 100000) (hb : base ≤ w.heap.size) :
    ∃ v' w', (Builtin.append_ #[149, 149] 149 #[v, u]).run Tryz.prog w = .ok v' w' ∧ Q w' base v' (l ++ m) ∧ w.grownBy w' v.ownBlock ∧ (v'.ownBlock = v.ownBlock ∨ v'.ownBlock = some w.heap.size) := by
  obtain ⟨i, hi, hz, h1, h2⟩ := infoP'
  have hs : Src Tryz.prog i.size 149 u m.length (rowP m) w := by
    rw [h1]
    rcases hu with ⟨rfl, rfl⟩ | ⟨g, off, cap, rfl, _, _, _, _, hc, _⟩
    · exact Src.ofNil w Tryz.underlying149 0
    · refine Src.ofSlice w Tryz.underlying149 _ _ _ _ (by rw [rowP_len, Nat.mul_one]) (fun j x hx => ?_) (fun x hx => ?_)
      · rw [Addr.add_lit]
        exact hc j x hx
      · simp only [rowP, List.mem_map] at hx
        obtain ⟨z, _, rfl⟩ := hx
        rfl
  -- a new row
  have grow : ∀ (p : Option Addr) (sc : Nat), v = .slice p l.length sc → sc < l.length + m.length → (Builtin.firstCells i.size l.length (.slice p l.length sc)).run Tryz.prog w.drew = .ok (rowP l).toArray w.drew →
      ∃ v' w', (Builtin.append_ #[149, 149] 149 #[v, u]).run Tryz.prog w = .ok v' w' ∧ Q w' base v' (l ++ m) ∧ w.grownBy w' v.ownBlock ∧ (v'.ownBlock = v.ownBlock ∨ v'.ownBlock = some w.heap.size) := by
    rintro p sc rfl hg hold
    have hrun := run_append_grow_src (P := Tryz.prog) w 149 149 149 58 i (.pointer none) Tryz.underlying149 hi hz p l.length sc (rowP l) hold u m.length (rowP m) hs hg (by omega) (growslice_fits hg (by rw [h2]; omega))
    have hge := grownCap_ge w (l.length + m.length) sc 58
    have hcm := grownCap_le_maxLen w (l.length + m.length) sc 58 (by unfold maxLen; omega)
    obtain ⟨A, hA⟩ : ∃ A, A = (rowP l ++ rowP m).toArray ++ Builtin.zeroCells (Value.pointer none).cells (grownCap w (l.length + m.length) sc 58 - (l.length + m.length)) := ⟨_, rfl⟩
    rw [← hA] at hrun
    have hAs : A.size = grownCap w (l.length + m.length) sc 58 := by
      rw [hA, Array.size_append, size_zeroCells, List.size_toArray, List.length_append, rowP_len, rowP_len, show (Value.pointer none).cells.size = 1 from rfl]
      omega
    have hcell : ∀ j, (w.drew.alloc (.cells A 58)).cell? ⟨w.heap.size, j, none⟩ = A[j]? := fun j => World.cell?_alloc_new w.drew A 58 j
    have hnew : (w.drew.alloc (.cells A 58)).heap[w.heap.size]? = some (.cells A 58 (0, 0)) := new_at w.drew (.cells A 58)
    refine ⟨_, _, hrun, Or.inr ⟨w.heap.size, 0, _, by rw [List.length_append], hb, lt_of_heap hnew, by rw [List.length_append]; exact hge, hcm, fun k x hx => ?_, fun k hk => ?_⟩, ⟨rfl, rfl, rfl, by simp, fun k hk _ => Below.heap_alloc w.drew _ k hk⟩, Or.inr rfl⟩
    · rw [Nat.zero_add, hcell, hA]
      have hk := (List.getElem?_eq_some_iff.1 hx).1
      rw [rowP_app] at hx hk
      rw [Array.getElem?_append_left (by rw [List.size_toArray]; exact hk), List.getElem?_toArray]
      exact hx
    · rw [Nat.zero_add, hcell]
      refine ⟨by rw [Array.getElem?_eq_getElem (by rw [hAs]; exact hk)]; rfl, ?_⟩
      unfold World.frozen?
      dsimp only
      rw [hnew]
      simp
  rcases h with ⟨rfl, rfl⟩ | ⟨g, off, cap, rfl, k1, k2, k3, k4, k5, k6⟩
  · by_cases hm : m = []
    · subst hm
      refine ⟨.slice none 0 0, w, ?_, Or.inl ⟨rfl, rfl⟩, ⟨rfl, rfl, rfl, Nat.le_refl _, fun _ _ _ => rfl⟩, Or.inl rfl⟩
      exact run_append_nothing (P := Tryz.prog) w 149 149 149 58 i Tryz.underlying149 hi none 0 0 (Nat.le_refl _) u hs
    · have hmp : 0 < m.length := List.length_pos_iff.2 hm
      exact grow none 0 rfl (by simpa using hmp) (run_firstCells_none w.drew i.size 0 0 0)
  · by_cases hroom : l.length + m.length ≤ cap
    · have hrun := run_append_room_src (P := Tryz.prog) w 149 149 149 58 i Tryz.underlying149 hi g off l.length cap u m.length (rowP m) hs hroom
        (fun j hj => by rw [rowP_len] at hj; rw [h1, Nat.mul_one, Nat.add_assoc]; exact (k6 _ (by omega)).1) (fun j hj => by rw [rowP_len] at hj; rw [h1, Nat.mul_one, Nat.add_assoc]; exact (k6 _ (by omega)).2)
      rw [h1, Nat.mul_one] at hrun
      refine ⟨_, _, hrun, Or.inr ⟨g, off, cap, by rw [List.length_append], k1, by rw [(tape_setCells g _ _ w).2]; exact k2, by rw [List.length_append]; exact hroom, k4, fun k x hx => ?_, fun k hk => ?_⟩, grown_cells _ _ _ _, Or.inl rfl⟩
      · rw [rowP_app] at hx
        by_cases hkl : k < l.length
        · rw [List.getElem?_append_left (by rw [rowP_len]; exact hkl)] at hx
          rw [World.cell?_setCells_out g _ _ w _ (fun _ _ => Or.inl (by show off + k < off + l.length; omega))]
          exact k5 k x hx
        · rw [List.getElem?_append_right (by rw [rowP_len]; omega), rowP_len] at hx
          have hj := (List.getElem?_eq_some_iff.1 hx).1
          have := World.cell?_setCells_in g (rowP m) (off + l.length) w (fun j hj => by rw [rowP_len] at hj; rw [Nat.add_assoc]; exact (k6 _ (by omega)).1) (k - l.length) hj
          rw [show off + l.length + (k - l.length) = off + k by omega] at this
          rw [this, ← hx]
          first | rfl | exact (List.getElem?_eq_getElem hj).symm
      · exact ⟨World.isSome_setCells g _ _ w _ (k6 k hk).1, by rw [World.frozen?_setCells]; exact (k6 k hk).2⟩
    · refine grow _ cap rfl (by omega) ?_
      rw [h1]
      exact run_firstCells_some w.drew 1 l.length ⟨g, off, none⟩ l.length cap (rowP l) (by rw [rowP_len, Nat.mul_one]) (fun j x hx => by rw [Addr.add_lit]; simpa using k5 j x hx)
end Go.Proofs.YtococaecjecjgaaGreatDoor.qp
namespace Go.Proofs.YtococaecjecjgaaGreatDoor.tc
set_option linter.unusedVariables false
open Go.ChangeShapes Go.WideShapes Go.ChangeAt Go.RowKit Go.Shelf Go.Maps
open mem lx ex tm

def nms : Ex → List (Nat × List UInt8)
  | .num _ _ => []
  | .nam a t => [(a, t)]
  | .bin _ _ l r => nms l ++ nms r
def nmsO : Option Ex → List (Nat × List UInt8)
  | none => []
  | some x => nms x
def firstN (seen : List (List UInt8)) : List (Nat × List UInt8) → Option Nat
  | [] => none
  | e :: r => if e.2 ∈ seen then firstN seen r else some e.1
theorem firstN_app (seen : List (List UInt8)) (a b : List (Nat × List UInt8)) : firstN seen (a ++ b) = match firstN seen a with | some p => some p | none => firstN seen b := by
  induction a with
  | nil => rfl
  | cons e r ih =>
    rw [List.cons_append, firstN, firstN]
    by_cases h : e.2 ∈ seen
    · rw [if_pos h, if_pos h, ih]
    · rw [if_neg h, if_neg h]
theorem mis_nms (seen : List (List UInt8)) (x : Ex) : mis seen x = firstN seen (nms x) := by
  induction x with
  | num a n => rfl
  | nam a t => rfl
  | bin a o l r il ir =>
    rw [mis, nms, firstN_app, il, ir]
    cases firstN seen (nms l) <;> rfl
theorem misO_nms (seen : List (List UInt8)) (o : Option Ex) : misO seen o = firstN seen (nmsO o) := by
  cases o with
  | none => rfl
  | some x => exact mis_nms seen x
theorem firstN_step (seen : List (List UInt8)) (l : List (Nat × List UInt8)) (j : Nat) (e : Nat × List UInt8) (h : l[j]? = some e) : (e.2 ∈ seen → firstN seen (l.drop j) = firstN seen (l.drop (j + 1))) ∧ (e.2 ∉ seen → firstN seen (l.drop j) = some e.1) := by
  obtain ⟨hl, he⟩ := List.getElem?_eq_some_iff.1 h
  rw [List.drop_eq_getElem_cons hl, he, firstN]
  exact ⟨fun hm => by rw [if_pos hm], fun hm => by rw [if_neg hm]⟩
theorem firstN_same {S S' : List (List UInt8)} (h : ∀ y, y ∈ S ↔ y ∈ S') (l : List (Nat × List UInt8)) : firstN S l = firstN S' l := by
  induction l with
  | nil => rfl
  | cons e r ih =>
    rw [firstN, firstN, ih]
    by_cases hm : e.2 ∈ S
    · rw [if_pos hm, if_pos ((h _).1 hm)]
    · rw [if_neg hm, if_neg (fun hc => hm ((h _).2 hc))]
theorem nms_sz (x : Ex) : (nms x).length ≤ sz x := by
  induction x with
  | num a n => exact Nat.zero_le _
  | nam a t => show 1 ≤ sz _; unfold sz; omega
  | bin a o l r il ir => rw [nms, List.length_append, sz]; omega
def NmL (w : World) : List Nat → List (Nat × List UInt8) → Prop
  | [], [] => True
  | b :: az, e :: l => w.heap[b]? = some (cellsX 2 e.1 0 e.2 [] (.pointer none) (.pointer none)) ∧ NmL w az l
  | [], _ :: _ => False
  | _ :: _, [] => False
theorem NmL.keep {w w' : World} (h : Kx w w') : ∀ {az : List Nat} {l : List (Nat × List UInt8)}, NmL w az l → NmL w' az l
  | [], [], _ => trivial
  | b :: az, e :: l, hn => ⟨h _ _ hn.1, NmL.keep h hn.2⟩
  | [], _ :: _, hn => hn.elim
  | _ :: _, [], hn => hn.elim
theorem NmL.len {w : World} : ∀ {az : List Nat} {l : List (Nat × List UInt8)}, NmL w az l → az.length = l.length
  | [], [], _ => rfl
  | b :: az, e :: l, hn => by rw [List.length_cons, List.length_cons, NmL.len hn.2]
  | [], _ :: _, hn => hn.elim
  | _ :: _, [], hn => hn.elim
theorem NmL.app {w : World} : ∀ {az bs : List Nat} {l m : List (Nat × List UInt8)}, NmL w az l → NmL w bs m → NmL w (az ++ bs) (l ++ m)
  | [], bs, [], m, _, h2 => h2
  | b :: az, bs, e :: l, m, hn, h2 => ⟨hn.1, NmL.app hn.2 h2⟩
  | [], _, _ :: _, _, hn, _ => hn.elim
  | _ :: _, _, [], _, hn, _ => hn.elim
theorem NmL.at {w : World} : ∀ {az : List Nat} {l : List (Nat × List UInt8)} {k : Nat} {e : Nat × List UInt8}, NmL w az l → l[k]? = some e → ∃ b, az[k]? = some b ∧ w.heap[b]? = some (cellsX 2 e.1 0 e.2 [] (.pointer none) (.pointer none))
  | [], [], _, _, _, h => by cases h
  | b :: az, f :: l, 0, e, hn, h => by
    simp at h
    subst h
    exact ⟨b, rfl, hn.1⟩
  | b :: az, f :: l, k + 1, e, hn, h => by
    obtain ⟨c, h1, h2⟩ := NmL.at hn.2 (k := k) (e := e) (by simpa using h)
    exact ⟨c, by simpa using h1, h2⟩
  | [], _ :: _, _, _, hn, _ => hn.elim
  | _ :: _, [], _, _, hn, _ => hn.elim
def NA (w0 w : World) (l : List (Nat × List UInt8)) (e : Ending) (w' : World) : Prop := ∃ (p : Option Addr) (c : Nat) (az : List Nat), e = .returned (.slice p l.length c) ∧ Bl w w' ∧ qp.Q w' w.heap.size (.slice p l.length c) az ∧ NmL w0 az l
theorem NA.of {w0 w w' : World} {l : List (Nat × List UInt8)} {v : Value} {az : List Nat} (hb : Bl w w') (hq : qp.Q w' w.heap.size v az) (hn : NmL w0 az l) : NA w0 w l (.returned v) w' := by
  obtain ⟨p, c, rfl, _, _⟩ := hq.shape
  rw [hn.len] at hq ⊢
  exact ⟨p, c, az, rfl, hb, hq, hn⟩
end Go.Proofs.YtococaecjecjgaaGreatDoor.tc
namespace Go.Proofs.YtococaecjecjgaaGreatDoor.tc
set_option linter.unusedVariables false
open Go.ChangeShapes Go.WideShapes Go.ChangeAt Go.RowKit Go.Shelf Go.Maps
open mem lx ex tm

theorem names_nil (w : World) : Calls Tryz.prog 75 #[.pointer none] w fun e w' => e = .returned (.slice none 0 0) ∧ w' = w := by
  go_enter Tryz.func75, Tryz.ntmps75
  go_wp2
  go_ret
  exact ⟨rfl, rfl⟩
set_option maxRecDepth 10000 in
set_option maxHeartbeats 4000000 in
theorem names_x (x : Ex) : ∀ (v : Value) (w0 w : World), Bl w0 w → IsX w0 v x → sz x ≤ 5000 → Calls Tryz.prog 75 #[v] w fun e w' => NA w0 w (nms x) e w' := by
  induction x with
  | num a n =>
    intro v w0 w h0 hx hs
    obtain ⟨b, rfl, hb0⟩ := hx
    have hb := Kx.bl h0 _ _ hb0
    have c0 : w.cell? ⟨b, 0, none⟩ = some (.int .i64 1) := by rw [cell_of hb]; rfl
    have hbs := lt_of_heap hb
    clear hb hb0 hs h0
    go_enter Tryz.func75, Tryz.ntmps75
    go_wp2
    go_ret
    exact NA.of (Bl.refl _) (qp.Q.nil _ _) trivial
  | nam a t =>
    intro v w0 w h0 hx hs
    obtain ⟨b, rfl, hb0⟩ := hx
    have hb := Kx.bl h0 _ _ hb0
    have c0 : w.cell? ⟨b, 0, none⟩ = some (.int .i64 2) := by rw [cell_of hb]; rfl
    have hbs := lt_of_heap hb
    have HB : Hid (w0.heap[b]? = some (cellsX 2 a 0 t [] (.pointer none) (.pointer none))) := hb0
    clear hb hb0 hs h0
    go_enter Tryz.func75, Tryz.ntmps75
    go_wp2
    go_ret
    have hbl : Bl w (w.alloc (.cells #[.pointer (some ⟨b, 0, none⟩)] 58)) := (Bl.refl w).alloc _
    exact NA.of (az := [b]) hbl (qp.Q.one (new_at w _) (Nat.le_refl _)) ⟨HB.out, trivial⟩
  | bin a o l r il ir =>
    intro v w0 w h0 hx hs
    obtain ⟨b, vl, vr, rfl, hb0, hl, hr⟩ := hx
    have hb := Kx.bl h0 _ _ hb0
    have c0 : w.cell? ⟨b, 0, none⟩ = some (.int .i64 3) := by rw [cell_of hb]; rfl
    have c5 : w.cell? ⟨b, 5, none⟩ = some vl := by rw [cell_of hb]; rfl
    have hbs := lt_of_heap hb
    have hsz : sz l + sz r + 1 ≤ 5000 := hs
    have hbd : Bl w w.drew := (Bl.refl _).drew
    have cL := il vl w0 w.drew (h0.trans hbd) hl (by omega)
    have c6 : w.cell? ⟨b, 6, none⟩ = some vr := by rw [cell_of hb]; rfl
    have HR : Hid (∀ w2, Bl w.drew w2 → w2.cell? ⟨b, 5, none⟩ = some vl ∧ w2.cell? ⟨b, 6, none⟩ = some vr ∧ b < w2.heap.size) := fun w2 h2 => ⟨at_bl (hbd.trans h2) c5, at_bl (hbd.trans h2) c6, Nat.lt_of_lt_of_le hbs (hbd.trans h2).size⟩
    have HS : Hid (sz r ≤ 5000 ∧ (nms l).length + (nms r).length ≤ 100000 ∧ Bl w0 w ∧ IsX w0 vr r) := ⟨by omega, by have := nms_sz l; have := nms_sz r; omega, h0, hr⟩
    have q5 : w.drew.cell? ⟨b, 5, none⟩ = some vl := at_bl hbd c5
    have q6 : w.drew.cell? ⟨b, 6, none⟩ = some vr := at_bl hbd c6
    clear hb hb0 hl hr hs hsz il h0
    go_enter Tryz.func75, Tryz.ntmps75
    go_upto_region 5 with fail
    go_region_held3 (fun wS => wS.cell? ⟨b, 5, none⟩ = some vl ∧ wS.cell? ⟨b, 6, none⟩ = some vr) (refine ⟨?_, ?_⟩ <;> first | assumption)
      (first
        | (go_at_call 75; (with_reducible refine cL.mono ?_); rintro e w2 ⟨p, c, az, rfl, hb2, hq2, hn2⟩
           obtain ⟨s5, s6, hbs2⟩ := HR.out w2 hb2
           have cR := ir vr w0 w2 ((HS.out.2.2.1.trans hbd).trans hb2) HS.out.2.2.2 HS.out.1
           have H2 : Hid (Bl w w2 ∧ qp.Q w2 w.heap.size (.slice p (nms l).length c) az ∧ NmL w0 az (nms l)) := ⟨hbd.trans hb2, hq2, hn2⟩
           clear hb2 hq2 hn2)
        | (go_at_call 75; (with_reducible refine cR.mono ?_); rintro e w3 ⟨p3, c3, bs, rfl, hb3, hq3, hn3⟩
           have hlb := hn3.len
           have hla := H2.out.2.2.len
           have t5 := at_bl hb3 s5
           have t6 := at_bl hb3 s6
           obtain ⟨v4, w4, hr4, hq4, hg4, hv4⟩ := qp.Q.app (H2.out.2.1.bl hb3) hq3 (by rw [hla, hlb]; exact HS.out.2.1) (by have := H2.out.1.size; have := hb3.size; omega)
           have HR4 : Hid _ := hr4
           have hbl4 : Bl w w4 := bl_grown (H2.out.1.trans hb3) hg4 (fun k hk => (H2.out.2.1.block k hk).1)
           have u5 := at_bl hbl4 c5
           have u6 := at_bl hbl4 c6
           have H4 : Hid (NA w0 w (nms (.bin a o l r)) (.returned v4) w4) := NA.of hbl4 hq4 (H2.out.2.2.app hn3)
           clear hr4 hq4 hg4 hv4 hb3 hq3 hn3 hbl4)
        | (refine step_append_run rfl (.tmp 23) (.tmp 28) 149 149 rfl (.slice p (nms l).length c) (.slice p3 (nms r).length c3) rfl rfl v4 w4 ?hr ?_; (case hr => with_reducible exact HR4.out)))
    go_wp2
    go_ret
    exact H4.out
end Go.Proofs.YtococaecjecjgaaGreatDoor.tc
