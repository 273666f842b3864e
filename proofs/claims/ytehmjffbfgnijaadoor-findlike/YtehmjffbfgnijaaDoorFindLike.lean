/- FindLike: what any text is as a pattern of half bytes, and where any one stands, is the document's: for every input. -/
import Derived.Test.YtehmjffbfgnijaaDoorRows
import Derived.WalkKit
import Derived.ProofKit
import Derived.OpenShut
import Derived.SizedLaws
import Derived.Test.YtehmjffbfgnijaaDoorLaid
import Derived.Test.YtehmjffbfgnijaaDoorTie
import Derived.Test.YtehmjffbfgnijaaDoorCards
import Derived.SevenTiedAt
import Derived.Test.YtehmjffbfgnijaaDoorFf2
import Derived.Test.YtehmjffbfgnijaaDoorSame
import Derived.ShutString
import Derived.ChangeOld
import Derived.Below
namespace Go.Proofs.YtehmjffbfgnijaaDoor.findLike
open Go.ChangeShapes Go.WideShapes Go.ChangeAt Go.RowKit
open Go.ChangeMaps (open_string shut_string)
set_option linter.unusedVariables false

theorem own : ownKnob Tryd.prog.godebug = none := by kernel_rfl
theorem laidOut : laidOutB Tryd.prog = true := by kernel_rfl

/-- WHAT THE WALK IS TOLD OF A SLICE OF INTEGERS THAT CAME IN: it is nil; or it leads to a row of 'cap' cells, the numbers 'zs' (the first 'len' are its elements, the rest its spare room), each fitting its kind. -/
def IsRow (k : IntKind) (w : World) (a : Option Addr) (len cap : Nat) (zs : List Int) : Prop :=
  (a = none ∧ len = 0 ∧ cap = 0 ∧ zs = []) ∨
  ∃ x, a = some x ∧ len ≤ cap ∧ cap ≤ maxLen ∧ zs.length = cap ∧ (∀ i, i < zs.length → w.cell? (x.add i) = some (.int k (zs.getD i 0))) ∧ ∀ n ∈ zs, (Lit.int k n).wf = true

open mem rows fd find errs
theorem laid_bl {w w' : World} (h : Laid w) (g : Bl w w') : Laid w' := by
  have hp := h.pos
  unfold Laid at h ⊢
  unfold World.cell? at h ⊢
  rw [Below.block g _ hp]
  exact h
/-- What came in, as a list. -/
theorem in_of {w : World} {a : Option Addr} {len cap : Nat} {zs : List Int} (h : IsRow .i64 w a len cap zs) : ∃ l : List Int, l.length = len ∧ View w (.slice a len cap) l := by
  rcases h with ⟨rfl, rfl, rfl, rfl⟩ | ⟨x, rfl, h1, h2, h3, h4, h5⟩
  · exact ⟨[], rfl, none, 0, rfl, Or.inl rfl⟩
  · have hl : (zs.take len).length = len := by rw [List.length_take]; omega
    refine ⟨zs.take len, hl, some x, cap, by rw [hl], Or.inr ⟨x, rfl, fun k hk => ?_⟩⟩
    rw [hl] at hk
    have := h4 k (by omega)
    rw [this]
    congr 2
    rw [List.getD_eq_getElem?_getD, List.getD_eq_getElem?_getD, List.getElem?_take, if_pos hk]
/-- Where a pattern stands, of both. -/
theorem like_ok (s : ByteArray) (x : Value) (l : List Int) (w : World) (hs : s.size ≤ 300) (hl : l.length ≤ 1000) (hv : View w x l) : ∃ (e : Int) (ev : Value) (L : List Int), L.length ≤ 5000 ∧
    (Calls Tryd.prog 17 #[.string s, x] w fun y w' => ∃ v, y = .returned (.tuple #[v, .int .i64 e]) ∧ Own w' w.heap.size v L ∧ Bl w w') ∧
    (∀ w', Bl w w' → Calls Tryd.prog 18 #[.string s, x] w' fun y w'' => ∃ v, y = .returned (.tuple #[v, ev]) ∧ Own w'' w'.heap.size v L ∧ Bl w' w'') ∧
    (∀ w', Laid w' → Calls Tryd.prog 11 #[ev, .int .i64 e] w' fun y w'' => y = .returned (.bool true) ∧ Bl w' w'') := by
  by_cases h : l.length % 2 = 1 ∨ l.length / 2 = 0 ∨ 64 < l.length / 2
  · obtain ⟨q, c, rfl, -⟩ := hv
    exact ⟨1, .iface 23 (.int .i64 1), [], by decide, (refLike_no s q _ c w hl h).mono (by rintro y w' ⟨rfl, rfl⟩; exact ⟨_, rfl, Own.nil _ _, Bl.refl _⟩),
      fun w' _ => (Like_no s q _ c w' hl h).mono (by rintro y w'' ⟨rfl, rfl⟩; exact ⟨_, rfl, Own.nil _ _, Bl.refl _⟩),
      fun w' h => (bare_errno 1 1 w' h).mono (by rintro x w'' ⟨rfl, g⟩; exact ⟨rfl, g.bl⟩)⟩
  · have hlk := lks_len (mfn l) (sb s) (l.length / 2) s.size (by omega)
    exact ⟨0, .nilIface, ints (lks (mfn l) (sb s) (l.length / 2) s.size), by rw [ints_len]; omega, refLike_at s x l (l.length / 2) w (by omega) hv (by omega) (by omega) (by omega),
      fun w' hb => Like_at s x l (l.length / 2) w' (by omega) (hv.step hb) (by omega) (by omega) (by omega),
      fun w' h => (bare_nil 0 w').mono (by rintro x w'' ⟨rfl, rfl⟩; exact ⟨rfl, Bl.refl _⟩)⟩
set_option maxHeartbeats 4000000 in
set_option maxRecDepth 100000 in
theorem core (a0 a1 : ByteArray) (q2 : Option Addr) (len2 cap2 : Nat) (l2 : List Int) (w : World) (hg : Laid w) (hs0 : a0.size ≤ 300) (hs1 : a1.size ≤ 200) (hs2 : len2 ≤ 140) (hl2 : l2.length = len2) (hv2 : View w (.slice q2 len2 cap2) l2)
    (M : List Int) (hM : M.length ≤ 200) (e : Int) (ev : Value)
    (c1 : ∀ w, Calls Tryd.prog 15 #[.string a1] w fun x w' => ∃ v, x = .returned (.tuple #[v, .int .i64 e]) ∧ Own w' w.heap.size v M ∧ Bl w w')
    (c2 : ∀ w, Calls Tryd.prog 16 #[.string a1] w fun x w' => ∃ v, x = .returned (.tuple #[v, ev]) ∧ Own w' w.heap.size v M ∧ Bl w w')
    (b1 : ∀ w, Laid w → Calls Tryd.prog 11 #[ev, .int .i64 e] w fun x w' => x = .returned (.bool true) ∧ Bl w w') :
    Calls Tryd.prog 4 #[.string a0, .string a1, .slice q2 len2 cap2] w fun e w' => e = .returned (.bool true) ∧ Below w.heap.size w w' := by
  have hz0 : ¬ (300 : Int) < (a0.size : Int) := by omega
  have hz1 : ¬ (200 : Int) < (a1.size : Int) := by omega
  have hz2 : ¬ (140 : Int) < (len2 : Int) := by omega
  have y0 : decide ((300 : Int) < (a0.size : Int)) = false := decide_eq_false hz0
  have y1 : decide ((200 : Int) < (a1.size : Int)) = false := decide_eq_false hz1
  have y2 : decide ((140 : Int) < (len2 : Int)) = false := decide_eq_false hz2
  have HG : Hid (Laid w) := hg
  have HV : Hid (View w (.slice q2 len2 cap2) l2) := hv2
  have HL2 : Hid (l2.length = len2) := hl2
  clear hg hv2 hl2
  go_enter Tryd.func4, Tryd.ntmps4
  go_wp2_with (fail)
  refine (c1 _).mono ?_
  rintro x v1 ⟨av, rfl, ha1, g1⟩
  clear c1
  go_wp2_with (fail)
  refine (c2 _).mono ?_
  rintro x v2 ⟨bv, rfl, hb2, g2⟩
  clear c2
  go_wp2_with (fail)
  refine (b1 _ (laid_bl HG.out (g1.trans g2))).mono ?_
  rintro x v3 ⟨rfl, g3⟩
  clear b1
  go_wp2_with (fail)
  refine (same_at _ _ M _ _ _ (hb2.step g3) ((ha1.step g2).step g3) (by omega)).mono ?_
  rintro x v4 ⟨rfl, g4⟩
  have G4 : Bl w v4 := ((g1.trans g2).trans g3).trans g4
  have va := ((((view_own ha1).step g2).step g3).step g4)
  obtain ⟨q1, c1, hve, -⟩ := view_own ha1
  clear ha1 hb2 g1 g2 g3 g4
  subst hve
  go_wp2_with (fail)
  obtain ⟨w5, hw5⟩ : ∃ w5, w5 = v4.alloc (.cells #[.slice q1 M.length c1, .slice q2 len2 cap2] 22) := ⟨_, rfl⟩
  have hb5 : Bl v4 w5 := by rw [hw5]; exact (Bl.refl _).alloc _
  have k0 : w5.cell? ⟨v4.heap.size, 0, none⟩ = some (.slice q1 M.length c1) := by rw [hw5]; simp
  have k1 : w5.cell? ⟨v4.heap.size, 1, none⟩ = some (.slice q2 len2 cap2) := by rw [hw5]; simp
  have va5 := va.step hb5
  have vb5 := HV.out.step (G4.trans hb5)
  have HALL : Hid (∀ k, k < 2 → ∃ xv l, w5.cell? ⟨v4.heap.size, k, none⟩ = some xv ∧ View w5 xv l ∧ l.length ≤ 200) := fun k hk => by
    rcases k with _ | _ | k
    · exact ⟨_, M, k0, va5, hM⟩
    · exact ⟨_, l2, k1, vb5, by rw [HL2.out]; omega⟩
    · omega
  have G5 := G4.trans hb5
  rw [← hw5]
  clear hw5 k0 k1 va5 vb5 va hb5
  go_loopw [54] (fun i wr => ∃ k : Nat, k ≤ 2 ∧ i = .int .i64 (k : Int) ∧ Bl w5 wr) (fun i _ => 2 - (intOf i).toNat)
  case atStart => exact ⟨0, by omega, rfl, Bl.refl _⟩
  case round =>
    obtain ⟨k, hk, rfl, hbl⟩ := hrel
    by_cases hlt : k < 2
    · have hlz : (k : Int) < 2 := by omega
      obtain ⟨xv, l, hc, hv, hl⟩ := HALL.out k hlt
      have hc' := at_bl hbl hc
      obtain ⟨e', ev', L, hL, d1, d2, d3⟩ := like_ok a0 xv l wr hs0 (by omega) (hv.step hbl)
      have hxv : ∃ p n c, xv = .slice p n c := by obtain ⟨p, c, rfl, -⟩ := hv; exact ⟨_, _, _, rfl⟩
      obtain ⟨p, n, c, rfl⟩ := hxv
      clear hc hv hl
      go_wp2_with (fail)
      refine d1.mono ?_
      rintro x u1 ⟨lv, rfl, h1, g1⟩
      clear d1
      go_wp2_with (fail)
      refine (d2 _ g1).mono ?_
      rintro x u2 ⟨kv, rfl, h2, g2⟩
      clear d2
      go_wp2_with (fail)
      refine (d3 _ (laid_bl HG.out (((G5.trans hbl).trans g1).trans g2))).mono ?_
      rintro x u3 ⟨rfl, g3⟩
      clear d3
      go_wp2_with (fail)
      refine (same_at _ _ L _ _ _ (h2.step g3) ((h1.step g2).step g3) hL).mono ?_
      rintro x u4 ⟨rfl, g4⟩
      go_wp2
      go_roundw
      case rel => exact ⟨k + 1, by omega, by go_num, (((hbl.trans g1).trans g2).trans g3).trans g4⟩
      case measure => simp [intOf]; omega
    · have hnl : ¬ ((k : Int) < 2) := by omega
      go_wp2
      go_ret
      exact ⟨rfl, G5.trans hbl⟩
theorem rd_len (f : Nat → Int) : ∀ (r k : Nat) (m M : List Int), rd f r k m = some M → M.length ≤ m.length + r
  | 0, k, m, M, h => by
    rw [rd] at h
    split at h
    · cases h
    · injection h with h; subst h; exact Nat.le_refl _
  | r + 1, k, m, M, h => by
    rw [rd] at h
    split at h
    · have := rd_len f r _ _ _ h; omega
    · split at h
      · have := rd_len f r _ _ _ h; simp at this; omega
      · split at h
        · have := rd_len f r _ _ _ h; simp at this; omega
        · cases h
theorem walk (a0 : ByteArray) (a1 : ByteArray) (a2 : Option Addr) (len2 cap2 : Nat) (z2 : List Int) (w : World) (w0 : a0.size ≤ maxLen) (w1 : a1.size ≤ maxLen) (w2 : IsRow .i64 w a2 len2 cap2 z2) (hg : errs.Laid w) :
    Calls Tryd.prog 4 #[.string a0, .string a1, .slice a2 len2 cap2] w fun e w' => e = .returned (.bool true) ∧ Below w.heap.size w w' := by
  obtain ⟨l2, hl2, hv2⟩ := in_of w2
  clear w0 w1 w2
  by_cases hs0 : a0.size ≤ 300
  · by_cases hs1 : a1.size ≤ 200
    · by_cases hs2 : len2 ≤ 140
      · cases hrd : rd (sb a1) a1.size 0 [] with
        | none =>
          exact core a0 a1 a2 len2 cap2 l2 w hg hs0 hs1 hs2 hl2 hv2 [] (by decide) 3 (.iface 23 (.int .i64 3))
            (fun w => (refRead_at a1 w (by omega)).mono (by rw [hrd]; rintro x w' ⟨h, g⟩; exact ⟨_, h, Own.nil _ _, g⟩))
            (fun w => (Read_at a1 w (by omega)).mono (by rw [hrd]; rintro x w' ⟨h, g⟩; exact ⟨_, h, Own.nil _ _, g⟩))
            (fun w h => (bare_errno 3 3 w h).mono (by rintro x w' ⟨rfl, g⟩; exact ⟨rfl, g.bl⟩))
        | some M =>
          have hM := rd_len _ _ _ _ _ hrd
          exact core a0 a1 a2 len2 cap2 l2 w hg hs0 hs1 hs2 hl2 hv2 M (by simp at hM; omega) 0 .nilIface
            (fun w => (refRead_at a1 w (by omega)).mono (by rw [hrd]; rintro x w' ⟨⟨v, h, ho⟩, g⟩; exact ⟨v, h, ho, g⟩))
            (fun w => (Read_at a1 w (by omega)).mono (by rw [hrd]; rintro x w' ⟨⟨v, h, ho, _⟩, g⟩; exact ⟨v, h, ho, g⟩))
            (fun w h => (bare_nil 0 w).mono (by rintro x w' ⟨rfl, rfl⟩; exact ⟨rfl, Bl.refl _⟩))
      · have hz0 : ¬ (300 : Int) < (a0.size : Int) := by omega
        have hz1 : ¬ (200 : Int) < (a1.size : Int) := by omega
        have hz2 : (140 : Int) < (len2 : Int) := by omega
        go_enter Tryd.func4, Tryd.ntmps4
        go_wp2
        go_ret
        exact ⟨rfl, Below.refl _ _⟩
    · have hz0 : ¬ (300 : Int) < (a0.size : Int) := by omega
      have hz1 : (200 : Int) < (a1.size : Int) := by omega
      go_enter Tryd.func4, Tryd.ntmps4
      go_wp2
      go_ret
      exact ⟨rfl, Below.refl _ _⟩
  · have hz0 : (300 : Int) < (a0.size : Int) := by omega
    go_enter Tryd.func4, Tryd.ntmps4
    go_wp2
    go_ret
    exact ⟨rfl, Below.refl _ _⟩

set_option maxRecDepth 100000 in
theorem lifted (os : Os) (started : os.Started) (H : Type) (enc : TypeId × Value → H) :
    ReturnsInHanded {} Tryd.checked os 4 .any (fun w args => (Rows.findLikeSpec.pre enc Tryd.prog Tryd.f4 [] false w args ∧ laidMetH Tryd.prog laying.list w) ∧ sizedMet enc Tryd.prog Tryd.f4 (OpenSpec.ofChange Rows.findLikeSpec) false w args) (Rows.findLikeSpec.post enc Tryd.prog Tryd.f4 false true false false) := by
  refine returnsInHanded_of_change_and (C := Tryd.checked) (X := fun w _ => laidMetH Tryd.prog laying.list w) (fun _ _ _ hh h => h.of_heap hh) own started (by kernel_rfl) Tryd.func4
    (ChangeSpec.witness_at (enc := enc) (C := Tryd.checked) (os := os) (X := fun w _ => laidMetH Tryd.prog laying.list w) false (laying.layCell (World.holding Tryd.prog os ⟨#[], #[], []⟩)) #[.string ByteArray.empty, .string ByteArray.empty, .slice none 0 0] 8 rfl (by kernel_rfl) (by kernel_rfl) (by kernel_rfl) (by kernel_rfl) (by kernel_rfl) (laying.laidWorld_met os _)) ?_
  intro W base args ds gs before hval0 hW hcnd hsz0 hL _
  have hval : ∀ (j : Nat) t v, Tryd.f4.params[j]? = some t → args[j]? = some v → Value.okWide Tryd.prog W .any base t v := hval0
  have hW' := hW
  obtain ⟨p, q, hA0, hV, rfl, hfz, hnd⟩ := hW
  have hA : DataW.TrodAll enc Tryd.prog W 0 (fun _ => true) true Tryd.f4.params.toList args.toList ds p := hA0
  have hsz : (DataW.weightsEach Tryd.prog (Tryd.f4.params.toList ++ Rows.findLikeSpec.plain.varTypes Tryd.prog) (ds ++ gs)).all (· ≤ reachBytes) = true := hsz0
  rw [Tryd.params4] at hA hval hsz
  obtain ⟨v0, vs0, d0, ds0, p0, q0, hargs, rfl, rfl, h0, r0⟩ := trodAll_cons hA
  obtain ⟨v1, vs1, d1, ds1, p1, q1, rfl, rfl, rfl, h1, r1⟩ := trodAll_cons r0
  obtain ⟨v2, vs2, d2, ds2, p2, q2, rfl, rfl, rfl, h2, r2⟩ := trodAll_cons r1
  obtain ⟨rfl, rfl, rfl⟩ := trodAll_nil r2
  obtain rfl : args = #[v0, v1, v2] := by cases args; simp_all
  obtain ⟨rfl, rfl⟩ := trodVars_none hV
  obtain ⟨a0, rfl, rfl, rfl, w0⟩ := open_string Tryd.underlying9 (hval 0 9 v0 rfl rfl) h0
  obtain ⟨a1, rfl, rfl, rfl, w1⟩ := open_string Tryd.underlying9 (hval 1 9 v1 rfl rfl) h1
  obtain ⟨a2, len2, cap2, rfl⟩ := okWide_slice Tryd.underlying22 (hval 2 22 v2 rfl rfl)
  have k2 := h2
  have lt2 : ∀ x ∈ p2, x.block < W.heap.size := by obtain ⟨m, hm⟩ := k2; exact DataW.trod_lt m _ _ _ hm
  obtain ⟨z2, w2⟩ : ∃ zs, IsRow .i64 W a2 len2 cap2 zs := by
    obtain ⟨fuel, hf⟩ := h2
    rcases open_ints Tryd.underlying22 Tryd.underlying3 (by kernel_rfl) hf with ⟨hcs, _⟩ | ⟨x, l, c, zs, hcs, _, hl, hm, hz, _, hcell, hwz⟩
    · simp [Value.cells] at hcs
      obtain ⟨rfl, rfl, rfl⟩ := hcs
      exact ⟨[], .inl ⟨rfl, rfl, rfl, rfl⟩⟩
    · simp [Value.cells] at hcs
      obtain ⟨rfl, rfl, rfl⟩ := hcs
      exact ⟨zs, .inr ⟨_, rfl, hl, hm, by simpa using hz, hcell, hwz⟩⟩
  clear hA0 hval0 hsz0 hsz
  refine (walk a0 a1 a2 len2 cap2 z2 W w0 w1 w2 (laying.handle_of_laid hL)).mono fun e W' ⟨he, bel⟩ => ?_
  subst he
  exact ⟨_, rfl, _, _, _, [], _, [], hW', trodAll_mk1 (shut_bool Tryd.underlying4 _), (trodAll_cons_mk (shut_string Tryd.underlying9 w0) (trodAll_cons_mk (shut_string Tryd.underlying9 w1) (trodAll_cons_mk (Below.trod laidOut (by kernel_rfl) (of_decide_eq_true (by kernel_rfl)) k2 bel lt2) trodAll_mk0))), rfl, bel.frame _, fun h => by cases h⟩

theorem over : Rows.findLikeRow.holds Tryd.pinned (OpenSpec.ofChange Rows.findLikeSpec) :=
  OpenClaim.holds_of_wide 4 Tryd.f4 rfl rfl rfl rfl rfl rfl rfl ⟨rfl, rfl, rfl, rfl, rfl⟩ rfl rfl rfl rfl rfl (by kernel_rfl) Tryd.func4 (by kernel_rfl)
    (of_decide_eq_true (by kernel_rfl)) (by unfold Func.isWrapper; first | (rw [if_pos (by decide +kernel)]; kernel_rfl) | (rw [if_neg (by decide +kernel)]; exact ⟨rfl, rfl⟩))
    (fun os started H enc _ => lifted os started H enc)

theorem tied : Rows.FindLikeCardSaid :=
  Claim7.holds_tied_plain_at .later [] [.handle] true (true, "b9520a0ef563c468aaf1ac1254ba868965ec57cea3631c2caacab1fbc9d21a87") true
    over (fun _ h => by cases h) (by kernel_rfl) (fun _ h => by cases h) findLike_row_tie rfl ⟨rfl, rfl⟩ (by kernel_rfl) rfl
    (fun f fn hf hfn => by
      obtain rfl : f = 4 := Option.some.inj ((show Tryd.prog.funcNamed "escritoire/escritoirelaw.FindLike" = some 4 by kernel_rfl).symm.trans hf) |>.symm
      obtain rfl : fn = Tryd.f4 := (Option.some.inj (Tryd.func4.symm.trans hfn)).symm
      exact ⟨by kernel_rfl, fun j t ht => by
        rw [Tryd.params4] at ht
        rcases j with _ | j
        · obtain rfl : t = 9 := by simpa using ht.symm
          exact (show Tryd.prog.wantsStandIn 9 = false by kernel_rfl)
        · rcases j with _ | j
          · obtain rfl : t = 9 := by simpa using ht.symm
            exact (show Tryd.prog.wantsStandIn 9 = false by kernel_rfl)
          · rcases j with _ | j
            · obtain rfl : t = 22 := by simpa using ht.symm
              exact (show Tryd.prog.wantsStandIn 22 = false by kernel_rfl)
            · simp at ht⟩)
    (by kernel_rfl)
end Go.Proofs.YtehmjffbfgnijaaDoor.findLike
namespace Go.Proofs.YtehmjffbfgnijaaDoor
/-- The given statement. -/
theorem findLike_holds : Rows.FindLikeCardSaid := findLike.tied
#print axioms findLike_holds
end Go.Proofs.YtehmjffbfgnijaaDoor
