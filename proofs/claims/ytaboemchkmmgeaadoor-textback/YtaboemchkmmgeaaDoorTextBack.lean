/- The law TextBack holds for every numbers and every order: signs that are written, in either way, are read as they were; and of numbers that are none both ways tell the same error. -/
import Derived.Test.YtaboemchkmmgeaaDoorRows
import Derived.WalkKit
import Derived.ProofKit
import Derived.OpenShut
import Derived.SizedLaws
import Derived.Test.YtaboemchkmmgeaaDoorLaidTE
import Derived.Test.YtaboemchkmmgeaaDoorTie
import Derived.Test.YtaboemchkmmgeaaDoorCards
import Derived.SevenTiedAt
import Derived.Test.YtaboemchkmmgeaaDoorKeep3
import Derived.Test.YtaboemchkmmgeaaDoorNarQ
import Derived.Test.YtaboemchkmmgeaaDoorTellAt
import Derived.ShutString
import Derived.ChangeOld
import Derived.Below
namespace Go.Proofs.YtaboemchkmmgeaaDoor.textBack
open Go.ChangeShapes Go.WideShapes Go.ChangeAt Go.RowKit
open Go.ChangeMaps (open_string shut_string)
set_option linter.unusedVariables false

theorem own : ownKnob Tryd.prog.godebug = none := by kernel_rfl
theorem laidOut : laidOutB Tryd.prog = true := by kernel_rfl

/-- WHAT THE WALK IS TOLD OF A SLICE OF INTEGERS THAT CAME IN: it is nil; or it leads to a row of 'cap' cells, the numbers 'zs' (the first 'len' are its elements, the rest its spare room), each fitting its kind. -/
def IsRow (k : IntKind) (w : World) (a : Option Addr) (len cap : Nat) (zs : List Int) : Prop :=
  (a = none ∧ len = 0 ∧ cap = 0 ∧ zs = []) ∨
  ∃ x, a = some x ∧ len ≤ cap ∧ cap ≤ maxLen ∧ zs.length = cap ∧ (∀ i, i < zs.length → w.cell? (x.add i) = some (.int k (zs.getD i 0))) ∧ ∀ n ∈ zs, (Lit.int k n).wf = true

open mem rows errs num words enc utf keep
/-- What came in, as a list. -/
theorem in_of {w : World} {a : Option Addr} {len cap : Nat} {zs : List Int} (h : IsRow .i64 w a len cap zs) : ∃ l : List Int, l.length = len ∧ In w a l ∧ Fit l := by
  rcases h with ⟨rfl, rfl, rfl, rfl⟩ | ⟨x, rfl, hl, hm, hz, hc, hw⟩
  · exact ⟨[], rfl, Or.inl rfl, fun k => by simp⟩
  · refine ⟨zs.take len, by rw [List.length_take]; omega, Or.inr ⟨x, rfl, fun k hk => ?_⟩, fun k => ?_⟩
    · rw [List.length_take] at hk
      rw [hc k (by omega)]
      simp [List.getD_eq_getElem?_getD, show k < len by omega]
    · by_cases hk : k < (zs.take len).length
      · have hm : (zs.take len).getD k 0 ∈ zs := by
          rw [List.getD_eq_getElem?_getD, List.getElem?_eq_getElem hk]
          exact List.mem_of_mem_take (List.getElem_mem hk)
        exact bounds_i64 (hw _ hm)
      · rw [List.getD_eq_getElem?_getD, List.getElem?_eq_none (by omega)]
        simp
theorem mem_of_all {l : List Int} (h : ∀ k, k < l.length → sign (l.getD k 0)) : ∀ r ∈ l, sign r := fun r hr => by
  obtain ⟨k, hk, rfl⟩ := List.mem_iff_getElem.1 hr
  have := h k hk
  rwa [List.getD_eq_getElem?_getD, List.getElem?_eq_getElem hk] at this
set_option maxRecDepth 100000 in
set_option maxHeartbeats 4000000 in
theorem walk (a0 : Option Addr) (len0 cap0 : Nat) (z0 : List Int) (a1 : Int) (w : World) (w0 : IsRow .i64 w a0 len0 cap0 z0) (w1 : (Lit.int .i64 a1).wf = true) (hg : errs.Laid w ∧ utf.Tabs w) :
    Calls Tryd.prog 6 #[.slice a0 len0 cap0, .int .i64 a1] w fun e w' => e = .returned (.bool true) ∧ Below w.heap.size w w' := by
  have HG : Hid (Laid w) := hg.1
  have HT : Hid (Tabs w) := hg.2
  clear hg w1
  obtain ⟨l, hlen, hin, hfit⟩ := in_of w0
  clear w0
  subst hlen
  have HI : Hid (In w a0 l) := hin
  clear hin
  have cF := fun w hT => signed_at w hT
  by_cases hl : l.length ≤ 100
  · have hz : ¬ ((100 : Int) < (l.length : Int)) := by omega
    obtain ⟨kO, hkO⟩ : ∃ kO, pk a1 2 = kO := ⟨_, rfl⟩
    have hkl := pk_lt a1 2 (by omega)
    have cP : ∀ w, Calls Tryd.prog 21 #[.int .i64 a1, .int .i64 2] w fun e w' => e = .returned (.int .i64 (kO : Int)) ∧ w' = w := fun w => by rw [← hkO]; exact pick_at a1 2 w (by omega) (by omega)
    rw [hkO] at hkl
    obtain ⟨o, ho⟩ : ∃ o : Bool, (if o then (1 : Int) else 0) = (kO : Int) := by
      rcases (show kO = 0 ∨ kO = 1 by omega) with rfl | rfl
      · exact ⟨false, rfl⟩
      · exact ⟨true, rfl⟩
    have hO : (kO : Int) = 0 ∨ (kO : Int) = 1 := by omega
    generalize (kO : Int) = O at *
    clear hkO hkl
    rcases signs_or l with hall | ⟨j, hj, hall, hno⟩
    · have cB := fun w hi => Encode_at a0 cap0 l w (by omega) hi hall
      have cD := fun w hi => Wide_at a0 cap0 l o O w ho (by omega) hi hall
      have hmem := mem_of_all hall
      have hel := eb_len l l.length
      have hwl := wb_len l o l.length
      have hSz := nums_size (eb l l.length)
      have hTz := nums_size (wb l o l.length)
      have hD := D_enc l hmem (strOfNums (eb l l.length)).size (by rw [hSz, eb_all]; exact Nat.le_refl _)
      rw [← eb_all] at hD
      have hN := narrow.NL_wb o l hmem
      have hsum := D_sum (strOfNums (eb l l.length)).size (strOfNums (eb l l.length)) (Nat.le_refl _)
      have hsg : sg (D (strOfNums (eb l l.length)).size (strOfNums (eb l l.length))) = l := by
        rw [hD]
        unfold sg
        rw [List.map_map]
        conv => rhs; rw [← List.map_id l]
        apply List.map_congr_left
        intro r hr
        have := hmem r hr
        show ((r.toNat : Nat) : Int) = r
        unfold sign at this
        omega
      have hpos := D_each (strOfNums (eb l l.length)).size (strOfNums (eb l l.length))
      generalize strOfNums (eb l l.length) = S at *
      generalize strOfNums (wb l o l.length) = T at *
      have cE := fun w hT => Decode_at S w (by omega) hT
      have cN := fun w => narrow.Narrow_at T o O w ho (by omega)
      rw [hN] at cN
      rw [hsg] at cE
      have hKl : (D S.size S).length = l.length := by rw [← hsg, sg_len]
      generalize D S.size S = L at *
      have HS : Hid (sum L = S.size) := hsum
      have HK : Hid (L.length = l.length) := hKl
      have k2 := sz_len L
      rw [hKl] at k2
      have hS4 : S.size ≤ 400 := by omega
      have HIl : ∀ w, In w a0 l → View w (.slice a0 l.length cap0) l := fun w h => view_in h
      have hll : l.length ≤ 100 := hl
      clear ho hO hall hfit hmem hel hwl hSz hTz hD hN hsum hsg hpos hKl
      obtain ⟨m, hm⟩ : ∃ m, l.length = m := ⟨_, rfl⟩
      have HM : Hid (l.length = m) := hm
      rw [hm] at hl hll hz cB cD k2 HK HIl ⊢
      clear hm
      go_enter Tryd.func6, Tryd.ntmps6
      go_wp2_with (first
        | (go_at_call 20; refine (cF _ HT.out).mono ?_; rintro e wa ⟨rfl, hba⟩; have hia := HI.out.step hba)
        | (go_at_call 21; refine (cP _).mono ?_; rintro e wc ⟨rfl, rfl⟩)
        | (go_at_call 12; refine (cB _ hia).mono ?_; rintro e w2 ⟨rfl, hb2⟩; have hi2 := hia.step hb2)
        | (go_at_call 14; refine (cD _ hi2).mono ?_; rintro e w3 ⟨rfl, hb3⟩; have hi3 := hi2.step hb3)
        | (go_at_call 9; refine (cE _ (HT.out.step ((hba.trans hb2).trans hb3))).mono ?_; rintro e w4 ⟨v1, v2, rfl, ho4, hb4⟩; obtain ⟨p2, c2, rfl, hin2⟩ := view_own ho4.b; have hv1 := view_own ho4.a; have hi4 := hi3.step hb4; clear ho4)
        | (go_at_call 17; refine (cN _).mono ?_; rintro e w5 ⟨v3, rfl, ho5, hb5⟩; have hv3 := view_own ho5; have hin5 := hin2.step hb5; have hv1' := hv1.step hb5; have hi5 := hi4.step hb5; clear ho5))
      have H2 : Hid (In w5 p2 (sz L)) := hin5
      have HV1 : Hid (View w5 v1 l) := hv1'
      have HV3 : Hid (View w5 v3 l) := hv3
      have HI5 : Hid (In w5 a0 l) := hi5
      have HW : Hid (Bl w w5) := (((hba.trans hb2).trans hb3).trans hb4).trans hb5
      clear hin5 hv1' hv3 hi5 hin2 hv1 hi4 hi3 hi2 hia
      go_loopw [13, 14] (fun av iv wr => ∃ (i A : Nat), iv = .int .i64 (i : Int) ∧ i ≤ m ∧ av = .int .i64 (A : Int) ∧ A ≤ 400 ∧ Hid (A = sum (L.take i)) ∧ wr = w5) (fun _ iv _ => m - (intOf iv).toNat)
      case atStart => exact ⟨0, 0, rfl, Nat.zero_le _, rfl, by omega, rfl, rfl⟩
      case round =>
        obtain ⟨i, A, rfl, hi, rfl, hA, HA, rfl⟩ := hrel
        by_cases hlt : i < m
        · have hlz : (i : Int) < (m : Int) := by omega
          have hiL : i < L.length := by rw [HK.out]; exact hlt
          obtain ⟨x2, rfl, hc⟩ := H2.out.at i (by rw [k2]; exact hlt)
          rw [sz_at L i hiL] at hc
          have hss := sum_succ L i hiL
          have hsl := sum_le L (i + 1)
          rw [HS.out] at hsl
          generalize (L[i]).2 = N2 at hc hss
          rw [← HA.out] at hss
          have hA3 : A + N2 ≤ 400 := by omega
          have HA' : Hid (A + N2 = sum (L.take (i + 1))) := hss.symm
          clear hss hsl
          go_wp2
          go_roundw
          case rel => exact ⟨i + 1, A + N2, by go_num, by omega, by go_num, by omega, HA', by first | rfl | trivial⟩
          case measure => simp [intOf]; omega
        · obtain rfl : i = m := by omega
          have hAs : A = S.size := by rw [HA.out, ← HS.out, List.take_of_length_le (by rw [HK.out]; exact Nat.le_refl _)]
          subst hAs
          clear HA
          go_wp2_with (first
            | (go_at_call_of 23 v1; refine (equal_at v1 _ l _ HV1.out (HIl _ HI5.out) (by rw [HM.out]; omega)).mono ?_; rintro e w6 ⟨rfl, hb6⟩)
            | (go_at_call_of 23 v3; refine (equal_at v3 _ l _ (HV3.out.step hb6) (HIl _ (HI5.out.step hb6)) (by rw [HM.out]; omega)).mono ?_; rintro e w7 ⟨rfl, hb7⟩))
          all_goals go_ret
          all_goals exact ⟨by simp, (HW.out.trans hb6).trans hb7⟩
    · have cB := fun w hi => Encode_no a0 cap0 l j w (by omega) hi hj hall hno hfit
      have cD := fun w hi => Wide_no a0 cap0 l j O w hO (by omega) hi hj hall hno hfit
      clear ho hO hall hfit hno hj
      generalize l.length = m at *
      go_enter Tryd.func6, Tryd.ntmps6
      go_wp2_with (first
        | (go_at_call 20; refine (cF _ HT.out).mono ?_; rintro e wa ⟨rfl, hba⟩; have hia := HI.out.step hba)
        | (go_at_call 21; refine (cP _).mono ?_; rintro e wc ⟨rfl, rfl⟩)
        | (go_at_call 12; refine (cB _ hia).mono ?_; rintro e w2 ⟨rfl, ha0, ha1, hg2⟩; have hi2 := hia.step hg2.bl)
        | (go_at_call 14; refine (cD _ hi2).mono ?_; rintro e w4 ⟨b, rfl, hd0, hd1, hb4⟩; have ha0' := enc.at_bl hb4 ha0; have hL4 := HG.out.bl ((hba.trans hg2.bl).trans hb4))
        | (go_at_call_of 22 b; refine (tell_at 1 b _ (hL4.bl hb5.bl) (enc.at_bl hb5.bl hd0)).mono ?_; rintro e w6 ⟨rfl, hb6⟩)
        | (go_at_call 22; refine (tell_at 1 _ _ hL4 ha0').mono ?_; rintro e w5 ⟨rfl, hb5⟩))
      all_goals go_ret
      all_goals exact ⟨by simp, (((hba.trans hg2.bl).trans hb4).trans hb5.bl).trans hb6.bl⟩
  · have hz : (100 : Int) < (l.length : Int) := by omega
    generalize l.length = m at *
    go_enter Tryd.func6, Tryd.ntmps6
    go_wp2_with (go_at_call 20; refine (cF _ HT.out).mono ?_; rintro e wa ⟨rfl, hba⟩)
    go_ret
    exact ⟨rfl, hba⟩

set_option maxRecDepth 100000 in
theorem lifted (os : Os) (started : os.Started) (H : Type) (enc : TypeId × Value → H) :
    ReturnsInHanded {} Tryd.checked os 6 .any (fun w args => (Rows.textBackSpec.pre enc Tryd.prog Tryd.f6 [] false w args ∧ laidMetH Tryd.prog laidte.list w) ∧ sizedMet enc Tryd.prog Tryd.f6 (OpenSpec.ofChange Rows.textBackSpec) false w args) (Rows.textBackSpec.post enc Tryd.prog Tryd.f6 false true false false) := by
  refine returnsInHanded_of_change_and (C := Tryd.checked) (X := fun w _ => laidMetH Tryd.prog laidte.list w) (fun _ _ _ hh h => h.of_heap hh) own started (by kernel_rfl) Tryd.func6
    (ChangeSpec.witness_shaped (enc := enc) (C := Tryd.checked) (os := os) (X := fun w _ => laidMetH Tryd.prog laidte.list w) false (World.layVars Tryd.prog (laying.layCell (World.holding Tryd.prog os ⟨#[], #[], []⟩)) laidte.plain) #[.slice none 0 0, .int .i64 0] 8 (World.layVars_os _ _ _) (World.shaped_of_ZipB (by kernel_rfl) (by kernel_rfl)) (by kernel_rfl) (by kernel_rfl) (by kernel_rfl) (laidte.world_met os _)) ?_
  intro W base args ds gs before hval0 hW hcnd hsz0 hL _
  have hval : ∀ (j : Nat) t v, Tryd.f6.params[j]? = some t → args[j]? = some v → Value.okWide Tryd.prog W .any base t v := hval0
  have hW' := hW
  obtain ⟨p, q, hA0, hV, rfl, hfz, hnd⟩ := hW
  have hA : DataW.TrodAll enc Tryd.prog W 0 (fun _ => true) true Tryd.f6.params.toList args.toList ds p := hA0
  have hsz : (DataW.weightsEach Tryd.prog (Tryd.f6.params.toList ++ Rows.textBackSpec.plain.varTypes Tryd.prog) (ds ++ gs)).all (· ≤ reachBytes) = true := hsz0
  rw [Tryd.params6] at hA hval hsz
  obtain ⟨v0, vs0, d0, ds0, p0, q0, hargs, rfl, rfl, h0, r0⟩ := trodAll_cons hA
  obtain ⟨v1, vs1, d1, ds1, p1, q1, rfl, rfl, rfl, h1, r1⟩ := trodAll_cons r0
  obtain ⟨rfl, rfl, rfl⟩ := trodAll_nil r1
  obtain rfl : args = #[v0, v1] := by cases args; simp_all
  obtain ⟨rfl, rfl⟩ := trodVars_none hV
  obtain ⟨a0, len0, cap0, rfl⟩ := okWide_slice Tryd.underlying22 (hval 0 22 v0 rfl rfl)
  have k0 := h0
  have lt0 : ∀ x ∈ p0, x.block < W.heap.size := by obtain ⟨m, hm⟩ := k0; exact DataW.trod_lt m _ _ _ hm
  obtain ⟨z0, w0⟩ : ∃ zs, IsRow .i64 W a0 len0 cap0 zs := by
    obtain ⟨fuel, hf⟩ := h0
    rcases open_ints Tryd.underlying22 Tryd.underlying3 (by kernel_rfl) hf with ⟨hcs, _⟩ | ⟨x, l, c, zs, hcs, _, hl, hm, hz, _, hcell, hwz⟩
    · simp [Value.cells] at hcs
      obtain ⟨rfl, rfl, rfl⟩ := hcs
      exact ⟨[], .inl ⟨rfl, rfl, rfl, rfl⟩⟩
    · simp [Value.cells] at hcs
      obtain ⟨rfl, rfl, rfl⟩ := hcs
      exact ⟨zs, .inr ⟨_, rfl, hl, hm, by simpa using hz, hcell, hwz⟩⟩
  obtain ⟨a1, rfl, rfl, rfl, w1⟩ := open_int Tryd.underlying3 (hval 1 3 v1 rfl rfl) h1
  clear hA0 hval0 hsz0 hsz
  refine (walk a0 len0 cap0 z0 a1 W w0 w1 ⟨laidte.handle_of_laid hL, laidte.tabs_of_laid hL⟩).mono fun e W' ⟨he, bel⟩ => ?_
  subst he
  exact ⟨_, rfl, _, _, _, [], _, [], hW', trodAll_mk1 (shut_bool Tryd.underlying4 _), (trodAll_cons_mk (Below.trod laidOut (by kernel_rfl) (of_decide_eq_true (by kernel_rfl)) k0 bel lt0) (trodAll_cons_mk (shut_int Tryd.underlying3 w1) trodAll_mk0)), rfl, bel.frame _, fun h => by cases h⟩

theorem over : Rows.textBackRow.holds Tryd.pinned (OpenSpec.ofChange Rows.textBackSpec) :=
  OpenClaim.holds_of_wide 6 Tryd.f6 rfl rfl rfl rfl rfl rfl rfl ⟨rfl, rfl, rfl, rfl, rfl⟩ rfl rfl rfl rfl rfl (by kernel_rfl) Tryd.func6 (by kernel_rfl)
    (of_decide_eq_true (by kernel_rfl)) (by unfold Func.isWrapper; first | (rw [if_pos (by decide +kernel)]; kernel_rfl) | (rw [if_neg (by decide +kernel)]; exact ⟨rfl, rfl⟩))
    (fun os started H enc _ => lifted os started H enc)

theorem tied : Rows.TextBackCardSaid :=
  Claim7.holds_tied_plain_at .later [] [.data, .handle, .pinned] true (true, "da50a35cb85e1b5f2dec0d1fb941b3ff753e9b6ae2dc4309d0212b04c63d48c4") true
    over (fun _ h => by cases h) (by kernel_rfl) (fun _ h => by cases h) textBack_row_tie rfl ⟨rfl, rfl⟩ (by kernel_rfl) rfl
    (fun f fn hf hfn => by
      obtain rfl : f = 6 := Option.some.inj ((show Tryd.prog.funcNamed "escritoire/escritoirekeep.TextBack" = some 6 by kernel_rfl).symm.trans hf) |>.symm
      obtain rfl : fn = Tryd.f6 := (Option.some.inj (Tryd.func6.symm.trans hfn)).symm
      exact ⟨by kernel_rfl, fun j t ht => by
        rw [Tryd.params6] at ht
        rcases j with _ | j
        · obtain rfl : t = 22 := by simpa using ht.symm
          exact (show Tryd.prog.wantsStandIn 22 = false by kernel_rfl)
        · rcases j with _ | j
          · obtain rfl : t = 3 := by simpa using ht.symm
            exact (show Tryd.prog.wantsStandIn 3 = false by kernel_rfl)
          · simp at ht⟩)
    (by kernel_rfl)
end Go.Proofs.YtaboemchkmmgeaaDoor.textBack
namespace Go.Proofs.YtaboemchkmmgeaaDoor
/-- The given statement. -/
theorem textBack_holds : Rows.TextBackCardSaid := textBack.tied
#print axioms textBack_holds
end Go.Proofs.YtaboemchkmmgeaaDoor
