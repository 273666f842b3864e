/- The law TextWhole holds for every text and every cut: the signs of any bytes take all of them, one at least each; where none is bad they are written as those bytes; and the pieces between signs are read as these signs. -/
import Derived.Test.YtaboemchkmmgeaaDoorRows
import Derived.WalkKit
import Derived.ProofKit
import Derived.OpenShut
import Derived.SizedLaws
import Derived.Test.YtaboemchkmmgeaaDoorLaidT
import Derived.Test.YtaboemchkmmgeaaDoorTie
import Derived.Test.YtaboemchkmmgeaaDoorCards
import Derived.SevenTiedAt
import Derived.Test.YtaboemchkmmgeaaDoorKeep3
import Derived.ShutString
namespace Go.Proofs.YtaboemchkmmgeaaDoor.textWhole
open Go.ChangeShapes Go.WideShapes Go.ChangeAt Go.RowKit
open Go.ChangeMaps (open_string shut_string)
set_option linter.unusedVariables false      -- a walk need not use every 'w<i>' (that an integer argument fits its kind)

theorem own : ownKnob Tryd.prog.godebug = none := by kernel_rfl

open mem rows utf enc keep
set_option maxRecDepth 100000 in
set_option maxHeartbeats 4000000 in
theorem walk (a0 : ByteArray) (a1 : Int) (w0 : a0.size ≤ 140737488351232) (w1 : (Lit.int .i64 a1).wf = true) (w : World) (hg : utf.Tabs w) :
    Calls Tryd.prog 7 #[.string a0, .int .i64 a1] w fun e w' => e = .returned (.bool true) ∧ Below w.heap.size w w' := by
  have HG : Hid (Tabs w) := hg
  have b1 := bounds_i64 w1
  clear hg w0 w1
  have cF := fun w hT => signed_at w hT
  by_cases hl : a0.size ≤ 200
  · have hz : ¬ ((200 : Int) < (a0.size : Int)) := by omega
    have cD := fun w hT => Decode_at a0 w (by omega) hT
    have hD := D_len a0.size a0
    have HS : Hid (sum (D a0.size a0) = a0.size) := D_sum a0.size a0 (Nat.le_refl _)
    have HE : Hid (∀ p ∈ D a0.size a0, sign (p.1 : Int) ∧ 1 ≤ p.2) := D_each a0.size a0
    have HB : Hid ((∀ p ∈ D a0.size a0, p.1 ≠ 65533) → strOfNums ((sg (D a0.size a0)).flatMap Go.Lib.encodeRuneZ) = a0) := fun h => by
      rw [D_back a0.size a0 (Nat.le_refl _) h, bs_nums]
    have HT : Hid (∀ k, k ≤ (D a0.size a0).length → D (a0.extract 0 (sum ((D a0.size a0).take k))).size (a0.extract 0 (sum ((D a0.size a0).take k))) = (D a0.size a0).take k) := fun k hk => by
      exact (D_fuel _ a0.size _ (Nat.le_refl _) (by rw [ByteArray.size_extract]; omega)).trans (D_take a0.size a0 (Nat.le_refl _) k hk)
    generalize D a0.size a0 = L at *
    have k1 := sg_len L
    have k2 := sz_len L
    obtain ⟨K, hK⟩ : ∃ K, L.length = K := ⟨_, rfl⟩
    rw [hK] at k1 k2 hD
    have HK : Hid (L.length = K) := hK
    clear hK
    go_enter Tryd.func7, Tryd.ntmps7
    go_wp2_with (first
      | (go_at_call 20; refine (cF _ HG.out).mono ?_; rintro e wa ⟨rfl, hba⟩)
      | (go_at_call 9; refine (cD _ (HG.out.step hba)).mono ?_; rintro e wb ⟨v1, v2, rfl, ho, hbb⟩; obtain ⟨p1, c1, rfl, hi1, hc1, hm1, hp1⟩ := view_full ho.a; obtain ⟨p2, c2, rfl, hi2⟩ := view_own ho.b; clear ho))
    have H1 : Hid (In wb p1 (sg L)) := hi1
    have H2 : Hid (In wb p2 (sz L)) := hi2
    have HW : Hid (Bl w wb) := hba.trans hbb
    clear hi1 hi2
    go_loopw [7, 8, 9, 10] (fun av bv ev iv wr => ∃ (i A : Nat) (b : Bool), iv = .int .i64 (i : Int) ∧ i ≤ K ∧ av = .int .i64 (A : Int) ∧ A ≤ 200 ∧ Hid (A = sum (L.take i)) ∧ bv = .bool b ∧ Hid (b = true ↔ Bad L i) ∧ Own wr wb.heap.size ev (E L i) ∧ Bl wb wr) (fun _ _ _ iv _ => K - (intOf iv).toNat)
    case atStart => exact ⟨0, 0, false, rfl, Nat.zero_le _, rfl, by omega, rfl, rfl, ⟨fun h => Bool.noConfusion h, fun h => absurd h (Bad_zero L)⟩, own_lit wb _ [0] (Nat.le_refl _) (by decide), (Bl.refl _).alloc _⟩
    case round =>
      obtain ⟨i, A, b, rfl, hi, rfl, hA2, HA, rfl, HBd, hown, hbl⟩ := hrel
      rename World => wr
      have hbb2 : wb.heap.size ≤ wr.heap.size := hbl.size
      by_cases hlt : i < K
      · have hlz : (i : Int) < (K : Int) := by omega
        have hiL : i < L.length := by rw [HK.out]; exact hlt
        obtain ⟨x2, rfl, hw2⟩ := H2.out.at i (by rw [k2]; exact hlt)
        obtain ⟨x1, rfl, hw1⟩ := H1.out.at i (by rw [k1]; exact hlt)
        rw [sz_at L i hiL] at hw2
        rw [sg_at L i hiL] at hw1
        have hss := sum_succ L i hiL
        have hsl := sum_le L (i + 1)
        rw [HS.out] at hsl
        have hN := (HE.out _ (List.getElem_mem hiL)).2
        have hsn := (HE.out _ (List.getElem_mem hiL)).1
        have hbs := Bad_succ L i hiL
        generalize (L[i]).2 = N2 at hw2 hss hN
        generalize (L[i]).1 = R1 at hw1 hbs hsn
        have hcx2 := enc.at_bl hbl hw2
        have hcx1 := enc.at_bl hbl hw1
        have HW2 : Hid (wb.cell? (x2.add i) = some (.int .i64 N2)) := hw2
        have HW1 : Hid (wb.cell? (x1.add i) = some (.int .i64 R1)) := hw1
        clear hw1 hw2
        rw [← HA.out] at hss
        have hA3 : A + N2 ≤ a0.size := by omega
        have HA' : Hid (A + N2 = sum (L.take (i + 1))) := hss.symm
        have HEs : Hid (E L (i + 1) = E L i ++ [((A : Int) + (N2 : Int))]) := by
          rw [E_succ, hss]; simp [Hid]
        have hel := E_len L i
        have n1 : ¬ ((N2 : Int) < 1) := by omega
        have n2 : ¬ ((a0.size : Int) < (A : Int) + (N2 : Int)) := by omega
        have hR : R1 ≤ 1114111 := by unfold sign at hsn; omega
        have hcase : (b = true ∧ Bad L (i + 1)) ∨ (b = false ∧ ((R1 : Int) == 65533) = true ∧ Bad L (i + 1)) ∨ (b = false ∧ ((R1 : Int) == 65533) = false ∧ ¬ Bad L (i + 1)) := by
          have hB := HBd.out
          cases b with
          | true => exact Or.inl ⟨rfl, hbs.2 (Or.inl (hB.1 rfl))⟩
          | false =>
            have hnb : ¬ Bad L i := fun h => Bool.noConfusion (hB.2 h)
            by_cases hr : R1 = 65533
            · exact Or.inr (Or.inl ⟨rfl, by rw [beq_iff_eq]; omega, hbs.2 (Or.inr hr)⟩)
            · exact Or.inr (Or.inr ⟨rfl, by rw [beq_eq_false_iff_ne]; omega, fun h => (hbs.1 h).elim hnb hr⟩)
        clear hss hsl hsn hbs HBd hN
        rcases hcase with ⟨rfl, hbad⟩ | ⟨rfl, hr, hbad⟩ | ⟨rfl, hr, hbad⟩
        all_goals
          have HBd' : Hid _ := hbad
          clear hbad
          go_wp2_with (at_builtin; refine wpL_app rfl (.tmp 44) (.tmp 46) rfl rfl _ _ ((A : Int) + (N2 : Int)) _ rfl rfl _ (hown.step ((Bl.refl _).alloc _)) (by go_simp) (by omega) (Nat.le_trans hbb2 (by simp)) ?_; intro v' w3 hw3 hg3 hv3; have hb3 : Bl wb w3 := bl_grown (hbl.alloc _) hg3 (fun k e => (hown.block k e).1); have hcx2' := enc.at_bl hb3 HW2.out; have hcx1' := enc.at_bl hb3 HW1.out)
          go_roundw
          case rel => exact ⟨i + 1, A + N2, _, by go_num, by omega, by go_num, by omega, HA', rfl, (by first | exact ⟨fun _ => HBd'.out, fun _ => rfl⟩ | exact ⟨fun h => Bool.noConfusion h, fun h => absurd h HBd'.out⟩), by rw [HEs.out]; exact hw3, hb3⟩
          case measure => simp [intOf]; omega
      · obtain rfl : i = K := by omega
        have hAs : A = a0.size := by rw [HA.out, ← HS.out, List.take_of_length_le (by rw [HK.out]; exact Nat.le_refl _)]
        subst hAs
        have hlz : ¬ ((i : Int) < (i : Int)) := by omega
        have ke := E_len L i
        obtain ⟨k, hk⟩ : ∃ k, pk a1 (i + 1) = k := ⟨_, rfl⟩
        have hki : k ≤ i := by have := pk_lt a1 (i + 1) (by omega); omega
        have cP : ∀ w, Calls Tryd.prog 21 #[.int .i64 a1, .int .i64 ((i : Int) + 1)] w fun e w' => e = .returned (.int .i64 (k : Int)) ∧ w' = w := fun w => by rw [← hk]; exact pick_at a1 (i + 1) w (by omega) (by omega)
        rcases hown.shape with ⟨_, e⟩ | ⟨g, cap, rfl, _, _, hgc, hgm, hcells⟩
        · rw [e] at ke; exact absurd ke (by simp)
        have hce := hcells k (by rw [ke]; omega)
        rw [E_get L i k hki] at hce
        have hse := sum_le L k
        rw [HS.out] at hse
        have hTk := HT.out k (by rw [HK.out]; exact hki)
        obtain ⟨e, he⟩ : ∃ e, sum (L.take k) = e := ⟨_, rfl⟩
        rw [he] at hce hse hTk
        have cD2 := fun w hT => Decode_at (a0.extract 0 e) w (by rw [ByteArray.size_extract]; omega) hT
        rw [hTk] at cD2
        have cE := fun w hi => Encode_at p1 c1 (sg L) w (by rw [k1]; omega) hi (fun j hj => by
          rw [k1] at hj
          have hjL : j < L.length := by rw [HK.out]; exact hj
          rw [sg_at L j hjL]
          exact (HE.out _ (List.getElem_mem hjL)).1)
        rw [eb_all] at cE
        have hks : (sg (L.take k)).length = k := by rw [sg_len, List.length_take, HK.out]; omega
        have hvw : ∀ w, In w p1 (sg L) → View w (.slice p1 k c1) (sg (L.take k)) := fun w h => ⟨p1, c1, by rw [hks], by rw [sg_take]; exact keep.In.take h k⟩
        have hkz : (k : Int) ≤ (i : Int) := by omega
        have hez : (e : Int) ≤ (a0.size : Int) := by omega
        have hkc : (k : Int) ≤ (c1 : Int) := by omega
        have hTb : b = false → strOfNums ((sg L).flatMap Go.Lib.encodeRuneZ) = a0 := fun hb => HB.out (fun p hp hpe => by
          have hB := HBd.out.2 ⟨p, by rw [List.take_of_length_le (by rw [HK.out]; exact Nat.le_refl _)]; exact hp, hpe⟩
          rw [hb] at hB
          cases hB)
        rw [k1] at cE
        rw [ke] at hcells
        clear hk he hTk hown hcells HBd
        cases b with
        | true =>
          generalize strOfNums ((sg L).flatMap Go.Lib.encodeRuneZ) = T at cE
          clear hTb
          rcases hp1 with ⟨rfl, rfl⟩ | ⟨x, rfl⟩
          all_goals
            go_wp2_with (first
              | (go_at_call 21; refine (cP _).mono ?_; rintro e wc ⟨rfl, rfl⟩)
              | (go_at_call 9; refine (cD2 _ (HG.out.step (HW.out.trans hbl))).mono ?_; rintro e wd ⟨v3, v4, rfl, ho3, hb3⟩; have hin3 := H1.out.step (hbl.trans hb3))
              | (go_at_call 12; refine (cE _ hin3).mono ?_; rintro e we ⟨rfl, hb4⟩; have ho4 := ho3.step hb4; have hin4 := hin3.step hb4)
              | (go_at_call 23; refine (equal_at v3 _ (sg (L.take k)) _ (view_own ho4.a) (hvw _ hin4) (by rw [hks]; omega)).mono ?_; rintro e wf ⟨rfl, hb5⟩))
            all_goals go_ret
            all_goals exact ⟨by simp, (((HW.out.trans hbl).trans hb3).trans hb4).trans hb5⟩
        | false =>
          rw [hTb rfl] at cE
          clear hTb
          rcases hp1 with ⟨rfl, rfl⟩ | ⟨x, rfl⟩
          all_goals
            go_wp2_with (first
              | (go_at_call 21; refine (cP _).mono ?_; rintro e wc ⟨rfl, rfl⟩)
              | (go_at_call 9; refine (cD2 _ (HG.out.step (HW.out.trans hbl))).mono ?_; rintro e wd ⟨v3, v4, rfl, ho3, hb3⟩; have hin3 := H1.out.step (hbl.trans hb3))
              | (go_at_call 12; refine (cE _ hin3).mono ?_; rintro e we ⟨rfl, hb4⟩; have ho4 := ho3.step hb4; have hin4 := hin3.step hb4)
              | (go_at_call 23; refine (equal_at v3 _ (sg (L.take k)) _ (view_own ho4.a) (hvw _ hin4) (by rw [hks]; omega)).mono ?_; rintro e wf ⟨rfl, hb5⟩))
            all_goals go_ret
            all_goals exact ⟨by simp, (((HW.out.trans hbl).trans hb3).trans hb4).trans hb5⟩
  · have hz : (200 : Int) < (a0.size : Int) := by omega
    go_enter Tryd.func7, Tryd.ntmps7
    go_wp2_with (go_at_call 20; refine (cF _ HG.out).mono ?_; rintro e wa ⟨rfl, hba⟩)
    go_ret
    exact ⟨rfl, hba⟩

set_option maxRecDepth 100000 in
theorem lifted (os : Os) (started : os.Started) (H : Type) (enc : TypeId × Value → H) :
    ReturnsInHanded {} Tryd.checked os 7 .any (fun w args => (Rows.textWholeSpec.pre enc Tryd.prog Tryd.f7 [] false w args ∧ laidMetH Tryd.prog laidt.list w) ∧ sizedMet enc Tryd.prog Tryd.f7 (OpenSpec.ofChange Rows.textWholeSpec) false w args) (Rows.textWholeSpec.post enc Tryd.prog Tryd.f7 false true false false) := by
  refine returnsInHanded_of_change_and (C := Tryd.checked) (X := fun w _ => laidMetH Tryd.prog laidt.list w) (fun _ _ _ hh h => h.of_heap hh) own started (by kernel_rfl) Tryd.func7
    (ChangeSpec.witness_shaped (enc := enc) (C := Tryd.checked) (os := os) (X := fun w _ => laidMetH Tryd.prog laidt.list w) false (World.layVars Tryd.prog (World.holding Tryd.prog os ⟨#[], #[], []⟩) laidt.list) #[.string ByteArray.empty, .int .i64 0] 8 (World.layVars_os _ _ _) (World.shaped_of_ZipB (by kernel_rfl) (by kernel_rfl)) (by kernel_rfl) (by kernel_rfl) (by kernel_rfl) (laidt.world_met os _)) ?_
  intro W base args ds gs before hval0 hW hcnd hsz0 hL _
  have hval : ∀ (j : Nat) t v, Tryd.f7.params[j]? = some t → args[j]? = some v → Value.okWide Tryd.prog W .any base t v := hval0
  have hW' := hW
  obtain ⟨p, q, hA0, hV, rfl, hfz, hnd⟩ := hW
  have hA : DataW.TrodAll enc Tryd.prog W 0 (fun _ => true) true Tryd.f7.params.toList args.toList ds p := hA0
  have hsz : (DataW.weightsEach Tryd.prog (Tryd.f7.params.toList ++ Rows.textWholeSpec.plain.varTypes Tryd.prog) (ds ++ gs)).all (· ≤ reachBytes) = true := hsz0
  rw [Tryd.params7] at hA hval hsz
  obtain ⟨v0, vs0, d0, ds0, p0, q0, hargs, rfl, rfl, h0, r0⟩ := trodAll_cons hA
  obtain ⟨v1, vs1, d1, ds1, p1, q1, rfl, rfl, rfl, h1, r1⟩ := trodAll_cons r0
  obtain ⟨rfl, rfl, rfl⟩ := trodAll_nil r1
  obtain rfl : args = #[v0, v1] := by cases args; simp_all
  obtain ⟨rfl, rfl⟩ := trodVars_none hV
  obtain ⟨a0, rfl, rfl, rfl, w0⟩ := open_string Tryd.underlying9 (hval 0 9 v0 rfl rfl) h0
  have z0 : a0.size ≤ 140737488351232 := sized_string hsz (j := 0) (t := 9) rfl rfl
  obtain ⟨a1, rfl, rfl, rfl, w1⟩ := open_int Tryd.underlying3 (hval 1 3 v1 rfl rfl) h1
  clear hA0 hval0 hsz0 hsz
  simp only [List.append_nil] at hW'
  refine (walk a0 a1 z0 w1 W (laidt.tabs_of_laid hL)).mono fun e W' ⟨he, hg⟩ => ?_
  subst he
  exact ⟨_, rfl, _, _, _, [], [], [], hW', (trodAll_cons_mk (shut_bool Tryd.underlying4 _) trodAll_mk0), (trodAll_cons_mk (shut_string Tryd.underlying9 w0) (trodAll_cons_mk (shut_int Tryd.underlying3 w1) trodAll_mk0)), rfl, hg.frame _, fun h => by cases h⟩

theorem over : Rows.textWholeRow.holds Tryd.pinned (OpenSpec.ofChange Rows.textWholeSpec) :=
  OpenClaim.holds_of_wide 7 Tryd.f7 rfl rfl rfl rfl rfl rfl rfl ⟨rfl, rfl, rfl, rfl, rfl⟩ rfl rfl rfl rfl rfl (by kernel_rfl) Tryd.func7 (by kernel_rfl)
    (of_decide_eq_true (by kernel_rfl)) (by unfold Func.isWrapper; first | (rw [if_pos (by decide +kernel)]; kernel_rfl) | (rw [if_neg (by decide +kernel)]; exact ⟨rfl, rfl⟩))
    (fun os started H enc _ => lifted os started H enc)

theorem tied : Rows.TextWholeCardSaid :=
  Claim7.holds_tied_plain_at .later [] [.data, .pinned] true (true, "da50a35cb85e1b5f2dec0d1fb941b3ff753e9b6ae2dc4309d0212b04c63d48c4") true
    over (fun _ h => by cases h) (by kernel_rfl) (fun _ h => by cases h) textWhole_row_tie rfl ⟨rfl, rfl⟩ (by kernel_rfl) rfl
    (fun f fn hf hfn => by
      obtain rfl : f = 7 := Option.some.inj ((show Tryd.prog.funcNamed "escritoire/escritoirekeep.TextWhole" = some 7 by kernel_rfl).symm.trans hf) |>.symm
      obtain rfl : fn = Tryd.f7 := (Option.some.inj (Tryd.func7.symm.trans hfn)).symm
      exact ⟨by kernel_rfl, fun j t ht => by
        rw [Tryd.params7] at ht
        rcases j with _ | j
        · obtain rfl : t = 9 := by simpa using ht.symm
          exact (show Tryd.prog.wantsStandIn 9 = false by kernel_rfl)
        · rcases j with _ | j
          · obtain rfl : t = 3 := by simpa using ht.symm
            exact (show Tryd.prog.wantsStandIn 3 = false by kernel_rfl)
          · simp at ht⟩)
    (by kernel_rfl)
end Go.Proofs.YtaboemchkmmgeaaDoor.textWhole
namespace Go.Proofs.YtaboemchkmmgeaaDoor
/-- The given statement. -/
theorem textWhole_holds : Rows.TextWholeCardSaid := textWhole.tied
#print axioms textWhole_holds
end Go.Proofs.YtaboemchkmmgeaaDoor
