/- SuffixSorts: the ends of any text in their order, what they have in common, where a pattern stands, the longest text that stands twice, and how many unlike texts there are, are the document's: for every input. -/
import Derived.Test.YtnhdaolieifhnaaGreatDoorRows
import Derived.WalkKit
import Derived.ProofKit
import Derived.OpenShut
import Derived.SizedLaws
import Derived.Test.YtnhdaolieifhnaaGreatDoorLaid
import Derived.Test.YtnhdaolieifhnaaGreatDoorTie
import Derived.Test.YtnhdaolieifhnaaGreatDoorCards
import Derived.SevenTiedAt
import Derived.Test.YtnhdaolieifhnaaGreatDoorSy6
import Derived.Test.YtnhdaolieifhnaaGreatDoorSy7
import Derived.Test.YtnhdaolieifhnaaGreatDoorFe1
import Derived.Test.YtnhdaolieifhnaaGreatDoorSame
import Derived.ShutString
namespace Go.Proofs.YtnhdaolieifhnaaGreatDoor.suffixSorts
open Go.ChangeShapes Go.WideShapes Go.ChangeAt Go.RowKit
open Go.ChangeMaps (open_string shut_string)
set_option linter.unusedVariables false      -- a walk need not use every 'w<i>' (that an integer argument fits its kind)

theorem own : ownKnob Tryz.prog.godebug = none := by kernel_rfl

open mem rows fd find errs sx
theorem laid_bl {w w' : World} (h : Laid w) (g : Bl w w') : Laid w' := by
  have hp := h.pos
  unfold Laid at h ⊢
  unfold World.cell? at h ⊢
  rw [Below.block g _ hp]
  exact h
theorem own_of {w : World} {A N : Nat} {l : List Int} (h : RowI w A l) (hl : l.length = N) (hN : N ≤ 4000) : Own w 0 (.slice (some ⟨A, 0, none⟩) N N) l := by
  subst hl
  exact h.own (Nat.zero_le _) (by omega)
theorem own_zero {w : World} {base : Nat} {v : Value} {l : List Int} (h : Own w base v l) : Own w 0 v l := own_mono h (Nat.zero_le _)
set_option maxHeartbeats 4000000 in
set_option maxRecDepth 100000 in
theorem walk (a0 : ByteArray) (a1 : ByteArray) (w0 : a0.size ≤ 140737488351232) (w1 : a1.size ≤ 140737488351232) (w : World) (hg : errs.Laid w) (hm : sx.Ml w) :
    Calls Tryz.prog 3 #[.string a0, .string a1] w fun e w' => e = .returned (.bool true) ∧ Below w.heap.size w w' := by
  clear w0 w1
  by_cases hp : a1.size ≤ 40
  · by_cases hs : a0.size ≤ 80
    · have t1 : decide ((80 : Int) < (a0.size : Int)) = false := decide_eq_false (by omega)
      have t3 : decide ((4009 : Int) < (a0.size : Int)) = false := decide_eq_false (by omega)
      have t4 : decide ((40 : Int) < (a1.size : Int)) = false := decide_eq_false (by omega)
      have t5 : ¬ (4000 : Int) < (a0.size : Int) := by omega
      by_cases h0 : a1.size = 0
      · have hne : a1.toList.isEmpty = true := by rw [isEmpty_at]; exact decide_eq_true h0
        go_enter Tryz.func3, Tryz.ntmps3
        go_wp2_with (fail)
        refine (Sort_at a0 _ (by omega)).mono ?_
        rintro e v1 ⟨A, rfl, hA, hb1, L, hr1, hL⟩
        go_wp2_with (fail)
        refine (Common_at a0 _ (by omega)).mono ?_
        rintro e v2 ⟨C, rfl, hC, hb2, L2, hr2, hL2⟩
        obtain rfl := hL2.same hL
        go_wp2_with (fail)
        refine (Find_arg a0 a1 _ h0).mono ?_
        rintro e v3 ⟨rfl, hb3⟩
        have ho3 : Own v3 0 (.slice none 0 0) [] := Own.nil _ _
        have hlen : ([] : List Int).length ≤ 5000 := by decide
        go_wp2_with (fail)
        refine (Longest_at a0 _ (by omega) (hm.step ((hb1.trans hb2).trans hb3))).mono ?_
        rintro e v4 ⟨t, rfl, hb4, L4, hL4, hT⟩
        obtain rfl := hL4.same hL
        go_wp2_with (fail)
        refine (Parts_at a0 _ (by omega)).mono ?_
        rintro e v5 ⟨n, rfl, hb5, L5, hL5, hn⟩
        obtain rfl := hL5.same hL
        have HN : Hid (n = (prt (gs a0) a0.size _).length) := hn
        clear hL2 hL4 hL5 hn
        have HB5 : Hid (Bl w v5) := (((hb1.trans hb2).trans hb3).trans hb4).trans hb5
        go_wp2_with (fail)
        refine (refAll_none a0 a1 _ h0).mono ?_
        rintro e v6 ⟨rfl, rfl⟩
        have hb6 : Bl v6 v6 := Bl.refl _
        have ho6 : Own v6 0 (.slice none 0 0) [] := Own.nil _ _
        go_wp2_with (fail)
        refine (refLongest_at a0 _ (by omega) (hm.step (HB5.out.trans hb6))).mono ?_
        rintro e v7 ⟨x, y, rfl, rfl, hRL⟩
        obtain ⟨rfl, rfl⟩ := hRL.is hL hT
        have HB7 : Hid (Bl w v7) := HB5.out.trans hb6
        clear hRL hT
        generalize ix a0 t = X
        generalize t.size = Y
        go_wp2_with (fail)
        refine (bare_errno 1 1 _ (laid_bl hg HB7.out)).mono ?_
        rintro e v8 ⟨rfl, hg8⟩
        have hb8 := hg8.bl
        go_wp2_with (fail)
        refine (refSort_at a0 _ (by omega)).mono ?_
        rintro e v9 ⟨A2, rfl, hA2, hb9, L9, hr9, hL9⟩
        rw [hL9.same hL] at hr9
        clear hL9
        go_wp2_with (fail)
        refine (same_at _ _ _ _ 0 0 (own_of (hr1.step ((((((hb2.trans hb3).trans hb4).trans hb5).trans hb6).trans hb8).trans hb9)) (by rw [ints_len, hL.len]) (by omega)) (own_of hr9 (by rw [ints_len, hL.len]) (by omega)) (by rw [ints_len, hL.len]; omega)).mono ?_
        rintro e v10 ⟨rfl, hb10⟩
        go_wp2_with (fail)
        refine (refCommon_at a0 _ (by omega)).mono ?_
        rintro e v11 ⟨C2, rfl, hC2, hb11, L11, hr11, hL11⟩
        rw [hL11.same hL] at hr11
        clear hL11
        go_wp2_with (fail)
        refine (same_at _ _ _ _ 0 0 (own_of (hr2.step (((((((hb3.trans hb4).trans hb5).trans hb6).trans hb8).trans hb9).trans hb10).trans hb11)) (by rw [com_len]) (by omega)) (own_of hr11 (by rw [com_len]) (by omega)) (by rw [com_len]; omega)).mono ?_
        rintro e v12 ⟨rfl, hb12⟩
        go_wp2_with (fail)
        refine (same_at _ _ _ _ 0 0 (own_zero (ho3.step (((((((hb4.trans hb5).trans hb6).trans hb8).trans hb9).trans hb10).trans hb11).trans hb12))) (own_zero (ho6.step ((((hb8.trans hb9).trans hb10).trans hb11).trans hb12))) hlen).mono ?_
        rintro e v13 ⟨rfl, hb13⟩
        go_wp2_with (fail)
        refine (refParts_at a0 _ (by omega)).mono ?_
        rintro e v14 ⟨k, rfl, hb14, K, hk, hKn, hK⟩
        have hkn : k = n := by rw [hk, HN.out]; exact parts_same hL hKn hK
        subst hkn
        clear hk hKn hK HN
        have HE : Hid (Bl w v14) := ((((((HB7.out.trans hb8).trans hb9).trans hb10).trans hb11).trans hb12).trans hb13).trans hb14
        go_wp2
        go_ret
        exact ⟨rfl, HE.out⟩
      · have hne : a1.toList.isEmpty = false := by rw [isEmpty_at]; exact decide_eq_false h0
        have hrefF := fun w => refAll_at a0 a1 w (by omega) (by omega) (by omega)
        go_enter Tryz.func3, Tryz.ntmps3
        go_wp2_with (fail)
        refine (Sort_at a0 _ (by omega)).mono ?_
        rintro e v1 ⟨A, rfl, hA, hb1, L, hr1, hL⟩
        go_wp2_with (fail)
        refine (Common_at a0 _ (by omega)).mono ?_
        rintro e v2 ⟨C, rfl, hC, hb2, L2, hr2, hL2⟩
        obtain rfl := hL2.same hL
        go_wp2_with (fail)
        refine (Find_at a0 a1 _ (by omega) (by omega)).mono ?_
        rintro e v3 ⟨vf, rfl, ho3, hb3⟩
        have hlen : (ints (pls (sb a1) (sb a0) a1.size a0.size)).length ≤ 5000 := by rw [ints_len]; have := pls_len (sb a1) (sb a0) a1.size a0.size (by omega); omega
        generalize ints (pls (sb a1) (sb a0) a1.size a0.size) = F at ho3 hlen hrefF
        go_wp2_with (fail)
        refine (Longest_at a0 _ (by omega) (hm.step ((hb1.trans hb2).trans hb3))).mono ?_
        rintro e v4 ⟨t, rfl, hb4, L4, hL4, hT⟩
        obtain rfl := hL4.same hL
        go_wp2_with (fail)
        refine (Parts_at a0 _ (by omega)).mono ?_
        rintro e v5 ⟨n, rfl, hb5, L5, hL5, hn⟩
        obtain rfl := hL5.same hL
        have HN : Hid (n = (prt (gs a0) a0.size _).length) := hn
        clear hL2 hL4 hL5 hn
        have HB5 : Hid (Bl w v5) := (((hb1.trans hb2).trans hb3).trans hb4).trans hb5
        go_wp2_with (fail)
        refine (hrefF _).mono ?_
        rintro e v6 ⟨vg, rfl, ho6, hb6⟩
        go_wp2_with (fail)
        refine (refLongest_at a0 _ (by omega) (hm.step (HB5.out.trans hb6))).mono ?_
        rintro e v7 ⟨x, y, rfl, rfl, hRL⟩
        obtain ⟨rfl, rfl⟩ := hRL.is hL hT
        have HB7 : Hid (Bl w v7) := HB5.out.trans hb6
        clear hRL hT
        generalize ix a0 t = X
        generalize t.size = Y
        go_wp2_with (fail)
        refine (bare_nil 0 _).mono ?_
        rintro e v8 ⟨rfl, rfl⟩
        have hb8 : Bl v8 v8 := Bl.refl _
        go_wp2_with (fail)
        refine (refSort_at a0 _ (by omega)).mono ?_
        rintro e v9 ⟨A2, rfl, hA2, hb9, L9, hr9, hL9⟩
        rw [hL9.same hL] at hr9
        clear hL9
        go_wp2_with (fail)
        refine (same_at _ _ _ _ 0 0 (own_of (hr1.step ((((((hb2.trans hb3).trans hb4).trans hb5).trans hb6).trans hb8).trans hb9)) (by rw [ints_len, hL.len]) (by omega)) (own_of hr9 (by rw [ints_len, hL.len]) (by omega)) (by rw [ints_len, hL.len]; omega)).mono ?_
        rintro e v10 ⟨rfl, hb10⟩
        go_wp2_with (fail)
        refine (refCommon_at a0 _ (by omega)).mono ?_
        rintro e v11 ⟨C2, rfl, hC2, hb11, L11, hr11, hL11⟩
        rw [hL11.same hL] at hr11
        clear hL11
        go_wp2_with (fail)
        refine (same_at _ _ _ _ 0 0 (own_of (hr2.step (((((((hb3.trans hb4).trans hb5).trans hb6).trans hb8).trans hb9).trans hb10).trans hb11)) (by rw [com_len]) (by omega)) (own_of hr11 (by rw [com_len]) (by omega)) (by rw [com_len]; omega)).mono ?_
        rintro e v12 ⟨rfl, hb12⟩
        go_wp2_with (fail)
        refine (same_at _ _ _ _ 0 0 (own_zero (ho3.step (((((((hb4.trans hb5).trans hb6).trans hb8).trans hb9).trans hb10).trans hb11).trans hb12))) (own_zero (ho6.step ((((hb8.trans hb9).trans hb10).trans hb11).trans hb12))) hlen).mono ?_
        rintro e v13 ⟨rfl, hb13⟩
        go_wp2_with (fail)
        refine (refParts_at a0 _ (by omega)).mono ?_
        rintro e v14 ⟨k, rfl, hb14, K, hk, hKn, hK⟩
        have hkn : k = n := by rw [hk, HN.out]; exact parts_same hL hKn hK
        subst hkn
        clear hk hKn hK HN
        have HE : Hid (Bl w v14) := ((((((HB7.out.trans hb8).trans hb9).trans hb10).trans hb11).trans hb12).trans hb13).trans hb14
        go_wp2
        go_ret
        exact ⟨rfl, HE.out⟩
    · by_cases hs2 : a0.size ≤ 4000
      · have t1 : decide ((80 : Int) < (a0.size : Int)) = true := decide_eq_true (by omega)
        have t2 : decide ((a0.size : Int) ≤ 4000) = true := decide_eq_true (by omega)
        go_enter Tryz.func3, Tryz.ntmps3
        go_wp2
        go_ret
        exact ⟨rfl, Below.refl _ _⟩
      · by_cases hs3 : a0.size ≤ 4009
        · have t1 : decide ((80 : Int) < (a0.size : Int)) = true := decide_eq_true (by omega)
          have t2 : decide ((a0.size : Int) ≤ 4000) = false := decide_eq_false (by omega)
          have t3 : decide ((4009 : Int) < (a0.size : Int)) = false := decide_eq_false (by omega)
          have t4 : decide ((40 : Int) < (a1.size : Int)) = false := decide_eq_false (by omega)
          have t5 : (4000 : Int) < (a0.size : Int) := by omega
          by_cases h0 : a1.size = 0
          · have hne : a1.toList.isEmpty = true := by rw [isEmpty_at]; exact decide_eq_true h0
            go_enter Tryz.func3, Tryz.ntmps3
            go_wp2_with (fail)
            refine (Sort_no a0 _ (by omega) (by omega)).mono ?_
            rintro e v1 ⟨rfl, rfl⟩
            go_wp2_with (fail)
            refine (Common_no a0 _ (by omega) (by omega)).mono ?_
            rintro e v2 ⟨rfl, rfl⟩
            go_wp2_with (fail)
            refine (Find_arg a0 a1 _ h0).mono ?_
            rintro e v3 ⟨rfl, hb3⟩
            go_wp2_with (fail)
            refine (Longest_no a0 _ (by omega) (by omega)).mono ?_
            rintro e v4 ⟨rfl, rfl⟩
            go_wp2_with (fail)
            refine (Parts_no a0 _ (by omega) (by omega)).mono ?_
            rintro e v5 ⟨rfl, rfl⟩
            go_wp2_with (fail)
            refine (bare_errno 4 4 _ (laid_bl hg hb3)).mono ?_
            rintro e v6 ⟨rfl, hb6⟩
            go_wp2_with (fail)
            refine (bare_errno 4 4 _ (laid_bl hg (hb3.trans hb6.bl))).mono ?_
            rintro e v7 ⟨rfl, hb7⟩
            go_wp2_with (fail)
            refine (bare_errno 1 1 _ (laid_bl hg ((hb3.trans hb6.bl).trans hb7.bl))).mono ?_
            rintro e v8 ⟨rfl, hb8⟩
            go_wp2_with (fail)
            refine (bare_errno 4 4 _ (laid_bl hg (((hb3.trans hb6.bl).trans hb7.bl).trans hb8.bl))).mono ?_
            rintro e v9 ⟨rfl, hb9⟩
            go_wp2_with (fail)
            refine (bare_errno 4 4 _ (laid_bl hg ((((hb3.trans hb6.bl).trans hb7.bl).trans hb8.bl).trans hb9.bl))).mono ?_
            rintro e v10 ⟨rfl, hb10⟩
            go_wp2
            go_ret
            exact ⟨rfl, ((((hb3.trans hb6.bl).trans hb7.bl).trans hb8.bl).trans hb9.bl).trans hb10.bl⟩
          · have hne : a1.toList.isEmpty = false := by rw [isEmpty_at]; exact decide_eq_false h0
            go_enter Tryz.func3, Tryz.ntmps3
            go_wp2_with (fail)
            refine (Sort_no a0 _ (by omega) (by omega)).mono ?_
            rintro e v1 ⟨rfl, rfl⟩
            go_wp2_with (fail)
            refine (Common_no a0 _ (by omega) (by omega)).mono ?_
            rintro e v2 ⟨rfl, rfl⟩
            go_wp2_with (fail)
            refine (Find_no a0 a1 _ (by omega) (by omega) (by omega)).mono ?_
            rintro e v3 ⟨rfl, hb3⟩
            go_wp2_with (fail)
            refine (Longest_no a0 _ (by omega) (by omega)).mono ?_
            rintro e v4 ⟨rfl, rfl⟩
            go_wp2_with (fail)
            refine (Parts_no a0 _ (by omega) (by omega)).mono ?_
            rintro e v5 ⟨rfl, rfl⟩
            go_wp2_with (fail)
            refine (bare_errno 4 4 _ (laid_bl hg hb3)).mono ?_
            rintro e v6 ⟨rfl, hb6⟩
            go_wp2_with (fail)
            refine (bare_errno 4 4 _ (laid_bl hg (hb3.trans hb6.bl))).mono ?_
            rintro e v7 ⟨rfl, hb7⟩
            go_wp2_with (fail)
            refine (bare_errno 4 4 _ (laid_bl hg ((hb3.trans hb6.bl).trans hb7.bl))).mono ?_
            rintro e v8 ⟨rfl, hb8⟩
            go_wp2_with (fail)
            refine (bare_errno 4 4 _ (laid_bl hg (((hb3.trans hb6.bl).trans hb7.bl).trans hb8.bl))).mono ?_
            rintro e v9 ⟨rfl, hb9⟩
            go_wp2_with (fail)
            refine (bare_errno 4 4 _ (laid_bl hg ((((hb3.trans hb6.bl).trans hb7.bl).trans hb8.bl).trans hb9.bl))).mono ?_
            rintro e v10 ⟨rfl, hb10⟩
            go_wp2
            go_ret
            exact ⟨rfl, ((((hb3.trans hb6.bl).trans hb7.bl).trans hb8.bl).trans hb9.bl).trans hb10.bl⟩
        · have t1 : decide ((80 : Int) < (a0.size : Int)) = true := decide_eq_true (by omega)
          have t2 : decide ((a0.size : Int) ≤ 4000) = false := decide_eq_false (by omega)
          have t3 : decide ((4009 : Int) < (a0.size : Int)) = true := decide_eq_true (by omega)
          go_enter Tryz.func3, Tryz.ntmps3
          go_wp2
          go_ret
          exact ⟨rfl, Below.refl _ _⟩
  · have t4 : decide ((40 : Int) < (a1.size : Int)) = true := decide_eq_true (by omega)
    by_cases hs : a0.size ≤ 80
    · have t1 : decide ((80 : Int) < (a0.size : Int)) = false := decide_eq_false (by omega)
      have t3 : decide ((4009 : Int) < (a0.size : Int)) = false := decide_eq_false (by omega)
      go_enter Tryz.func3, Tryz.ntmps3
      go_wp2
      go_ret
      exact ⟨rfl, Below.refl _ _⟩
    · have t1 : decide ((80 : Int) < (a0.size : Int)) = true := decide_eq_true (by omega)
      by_cases hs2 : a0.size ≤ 4000
      · have t2 : decide ((a0.size : Int) ≤ 4000) = true := decide_eq_true (by omega)
        go_enter Tryz.func3, Tryz.ntmps3
        go_wp2
        go_ret
        exact ⟨rfl, Below.refl _ _⟩
      · have t2 : decide ((a0.size : Int) ≤ 4000) = false := decide_eq_false (by omega)
        by_cases hs3 : a0.size ≤ 4009
        · have t3 : decide ((4009 : Int) < (a0.size : Int)) = false := decide_eq_false (by omega)
          go_enter Tryz.func3, Tryz.ntmps3
          go_wp2
          go_ret
          exact ⟨rfl, Below.refl _ _⟩
        · have t3 : decide ((4009 : Int) < (a0.size : Int)) = true := decide_eq_true (by omega)
          go_enter Tryz.func3, Tryz.ntmps3
          go_wp2
          go_ret
          exact ⟨rfl, Below.refl _ _⟩

set_option maxRecDepth 100000 in
theorem lifted (os : Os) (started : os.Started) (H : Type) (enc : TypeId × Value → H) :
    ReturnsInHanded {} Tryz.checked os 3 .any (fun w args => (Rows.suffixSortsSpec.pre enc Tryz.prog Tryz.f3 [] false w args ∧ laidMetH Tryz.prog laying.list w) ∧ sizedMet enc Tryz.prog Tryz.f3 (OpenSpec.ofChange Rows.suffixSortsSpec) false w args) (Rows.suffixSortsSpec.post enc Tryz.prog Tryz.f3 false true false false) := by
  refine returnsInHanded_of_calls (C := Tryz.checked) own started (by kernel_rfl) 
    (ChangeSpec.witness_at (enc := enc) (C := Tryz.checked) (os := os) (X := fun w _ => laidMetH Tryz.prog laying.list w) false (laying.layCell (World.holding Tryz.prog os ⟨#[], #[], []⟩)) #[.string ByteArray.empty, .string ByteArray.empty] 8 rfl (by kernel_rfl) (by kernel_rfl) (by kernel_rfl) (by kernel_rfl) (by kernel_rfl) (laying.laidWorld_met os _)) ?_
  intro w0 tape i _ hsh _ hok hpre _
  obtain ⟨_, _, _, fn', hfn', _, _, _, _, hval0⟩ := hok
  obtain rfl : fn' = Tryz.f3 := Option.some.inj (hfn'.symm.trans Tryz.func3)
  obtain ⟨⟨⟨ds, gs, before, hw0, _⟩, hL0⟩, hz⟩ := hpre
  have hsz0 := hz.weights hw0
  have hW : DataW.Whole enc Tryz.prog Tryz.f3.params.toList Rows.suffixSortsSpec.vars false (w0.forCall tape i) i.args.toList ds gs before := DataW.Whole.of_heap (w' := w0.forCall tape i) (by rfl) hw0
  have hL : laidMetH Tryz.prog laying.list (w0.forCall tape i) := laidMetH.of_heap (w := (w0.forCall tape i).memory) (by rfl) hL0
  refine Calls.mono (R := fun e W' => ∃ v, e = .returned v ∧ Rows.suffixSortsSpec.post enc Tryz.prog Tryz.f3 false true false false (w0.forCall tape i) i.args v W') ?_ (fun e W' h => by
    obtain ⟨v, rfl, h⟩ := h
    exact ChangeSpec.post_blind h)
  clear hfn' hw0 hL0 hz
  generalize w0.forCall tape i = W at *
  generalize w0.heap.size = base at *
  generalize i.args = args at *
  have hval : ∀ (j : Nat) t v, Tryz.f3.params[j]? = some t → args[j]? = some v → Value.okWide Tryz.prog W .any base t v := hval0
  have hW' := hW
  obtain ⟨p, q, hA0, hV, rfl, hfz, hnd⟩ := hW
  have hA : DataW.TrodAll enc Tryz.prog W 0 (fun _ => true) true Tryz.f3.params.toList args.toList ds p := hA0
  have hsz : (DataW.weightsEach Tryz.prog (Tryz.f3.params.toList ++ Rows.suffixSortsSpec.plain.varTypes Tryz.prog) (ds ++ gs)).all (· ≤ reachBytes) = true := hsz0
  rw [Tryz.params3] at hA hval hsz
  obtain ⟨v0, vs0, d0, ds0, p0, q0, hargs, rfl, rfl, h0, r0⟩ := trodAll_cons hA
  obtain ⟨v1, vs1, d1, ds1, p1, q1, rfl, rfl, rfl, h1, r1⟩ := trodAll_cons r0
  obtain ⟨rfl, rfl, rfl⟩ := trodAll_nil r1
  obtain rfl : args = #[v0, v1] := by cases args; simp_all
  obtain ⟨rfl, rfl⟩ := trodVars_none hV
  obtain ⟨a0, rfl, rfl, rfl, w0⟩ := open_string Tryz.underlying9 (hval 0 9 v0 rfl rfl) h0
  have z0 : a0.size ≤ 140737488351232 := sized_string hsz (j := 0) (t := 9) rfl rfl
  obtain ⟨a1, rfl, rfl, rfl, w1⟩ := open_string Tryz.underlying9 (hval 1 9 v1 rfl rfl) h1
  have z1 : a1.size ≤ 140737488351232 := sized_string hsz (j := 1) (t := 9) rfl rfl
  clear hA0 hval0 hsz0 hsz
  simp only [List.append_nil] at hW'
  refine (walk a0 a1 z0 z1 W (laying.handle_of_laid hL) (sx.ml_of hsh)).mono fun e W' ⟨he, hg⟩ => ?_
  subst he
  exact ⟨_, rfl, _, _, _, [], [], [], hW', (trodAll_cons_mk (shut_bool Tryz.underlying4 _) trodAll_mk0), (trodAll_cons_mk (shut_string Tryz.underlying9 w0) (trodAll_cons_mk (shut_string Tryz.underlying9 w1) trodAll_mk0)), rfl, hg.frame _, fun h => by cases h⟩

theorem over : Rows.suffixSortsRow.holds Tryz.pinned (OpenSpec.ofChange Rows.suffixSortsSpec) :=
  OpenClaim.holds_of_wide 3 Tryz.f3 rfl rfl rfl rfl rfl rfl rfl ⟨rfl, rfl, rfl, rfl, rfl⟩ rfl rfl rfl rfl rfl (by kernel_rfl) Tryz.func3 (by kernel_rfl)
    (of_decide_eq_true (by kernel_rfl)) (by unfold Func.isWrapper; first | (rw [if_pos (by decide +kernel)]; kernel_rfl) | (rw [if_neg (by decide +kernel)]; exact ⟨rfl, rfl⟩))
    (fun os started H enc _ => lifted os started H enc)

theorem tied : Rows.SuffixSortsCardSaid :=
  Claim7.holds_tied_plain_at .later [] [.handle] true (true, "f30d09e29b172c74d9edec90e66808e3b1a61234b27bdaf1ff65720ba40a06fa") true
    over (fun _ h => by cases h) (by kernel_rfl) (fun _ h => by cases h) suffixSorts_row_tie rfl ⟨rfl, rfl⟩ (by kernel_rfl) rfl
    (fun f fn hf hfn => by
      obtain rfl : f = 3 := Option.some.inj ((show Tryz.prog.funcNamed "escritoire/escritoirelaw.SuffixSorts" = some 3 by kernel_rfl).symm.trans hf) |>.symm
      obtain rfl : fn = Tryz.f3 := (Option.some.inj (Tryz.func3.symm.trans hfn)).symm
      exact ⟨by kernel_rfl, fun j t ht => by
        rw [Tryz.params3] at ht
        rcases j with _ | j
        · obtain rfl : t = 9 := by simpa using ht.symm
          exact (show Tryz.prog.wantsStandIn 9 = false by kernel_rfl)
        · rcases j with _ | j
          · obtain rfl : t = 9 := by simpa using ht.symm
            exact (show Tryz.prog.wantsStandIn 9 = false by kernel_rfl)
          · simp at ht⟩)
    (by kernel_rfl)
end Go.Proofs.YtnhdaolieifhnaaGreatDoor.suffixSorts
namespace Go.Proofs.YtnhdaolieifhnaaGreatDoor
/-- The given statement. -/
theorem suffixSorts_holds : Rows.SuffixSortsCardSaid := suffixSorts.tied
#print axioms suffixSorts_holds
end Go.Proofs.YtnhdaolieifhnaaGreatDoor
