/- What any edits make of any text, what undoes them, and what is wrong with them, is what the document's Apply and Back answer: DiffApplies answers true at every text and all edits, where errors.errorType is laid as the package lays it. -/
import Derived.Test.YtoiiphkcpdphbaaDoorRows
import Derived.WalkKit
import Derived.ProofKit
import Derived.OpenShut
import Derived.SizedLaws
import Derived.Test.YtoiiphkcpdphbaaDoorLaid
import Derived.Test.YtoiiphkcpdphbaaDoorTie
import Derived.Test.YtoiiphkcpdphbaaDoorCards
import Derived.SevenTiedAt
import Derived.Test.YtoiiphkcpdphbaaDoorDfR2
import Derived.Test.YtoiiphkcpdphbaaDoorEdIn
import Derived.Test.YtoiiphkcpdphbaaDoorBare
import Derived.ShutString
import Derived.ChangeOld
import Derived.Below
namespace Go.Proofs.YtoiiphkcpdphbaaDoor.diffApplies
open Go.ChangeShapes Go.WideShapes Go.ChangeAt Go.RowKit
open Go.ChangeMaps (open_string shut_string)
set_option linter.unusedVariables false

theorem own : ownKnob Tryd.prog.godebug = none := by kernel_rfl
theorem laidOut : laidOutB Tryd.prog = true := by kernel_rfl

/-- WHAT THE WALK IS TOLD OF A SLICE OF INTEGERS THAT CAME IN: it is nil; or it leads to a row of 'cap' cells, the numbers 'zs' (the first 'len' are its elements, the rest its spare room), each fitting its kind. -/
def IsRow (k : IntKind) (w : World) (a : Option Addr) (len cap : Nat) (zs : List Int) : Prop :=
  (a = none ∧ len = 0 ∧ cap = 0 ∧ zs = []) ∨
  ∃ x, a = some x ∧ len ≤ cap ∧ cap ≤ maxLen ∧ zs.length = cap ∧ (∀ i, i < zs.length → w.cell? (x.add i) = some (.int k (zs.getD i 0))) ∧ ∀ n ∈ zs, (Lit.int k n).wf = true

open mem df errs
theorem laid_bl {w w' : World} (h : Laid w) (g : Bl w w') : Laid w' := by
  have hp := h.pos
  unfold Laid at h ⊢
  unfold World.cell? at h ⊢
  rw [Below.block g _ hp]
  exact h
set_option maxHeartbeats 4000000 in
set_option maxRecDepth 100000 in
theorem walk (a0 : ByteArray) (a1 : Option Addr) (len1 cap1 : Nat) (z1 : List df.Ed) (w : World) (w0 : a0.size ≤ maxLen) (w1 : ed.IsEd w a1 len1 cap1 z1) (hg : errs.Laid w) :
    Calls Tryd.prog 4 #[.string a0, .slice a1 len1 cap1] w fun e w' => e = .returned (.bool true) ∧ Below w.heap.size w w' := by
  obtain ⟨hl1, hlc, hin, _⟩ := w1
  subst hl1
  by_cases hs : a0.size ≤ 300 ∧ z1.length ≤ 40
  · obtain ⟨hs0, hs1⟩ := hs
    have hz0n : ¬ (300 : Int) < (a0.size : Int) := by omega
    have hz1n : ¬ (40 : Int) < (z1.length : Int) := by omega
    have hz0d : decide ((300 : Int) < (a0.size : Int)) = false := decide_eq_false hz0n
    have hz1d : decide ((40 : Int) < (z1.length : Int)) = false := decide_eq_false hz1n
    have HI : Hid (ed.In w a1 z1) := hin
    clear hin
    go_enter Tryd.func4, Tryd.ntmps4
    go_wp2
    go_loopw [5] (fun iv wr => ∃ k : Nat, k ≤ z1.length ∧ iv = .int .i64 (k : Int) ∧ Hid (∀ i, (h : i < z1.length) → i < k → z1[i].t.length ≤ 4009) ∧ wr = w) (fun iv _ => z1.length - (intOf iv).toNat)
    case atStart => exact ⟨0, Nat.zero_le _, rfl, fun i _ h => absurd h (Nat.not_lt_zero _), rfl⟩
    case round =>
      obtain ⟨k, hk, rfl, HT, rfl⟩ := hrel
      by_cases hlt : k < z1.length
      · have hlz : (k : Int) < (z1.length : Int) := by omega
        obtain ⟨x, rfl, c0, c1, c2⟩ := HI.out.at' k hlt
        have hts : (tx z1[k].t).size = z1[k].t.length := tx_size _
        have HT2 : Hid (z1[k].t.length ≤ 4009 → ∀ i, (h : i < z1.length) → i < k + 1 → z1[i].t.length ≤ 4009) := fun h i hi hik => by
          rcases Nat.lt_or_ge i k with h' | h'
          · exact HT.out i hi h'
          · obtain rfl : i = k := by omega
            exact h
        generalize z1[k].t = t at c2 hts HT2
        generalize z1[k].w = f1 at c0
        generalize z1[k].n = f2 at c1
        by_cases h1 : 200 < t.length
        · have h1z : (200 : Int) < (t.length : Int) := by omega
          by_cases h2 : t.length ≤ 4000
          · have h2z : (t.length : Int) ≤ 4000 := by omega
            go_wp2
            go_ret
            exact ⟨rfl, Bl.refl _⟩
          · have h2z : ¬ (t.length : Int) ≤ 4000 := by omega
            by_cases h3 : 4009 < t.length
            · have h3z : (4009 : Int) < (t.length : Int) := by omega
              go_wp2
              go_ret
              exact ⟨rfl, Bl.refl _⟩
            · have h3z : ¬ (4009 : Int) < (t.length : Int) := by omega
              go_wp2
              go_roundw
              case rel => exact ⟨k + 1, hlt, by go_num, HT2.out (by omega), trivial⟩
              case measure => simp [intOf]; omega
        · have h1z : ¬ (200 : Int) < (t.length : Int) := by omega
          have h3z : ¬ (4009 : Int) < (t.length : Int) := by omega
          go_wp2
          go_roundw
          case rel => exact ⟨k + 1, hlt, by go_num, HT2.out (by omega), trivial⟩
          case measure => simp [intOf]; omega
      · have hlz : ¬ (k : Int) < (z1.length : Int) := by omega
        obtain rfl : k = z1.length := by omega
        have HS : Hid (Short z1) := ⟨by omega, fun e he => by
          obtain ⟨i, hi, rfl⟩ := List.getElem_of_mem he
          have := HT.out i hi hi
          omega⟩
        have hV : ∀ w', Bl wr w' → ed.View w' (.slice a1 z1.length cap1) z1 := fun w' hb => ⟨a1, cap1, rfl, hlc, HI.out.step hb⟩
        have HV : Hid (∀ w', Bl wr w' → ed.View w' (.slice a1 z1.length cap1) z1) := hV
        have HG : Hid (Laid wr) := hg
        clear hV HT hg
        go_wp2_with fail
        refine (refApply_at a0 z1 _ _ (HV.out _ (Bl.refl _)) (by omega) HS.out).mono ?_
        rintro e v1 ⟨rfl, hb1⟩
        by_cases h0 : fitE (L a0).length 0 z1 = 0
        · rw [show raAns (L a0) z1 = .tuple #[.string (tx (outE (L a0) z1)), .int .i64 0] by unfold raAns; rw [if_pos h0]]
          go_wp2_with fail
          refine (Apply_at a0 z1 _ _ (HV.out _ hb1) (by omega) HS.out).mono ?_
          rintro e v2 ⟨rfl, hb2⟩
          rw [show apAns (L a0) z1 = .tuple #[.string (tx (outE (L a0) z1)), .nilIface] by unfold apAns; rw [if_pos h0]]
          go_wp2_with fail
          refine (refBack_at a0 z1 _ _ (HV.out _ (hb1.trans hb2)) (by omega) HS.out).mono ?_
          rintro e v3 ⟨r3, rfl, hb3, hr3⟩
          rcases hr3 with ⟨_, u3, rfl, ho3⟩ | ⟨h, _⟩
          · go_wp2_with fail
            refine (Back_at a0 z1 _ _ (HV.out _ ((hb1.trans hb2).trans hb3)) (by omega) HS.out).mono ?_
            rintro e v4 ⟨r4, rfl, hb4, hr4⟩
            rcases hr4 with ⟨_, u4, rfl, ho4⟩ | ⟨h, _⟩
            · have hlb : (bckE (L a0) z1).length ≤ 5000 := by
                have key : ∀ (l : List Ed) a, (bckE a l).length = l.length := by
                  intro l
                  induction l with
                  | nil => intro a; rfl
                  | cons e r ih =>
                    intro a
                    rw [bckE_cons]
                    split
                    · simp [ih]
                    · split <;> simp [ih]
                rw [key]; omega
              have cB := fun w => bare_nil 0 w
              have hz : ((0 : Int) == 0) = true := rfl
              rw [hz] at cB
              have cS := sameEdits_at (bckE (L a0) z1) u4 u3 v4 ho4.view (ho3.step hb4).view hlb
              have HB : Hid (Bl wr v4) := ((hb1.trans hb2).trans hb3).trans hb4
              clear ho3 ho4 hb1 hb2 hb3 hb4 hlb hz
              go_wp2_with (first
                | (go_at_call 10; refine (cB _).mono ?_; rintro e v5 ⟨rfl, rfl⟩)
                | (go_at_call 11; refine cS.mono ?_; rintro e v6 ⟨rfl, hb6⟩))
              go_ret
              exact ⟨rfl, HB.out.trans hb6⟩
            · exact absurd h0 h
          · exact absurd h0 h
        · rw [show raAns (L a0) z1 = .tuple #[.string ⟨#[]⟩, .int .i64 (eN (fitE (L a0).length 0 z1))] by unfold raAns; rw [if_neg h0]]
          have hen : eno (fitE (L a0).length 0 z1) = .iface 22 (.int .i64 (eN (fitE (L a0).length 0 z1))) := by rw [eno_is, if_neg h0]
          go_wp2_with fail
          refine (Apply_at a0 z1 _ _ (HV.out _ hb1) (by omega) HS.out).mono ?_
          rintro e v2 ⟨rfl, hb2⟩
          rw [show apAns (L a0) z1 = .tuple #[.string ⟨#[]⟩, .iface 22 (.int .i64 (eN (fitE (L a0).length 0 z1)))] by unfold apAns; rw [if_neg h0, hen]]
          go_wp2_with fail
          refine (refBack_at a0 z1 _ _ (HV.out _ (hb1.trans hb2)) (by omega) HS.out).mono ?_
          rintro e v3 ⟨r3, rfl, hb3, hr3⟩
          rcases hr3 with ⟨h, _⟩ | ⟨_, rfl⟩
          · exact absurd h h0
          · go_wp2_with fail
            refine (Back_at a0 z1 _ _ (HV.out _ ((hb1.trans hb2).trans hb3)) (by omega) HS.out).mono ?_
            rintro e v4 ⟨r4, rfl, hb4, hr4⟩
            rcases hr4 with ⟨h, _⟩ | ⟨_, rfl⟩
            · exact absurd h h0
            · rw [hen]
              have HB : Hid (Bl wr v4) := ((hb1.trans hb2).trans hb3).trans hb4
              generalize eN (fitE (L a0).length 0 z1) = z at *
              have cB := fun w h => bare_errno z z w h
              have hz : (z == z) = true := by simp
              rw [hz] at cB
              have cS := fun w => sameEdits_at [] (.slice none 0 0) (.slice none 0 0) w ⟨none, 0, rfl, Nat.le_refl _, Or.inl rfl⟩ ⟨none, 0, rfl, Nat.le_refl _, Or.inl rfl⟩ (by simp)
              clear hb1 hb2 hb3 hb4 hz hen h0
              go_wp2_with (first
                | (go_at_call 10; first
                  | (refine (cB v4 (laid_bl HG.out HB.out)).mono ?_; rintro e v5 ⟨rfl, hb5⟩)
                  | (refine (cB v5 (laid_bl HG.out (HB.out.trans hb5.bl))).mono ?_; rintro e v7 ⟨rfl, hb7⟩))
                | (go_at_call 11; refine (cS _).mono ?_; rintro e v6 ⟨rfl, hb6⟩))
              go_ret
              exact ⟨rfl, ((HB.out.trans hb5.bl).trans hb7.bl).trans hb6⟩
  · by_cases h1 : 300 < a0.size
    · have h1z : (300 : Int) < (a0.size : Int) := by omega
      have h1d : decide ((300 : Int) < (a0.size : Int)) = true := decide_eq_true h1z
      go_enter Tryd.func4, Tryd.ntmps4
      go_wp2
      go_ret
      exact ⟨rfl, Bl.refl _⟩
    · have h1z : ¬ (300 : Int) < (a0.size : Int) := by omega
      have h1d : decide ((300 : Int) < (a0.size : Int)) = false := decide_eq_false h1z
      have h2z : (40 : Int) < (z1.length : Int) := by omega
      have h2d : decide ((40 : Int) < (z1.length : Int)) = true := decide_eq_true h2z
      go_enter Tryd.func4, Tryd.ntmps4
      go_wp2
      go_ret
      exact ⟨rfl, Bl.refl _⟩

set_option maxRecDepth 100000 in
theorem lifted (os : Os) (started : os.Started) (H : Type) (enc : TypeId × Value → H) :
    ReturnsInHanded {} Tryd.checked os 4 .any (fun w args => (Rows.diffAppliesSpec.pre enc Tryd.prog Tryd.f4 [] false w args ∧ laidMetH Tryd.prog laying.list w) ∧ sizedMet enc Tryd.prog Tryd.f4 (OpenSpec.ofChange Rows.diffAppliesSpec) false w args) (Rows.diffAppliesSpec.post enc Tryd.prog Tryd.f4 false true false false) := by
  refine returnsInHanded_of_change_and (C := Tryd.checked) (X := fun w _ => laidMetH Tryd.prog laying.list w) (fun _ _ _ hh h => h.of_heap hh) own started (by kernel_rfl) Tryd.func4
    (ChangeSpec.witness_at (enc := enc) (C := Tryd.checked) (os := os) (X := fun w _ => laidMetH Tryd.prog laying.list w) false (laying.layCell (World.holding Tryd.prog os ⟨#[], #[], []⟩)) #[.string ByteArray.empty, .slice none 0 0] 8 rfl (by kernel_rfl) (by kernel_rfl) (by kernel_rfl) (by kernel_rfl) (by kernel_rfl) (laying.laidWorld_met os _)) ?_
  intro W base args ds gs before hval0 hW hcnd hsz0 hL _
  have hval : ∀ (j : Nat) t v, Tryd.f4.params[j]? = some t → args[j]? = some v → Value.okWide Tryd.prog W .any base t v := hval0
  have hW' := hW
  obtain ⟨p, q, hA0, hV, rfl, hfz, hnd⟩ := hW
  have hA : DataW.TrodAll enc Tryd.prog W 0 (fun _ => true) true Tryd.f4.params.toList args.toList ds p := hA0
  have hsz : (DataW.weightsEach Tryd.prog (Tryd.f4.params.toList ++ Rows.diffAppliesSpec.plain.varTypes Tryd.prog) (ds ++ gs)).all (· ≤ reachBytes) = true := hsz0
  rw [Tryd.params4] at hA hval hsz
  obtain ⟨v0, vs0, d0, ds0, p0, q0, hargs, rfl, rfl, h0, r0⟩ := trodAll_cons hA
  obtain ⟨v1, vs1, d1, ds1, p1, q1, rfl, rfl, rfl, h1, r1⟩ := trodAll_cons r0
  obtain ⟨rfl, rfl, rfl⟩ := trodAll_nil r1
  obtain rfl : args = #[v0, v1] := by cases args; simp_all
  obtain ⟨rfl, rfl⟩ := trodVars_none hV
  obtain ⟨a0, rfl, rfl, rfl, w0⟩ := open_string Tryd.underlying9 (hval 0 9 v0 rfl rfl) h0
  obtain ⟨a1, len1, cap1, rfl⟩ := okWide_slice Tryd.underlying29 (hval 1 29 v1 rfl rfl)
  have k1 := h1
  have lt1 : ∀ x ∈ p1, x.block < W.heap.size := by obtain ⟨m, hm⟩ := k1; exact DataW.trod_lt m _ _ _ hm
  obtain ⟨z1, w1⟩ : ∃ zs, ed.IsEd W a1 len1 cap1 zs := ed.ed_open h1
  clear hA0 hval0 hsz0 hsz
  refine (walk a0 a1 len1 cap1 z1 W w0 w1 (laying.handle_of_laid hL)).mono fun e W' ⟨he, bel⟩ => ?_
  subst he
  exact ⟨_, rfl, _, _, _, [], _, [], hW', trodAll_mk1 (shut_bool Tryd.underlying4 _), (trodAll_cons_mk (shut_string Tryd.underlying9 w0) (trodAll_cons_mk (Below.trod laidOut (by kernel_rfl) (of_decide_eq_true (by kernel_rfl)) k1 bel lt1) trodAll_mk0)), rfl, bel.frame _, fun h => by cases h⟩

theorem over : Rows.diffAppliesRow.holds Tryd.pinned (OpenSpec.ofChange Rows.diffAppliesSpec) :=
  OpenClaim.holds_of_wide 4 Tryd.f4 rfl rfl rfl rfl rfl rfl rfl ⟨rfl, rfl, rfl, rfl, rfl⟩ rfl rfl rfl rfl rfl (by kernel_rfl) Tryd.func4 (by kernel_rfl)
    (of_decide_eq_true (by kernel_rfl)) (by unfold Func.isWrapper; first | (rw [if_pos (by decide +kernel)]; kernel_rfl) | (rw [if_neg (by decide +kernel)]; exact ⟨rfl, rfl⟩))
    (fun os started H enc _ => lifted os started H enc)

theorem tied : Rows.DiffAppliesCardSaid :=
  Claim7.holds_tied_plain_at .later [] [.handle] true (true, "431d567330ca89b7f7be97eea1bf2da344311c473cbdfd471245095115c89600") true
    over (fun _ h => by cases h) (by kernel_rfl) (fun _ h => by cases h) diffApplies_row_tie rfl ⟨rfl, rfl⟩ (by kernel_rfl) rfl
    (fun f fn hf hfn => by
      obtain rfl : f = 4 := Option.some.inj ((show Tryd.prog.funcNamed "escritoire/escritoirelaw.DiffApplies" = some 4 by kernel_rfl).symm.trans hf) |>.symm
      obtain rfl : fn = Tryd.f4 := (Option.some.inj (Tryd.func4.symm.trans hfn)).symm
      exact ⟨by kernel_rfl, fun j t ht => by
        rw [Tryd.params4] at ht
        rcases j with _ | j
        · obtain rfl : t = 9 := by simpa using ht.symm
          exact (show Tryd.prog.wantsStandIn 9 = false by kernel_rfl)
        · rcases j with _ | j
          · obtain rfl : t = 29 := by simpa using ht.symm
            exact (show Tryd.prog.wantsStandIn 29 = false by kernel_rfl)
          · simp at ht⟩)
    (by kernel_rfl)
end Go.Proofs.YtoiiphkcpdphbaaDoor.diffApplies
namespace Go.Proofs.YtoiiphkcpdphbaaDoor
/-- The given statement. -/
theorem diffApplies_holds : Rows.DiffAppliesCardSaid := diffApplies.tied
#print axioms diffApplies_holds
end Go.Proofs.YtoiiphkcpdphbaaDoor
