/- DigitsBack: what is written as digits is read as the number, by its base, with any noughts ahead, in great letters too; at all numbers, bases and widths. -/
import Derived.Test.YtncmpjdapngmpaaDoorRows
import Derived.WalkKit
import Derived.ProofKit
import Derived.OpenShut
import Derived.SizedLaws
import Derived.Test.YtncmpjdapngmpaaDoorLaidU
import Derived.Test.YtncmpjdapngmpaaDoorTie
import Derived.Test.YtncmpjdapngmpaaDoorCards
import Derived.SevenTiedAt
import Derived.Test.YtncmpjdapngmpaaDoorFigured
import Derived.Test.YtncmpjdapngmpaaDoorLay158
import Derived.ShutString
namespace Go.Proofs.YtncmpjdapngmpaaDoor.digitsBack
open Go.ChangeShapes Go.WideShapes Go.ChangeAt Go.RowKit
open Go.ChangeMaps (open_string shut_string)
set_option linter.unusedVariables false      -- a walk need not use every 'w<i>' (that an integer argument fits its kind)

theorem own : ownKnob Tryd.prog.godebug = none := by kernel_rfl

open digs dig mem errs
theorem pv_congr (B : Nat) (s t : ByteArray) (k : Nat) (h : ∀ i, i < k → dv (sb s i) = dv (sb t i)) : pv B s k = pv B t k := by
  induction k with
  | zero => rfl
  | succ k ih => rw [pv, pv, ih (fun i hi => h i (by omega)), h k (by omega)]
/-- Small letters made great ones. -/
def upS (s : ByteArray) : ByteArray := ⟨(Lib.toUpperA s.data.toList).toArray⟩
theorem upS_size (s : ByteArray) : (upS s).size = s.size := by
  show (Lib.toUpperA s.data.toList).toArray.size = s.data.toList.length
  simp [Lib.toUpperA]
set_option maxRecDepth 50000 in
theorem upB (b : UInt8) : ((Option.getD (Option.map Lib.upperB (some b)) 0).toNat : Int) = if 97 ≤ ((Option.getD (some b) 0).toNat : Int) ∧ ((Option.getD (some b) 0).toNat : Int) ≤ 122 then ((Option.getD (some b) 0).toNat : Int) - 32 else ((Option.getD (some b) 0).toNat : Int) := by
  have : ∀ n : Fin 256, ((Lib.upperB (UInt8.ofNat n.1)).toNat : Int) = if 97 ≤ (n.1 : Int) ∧ (n.1 : Int) ≤ 122 then (n.1 : Int) - 32 else (n.1 : Int) := by decide
  have h := this ⟨b.toNat, b.toNat_lt⟩
  simp only [UInt8.ofNat_toNat] at h
  exact h
theorem upS_sb (s : ByteArray) (i : Nat) (hi : i < s.size) : sb (upS s) i = if 97 ≤ sb s i ∧ sb s i ≤ 122 then sb s i - 32 else sb s i := by
  have hi' : i < s.data.toList.length := hi
  unfold sb upS
  simp only [List.getD_eq_getElem?_getD]
  rw [show ((Lib.toUpperA s.data.toList).toArray.toList)[i]? = (Lib.toUpperA s.data.toList)[i]? from rfl]
  unfold Lib.toUpperA
  rw [List.getElem?_map, List.getElem?_eq_getElem hi']
  exact upB _
theorem dv_up (c : Int) (h0 : 48 ≤ c) (h1 : c ≤ 102) : dv (if 97 ≤ c ∧ c ≤ 122 then c - 32 else c) = dv c := by
  by_cases h : 97 ≤ c ∧ c ≤ 122
  · rw [if_pos h]
    unfold dv
    rw [if_neg (by omega), if_neg (by omega), if_pos (by omega), if_neg (by omega), if_pos (by omega)]
    omega
  · rw [if_neg h]
theorem upper_at (s : ByteArray) (w : World) (hs : s.size ≤ 1000) (hascii : ∀ i, i < s.size → sb s i < 128) :
    Calls Tryd.prog 25 #[.string s] w fun e w' => e = .returned (.string (upS s)) ∧ Bl w w' := by
  refine Any.strings_ToUpper_ascii lay.laid lay.extra s w (by omega) (fun j b hb => ?_)
  have hj : j < s.size := (List.getElem?_eq_some_iff.1 hb).1
  have := hascii j hj
  unfold sb at this
  rw [List.getD_eq_getElem?_getD, hb] at this
  have h2 : ((b.toNat : Nat) : Int) < 128 := by simpa using this
  omega
theorem walk (a0 : Int) (a1 : Int) (a2 : Int) (w0 : (Lit.int .u64 a0).wf = true) (w1 : (Lit.int .i64 a1).wf = true) (w2 : (Lit.int .i64 a2).wf = true) (w : World) (hg : errs.Laid w) :
    Calls Tryd.prog 6 #[.int .u64 a0, .int .i64 a1, .int .i64 a2] w fun e w' => e = .returned (.bool true) ∧ Below w.heap.size w w' := by
  have b0 := bounds_u64 w0
  clear w0 w1 w2
  have HG : Hid (Laid w) := hg
  clear hg
  obtain ⟨n, rfl⟩ := Int.eq_ofNat_of_zero_le (show 0 ≤ a0 by omega)
  have hn : n < 2 ^ 64 := by omega
  have hp := pk_lt a1 15 (by omega)
  have hq := pk_lt a2 65 (by omega)
  have cp : ∀ w, Calls Tryd.prog 24 #[.int .i64 a1, .int .i64 15] w fun e w' => e = .returned (.int .i64 (pk a1 15)) ∧ w' = w := fun w => pick_at a1 15 w (by omega) (by omega)
  have cq : ∀ w, Calls Tryd.prog 24 #[.int .i64 a2, .int .i64 65] w fun e w' => e = .returned (.int .i64 (pk a2 65)) ∧ w' = w := fun w => pick_at a2 65 w (by omega) (by omega)
  generalize pk a1 15 = p at hp cp
  generalize pk a2 65 = W at hq cq
  obtain ⟨B, hB⟩ : ∃ B, B = 2 + p := ⟨_, rfl⟩
  have hB2 : 2 ≤ B := by omega
  have hB16 : B ≤ 16 := by omega
  have eB : (2 : Int) + (p : Int) = (B : Int) := by omega
  obtain ⟨K, hK⟩ := isK_some B n W hB2 hn
  have hK64 := isK_le B n W K hB2 hn (by omega) hK
  have cA := fun w => print_at n B W K w hB2 hB16 hn (by omega) hK
  have hKW : W ≤ K := hK.2.1
  have zS : (strOfNums (pr B n K)).size = K := by rw [strOfNums_size, pr_len]
  have bS : ∀ i, i < K → 48 ≤ sb (strOfNums (pr B n K)) i ∧ sb (strOfNums (pr B n K)) i ≤ 102 := fun i hi => by
    rw [sb_nums _ (fun z hz => by have := pr_bd B n K hB2 hB16 z hz; omega), List.getD_eq_getElem?_getD, List.getElem?_eq_getElem (by rw [pr_len]; exact hi)]
    exact pr_bd B n K hB2 hB16 _ (List.getElem_mem _)
  have oS := ok_pr B n K hB2 hB16 hK.1
  have vS : pv B (strOfNums (pr B n K)) (strOfNums (pr B n K)).size = n := by rw [zS, pv_pr B n K K hB2 hB16 hK.2.2.1 (Nat.le_refl _), Nat.sub_self]; simp
  generalize strOfNums (pr B n K) = S at *
  have dU : ∀ i, i < K → dv (sb (upS S) i) = dv (sb S i) := fun i hi => by
    rw [upS_sb S i (by omega)]
    exact dv_up _ (bS i hi).1 (bS i hi).2
  have zU := upS_size S
  have cU := fun w => upper_at S w (by omega) (fun i hi => by have := bS i (by omega); omega)
  have oU : okD B (upS S) := ⟨by have := oS.1; omega, fun i hi => by rw [dU i (by omega)]; exact oS.2 i (by omega)⟩
  have vU : pv B (upS S) (upS S).size = n := by rw [zU, pv_congr B (upS S) S S.size (fun i hi => dU i (by omega))]; exact vS
  have hpB : ∀ t, okD B t → pv B t t.size = n → Parsed (B : Int) t n 0 := fun t h1 h2 => Or.inr (Or.inr (Or.inr ⟨⟨by omega, by omega⟩, by rw [Int.toNat_natCast]; exact h1, by rw [Int.toNat_natCast, h2]; omega, by rw [Int.toNat_natCast, h2], rfl⟩))
  have cP := fun w => parse_at (B : Int) S n 0 w (by omega) (hpB S oS vS)
  have cQ := fun w => parse_at (B : Int) (upS S) n 0 w (by omega) (hpB (upS S) oU vU)
  have e0 : errI 0 = .nilIface := rfl
  rw [e0] at cP cQ
  generalize upS S = U at *
  clear hpB vU oU vS oS bS dU hK hB hn e0
  go_enter Tryd.func6, Tryd.ntmps6
  go_wp2_with (first | (go_at_call 23; refine (figured_at _ HG.out).mono ?_; rintro x v1 ⟨rfl, g1⟩) | (go_at_call_of 24 (Value.int IntKind.i64 15); refine (cp _).mono ?_; rintro x v2 ⟨rfl, rfl⟩) | (go_at_call 24; refine (cq _).mono ?_; rintro x v2 ⟨rfl, rfl⟩) | (go_at_call 10; refine (cA _).mono ?_; rintro x v3 ⟨rfl, g3⟩) | (go_at_call 25; refine (cU _).mono ?_; rintro x v4 ⟨rfl, g4⟩) | (go_at_call_of 15 (Value.string S); refine (cP _).mono ?_; rintro x v5 ⟨rfl, rfl⟩) | (go_at_call_of 15 (Value.string U); refine (cQ _).mono ?_; rintro x v6 ⟨rfl, rfl⟩))
  go_ret
  exact ⟨by simp, Bl.trans (g1.trans g3).bl g4⟩

set_option maxRecDepth 100000 in
theorem lifted (os : Os) (started : os.Started) (H : Type) (enc : TypeId × Value → H) :
    ReturnsInHanded {} Tryd.checked os 6 .any (fun w args => (Rows.digitsBackSpec.pre enc Tryd.prog Tryd.f6 [] false w args ∧ laidMetH Tryd.prog laidu.list w) ∧ sizedMet enc Tryd.prog Tryd.f6 (OpenSpec.ofChange Rows.digitsBackSpec) false w args) (Rows.digitsBackSpec.post enc Tryd.prog Tryd.f6 false true false false) := by
  refine returnsInHanded_of_change_and (C := Tryd.checked) (X := fun w _ => laidMetH Tryd.prog laidu.list w) (fun _ _ _ hh h => h.of_heap hh) own started (by kernel_rfl) Tryd.func6
    (ChangeSpec.witness_shaped (enc := enc) (C := Tryd.checked) (os := os) (X := fun w _ => laidMetH Tryd.prog laidu.list w) false (World.layVars Tryd.prog (laying.layCell (World.holding Tryd.prog os ⟨#[], #[], []⟩)) laidu.plain) #[.int .u64 0, .int .i64 0, .int .i64 0] 8 (World.layVars_os _ _ _) (World.shaped_of_ZipB (by kernel_rfl) (by kernel_rfl)) (by kernel_rfl) (by kernel_rfl) (by kernel_rfl) (laidu.world_met os _)) ?_
  intro W base args ds gs before hval0 hW hcnd hsz0 hL _
  have hval : ∀ (j : Nat) t v, Tryd.f6.params[j]? = some t → args[j]? = some v → Value.okWide Tryd.prog W .any base t v := hval0
  have hW' := hW
  obtain ⟨p, q, hA0, hV, rfl, hfz, hnd⟩ := hW
  have hA : DataW.TrodAll enc Tryd.prog W 0 (fun _ => true) true Tryd.f6.params.toList args.toList ds p := hA0
  have hsz : (DataW.weightsEach Tryd.prog (Tryd.f6.params.toList ++ Rows.digitsBackSpec.plain.varTypes Tryd.prog) (ds ++ gs)).all (· ≤ reachBytes) = true := hsz0
  rw [Tryd.params6] at hA hval hsz
  obtain ⟨v0, vs0, d0, ds0, p0, q0, hargs, rfl, rfl, h0, r0⟩ := trodAll_cons hA
  obtain ⟨v1, vs1, d1, ds1, p1, q1, rfl, rfl, rfl, h1, r1⟩ := trodAll_cons r0
  obtain ⟨v2, vs2, d2, ds2, p2, q2, rfl, rfl, rfl, h2, r2⟩ := trodAll_cons r1
  obtain ⟨rfl, rfl, rfl⟩ := trodAll_nil r2
  obtain rfl : args = #[v0, v1, v2] := by cases args; simp_all
  obtain ⟨rfl, rfl⟩ := trodVars_none hV
  obtain ⟨a0, rfl, rfl, rfl, w0⟩ := open_int Tryd.underlying22 (hval 0 22 v0 rfl rfl) h0
  obtain ⟨a1, rfl, rfl, rfl, w1⟩ := open_int Tryd.underlying3 (hval 1 3 v1 rfl rfl) h1
  obtain ⟨a2, rfl, rfl, rfl, w2⟩ := open_int Tryd.underlying3 (hval 2 3 v2 rfl rfl) h2
  clear hA0 hval0 hsz0 hsz
  simp only [List.append_nil] at hW'
  refine (walk a0 a1 a2 w0 w1 w2 W (laidu.handle_of_laid hL)).mono fun e W' ⟨he, hg⟩ => ?_
  subst he
  exact ⟨_, rfl, _, _, _, [], [], [], hW', (trodAll_cons_mk (shut_bool Tryd.underlying4 _) trodAll_mk0), (trodAll_cons_mk (shut_int Tryd.underlying22 w0) (trodAll_cons_mk (shut_int Tryd.underlying3 w1) (trodAll_cons_mk (shut_int Tryd.underlying3 w2) trodAll_mk0))), rfl, hg.frame _, fun h => by cases h⟩

theorem over : Rows.digitsBackRow.holds Tryd.pinned (OpenSpec.ofChange Rows.digitsBackSpec) :=
  OpenClaim.holds_of_wide 6 Tryd.f6 rfl rfl rfl rfl rfl rfl rfl ⟨rfl, rfl, rfl, rfl, rfl⟩ rfl rfl rfl rfl rfl (by kernel_rfl) Tryd.func6 (by kernel_rfl)
    (of_decide_eq_true (by kernel_rfl)) (by unfold Func.isWrapper; first | (rw [if_pos (by decide +kernel)]; kernel_rfl) | (rw [if_neg (by decide +kernel)]; exact ⟨rfl, rfl⟩))
    (fun os started H enc _ => lifted os started H enc)

theorem tied : Rows.DigitsBackCardSaid :=
  Claim7.holds_tied_plain_at .later [] [.data, .handle, .pinned, .pinned] true (true, "b47a621a2adbcce19bb2b222f4054078daf8760fcc217c0053af485b12705170") true
    over (fun _ h => by cases h) (by kernel_rfl) (fun _ h => by cases h) digitsBack_row_tie rfl ⟨rfl, rfl⟩ (by kernel_rfl) rfl
    (fun f fn hf hfn => by
      obtain rfl : f = 6 := Option.some.inj ((show Tryd.prog.funcNamed "escritoire/escritoirekeep.DigitsBack" = some 6 by kernel_rfl).symm.trans hf) |>.symm
      obtain rfl : fn = Tryd.f6 := (Option.some.inj (Tryd.func6.symm.trans hfn)).symm
      exact ⟨by kernel_rfl, fun j t ht => by
        rw [Tryd.params6] at ht
        rcases j with _ | j
        · obtain rfl : t = 22 := by simpa using ht.symm
          exact (show Tryd.prog.wantsStandIn 22 = false by kernel_rfl)
        · rcases j with _ | j
          · obtain rfl : t = 3 := by simpa using ht.symm
            exact (show Tryd.prog.wantsStandIn 3 = false by kernel_rfl)
          · rcases j with _ | j
            · obtain rfl : t = 3 := by simpa using ht.symm
              exact (show Tryd.prog.wantsStandIn 3 = false by kernel_rfl)
            · simp at ht⟩)
    (by kernel_rfl)
end Go.Proofs.YtncmpjdapngmpaaDoor.digitsBack
namespace Go.Proofs.YtncmpjdapngmpaaDoor
/-- The given statement. -/
theorem digitsBack_holds : Rows.DigitsBackCardSaid := digitsBack.tied
#print axioms digitsBack_holds
end Go.Proofs.YtncmpjdapngmpaaDoor
