/- DigitsShort: a number is printed with no nought ahead that need not be, and a greater one has no fewer digits and stands behind a lesser one of as many; at every argument. -/
import Derived.Test.YtncmpjdapngmpaaDoorRows
import Derived.WalkKit
import Derived.ProofKit
import Derived.OpenShut
import Derived.SizedLaws
import Derived.Test.YtncmpjdapngmpaaDoorLaid
import Derived.Test.YtncmpjdapngmpaaDoorTie
import Derived.Test.YtncmpjdapngmpaaDoorCards
import Derived.SevenTiedAt
import Derived.Test.YtncmpjdapngmpaaDoorFigured
import Derived.ShutString
namespace Go.Proofs.YtncmpjdapngmpaaDoor.digitsShort
open Go.ChangeShapes Go.WideShapes Go.ChangeAt Go.RowKit
open Go.ChangeMaps (open_string shut_string)
set_option linter.unusedVariables false      -- a walk need not use every 'w<i>' (that an integer argument fits its kind)

theorem own : ownKnob Tryd.prog.godebug = none := by kernel_rfl

open digs dig mem errs
/-- A digit's byte. -/
def chB (d : Nat) : UInt8 := UInt8.ofNat (ch d).toNat
theorem chB_lt (c d : Nat) (hc : c < 16) (hd : d < 16) : (decide (chB c < chB d) = decide (c < d)) ∧ ((chB c == chB d) = decide (c = d)) := by
  have : ∀ c : Fin 16, ∀ d : Fin 16, (decide (chB c.1 < chB d.1) = decide (c.1 < d.1)) ∧ ((chB c.1 == chB d.1) = decide (c.1 = d.1)) := by decide
  exact this ⟨c, hc⟩ ⟨d, hd⟩
theorem pr_less (B a b K : Nat) (hB : 2 ≤ B) (hB' : B ≤ 16) : Op.bytesLess (strOfNums (pr B a K)).toList (strOfNums (pr B b K)).toList = decide (a % B ^ K < b % B ^ K) := by
  rw [ByteArray.toList_eq, ByteArray.toList_eq, strOfNums_data, strOfNums_data]
  induction K with
  | zero => simp [pr, Op.bytesLess, Nat.mod_one]
  | succ K ih =>
    have ha : a / B ^ K % B < B := Nat.mod_lt _ (by omega)
    have hb : b / B ^ K % B < B := Nat.mod_lt _ (by omega)
    obtain ⟨h1, h2⟩ := chB_lt (a / B ^ K % B) (b / B ^ K % B) (by omega) (by omega)
    have e : ∀ n, (pr B n (K + 1)).map (fun n => UInt8.ofNat n.toNat) = chB (n / B ^ K % B) :: (pr B n K).map (fun n => UInt8.ofNat n.toNat) := fun n => rfl
    rw [e, e, Op.bytesLess, ih, h2]
    have h1' : (decide (chB (a / B ^ K % B) < chB (b / B ^ K % B))) = decide (a / B ^ K % B < b / B ^ K % B) := h1
    rw [h1', Nat.pow_succ, Nat.mod_mul, Nat.mod_mul]
    have ra : a % B ^ K < B ^ K := Nat.mod_lt _ (Nat.pow_pos (by omega))
    have rb : b % B ^ K < B ^ K := Nat.mod_lt _ (Nat.pow_pos (by omega))
    generalize a / B ^ K % B = x at *
    generalize b / B ^ K % B = y at *
    generalize a % B ^ K = u at *
    generalize b % B ^ K = v at *
    generalize B ^ K = P at *
    rw [Bool.eq_iff_iff]
    simp only [Bool.or_eq_true, Bool.and_eq_true, decide_eq_true_eq]
    rcases Nat.lt_trichotomy x y with h | h | h
    · have hm : P * (x + 1) ≤ P * y := Nat.mul_le_mul_left _ h
      rw [Nat.mul_add] at hm
      constructor
      · intro _; omega
      · intro _; exact Or.inl h
    · subst h
      constructor
      · intro hh; omega
      · intro hh; exact Or.inr ⟨rfl, by omega⟩
    · have hm : P * (y + 1) ≤ P * x := Nat.mul_le_mul_left _ h
      rw [Nat.mul_add] at hm
      constructor
      · intro hh; omega
      · intro hh; omega
theorem order_at (B a b K L : Nat) (hB : 2 ≤ B) (hB' : B ≤ 16) (hK : isK B a 0 K) (hL : isK B b 0 L) :
    decide (a < b) = (decide (K < L) || (decide (K = L) && Op.bytesLess (strOfNums (pr B a K)).toList (strOfNums (pr B b L)).toList)) := by
  obtain ⟨k1, _, k3, k4⟩ := hK
  obtain ⟨l1, _, l3, l4⟩ := hL
  have key : ∀ {x y X Y : Nat}, 1 ≤ X → x < B ^ X → (Y = 1 ∨ Y = 0 ∨ B ^ (Y - 1) ≤ y) → X < Y → x < y := by
    intro x y X Y h1 h2 h3 h4
    have h5 : B ^ (Y - 1) ≤ y := by omega
    exact Nat.lt_of_lt_of_le h2 (Nat.le_trans (Nat.pow_le_pow_right (by omega) (by omega)) h5)
  rcases Nat.lt_trichotomy K L with h | h | h
  · have := key k1 k3 l4 h
    simp [h, this]
  · subst h
    rw [pr_less B a b K hB hB', Nat.mod_eq_of_lt k3, Nat.mod_eq_of_lt l3]
    simp
  · have := key l1 l3 k4 h
    have h1 : ¬ a < b := by omega
    have h2 : ¬ K < L := by omega
    have h3 : ¬ K = L := by omega
    simp [h1, h2, h3]
theorem first_at (B a K : Nat) (hB : 2 ≤ B) (hB' : B ≤ 16) (hK : isK B a 0 K) (ha : 0 < a) : sb (strOfNums (pr B a K)) 0 ≠ 48 := by
  obtain ⟨k1, _, k3, k4⟩ := hK
  rw [sb_nums _ (fun z hz => by have := pr_bd B a K hB hB' z hz; omega), pr_get B a K 0 (by omega)]
  have h1 : B ^ (K - 1) ≤ a := by
    rcases k4 with h | h | h
    · subst h; simp; omega
    · omega
    · exact h
  have h2 : 0 < a / B ^ (K - 1) := Nat.div_pos h1 (Nat.pow_pos (by omega))
  have h3 : a / B ^ (K - 1) < B := by
    rw [Nat.div_lt_iff_lt_mul (Nat.pow_pos (by omega)), ← Nat.pow_succ', show (K - 1).succ = K from by omega]
    exact k3
  rw [show K - 1 - 0 = K - 1 from rfl, Nat.mod_eq_of_lt h3]
  unfold ch
  split <;> omega
theorem walk (a0 : Int) (a1 : Int) (a2 : Int) (w0 : (Lit.int .u64 a0).wf = true) (w1 : (Lit.int .u64 a1).wf = true) (w2 : (Lit.int .i64 a2).wf = true) (w : World) (hg : errs.Laid w) :
    Calls Tryd.prog 7 #[.int .u64 a0, .int .u64 a1, .int .i64 a2] w fun e w' => e = .returned (.bool true) ∧ Grown w w' := by
  have b0 := bounds_u64 w0
  have b1 := bounds_u64 w1
  clear w0 w1 w2
  have HG : Hid (Laid w) := hg
  clear hg
  obtain ⟨a, rfl⟩ := Int.eq_ofNat_of_zero_le (show 0 ≤ a0 by omega)
  obtain ⟨b, rfl⟩ := Int.eq_ofNat_of_zero_le (show 0 ≤ a1 by omega)
  have ha : a < 2 ^ 64 := by omega
  have hb : b < 2 ^ 64 := by omega
  have hp := pk_lt a2 15 (by omega)
  have cp : ∀ w, Calls Tryd.prog 24 #[.int .i64 a2, .int .i64 15] w fun e w' => e = .returned (.int .i64 (pk a2 15)) ∧ w' = w := fun w => pick_at a2 15 w (by omega) (by omega)
  generalize pk a2 15 = p at hp cp
  obtain ⟨B, hB⟩ : ∃ B, B = 2 + p := ⟨_, rfl⟩
  have hB2 : 2 ≤ B := by omega
  have hB16 : B ≤ 16 := by omega
  have eB : (2 : Int) + (p : Int) = (B : Int) := by omega
  obtain ⟨K, hK⟩ := isK_some B a 0 hB2 ha
  obtain ⟨L, hL⟩ := isK_some B b 0 hB2 hb
  have cA := fun w => print_at a B 0 K w hB2 hB16 ha (by omega) hK
  have cB := fun w => print_at b B 0 L w hB2 hB16 hb (by omega) hL
  have ord := order_at B a b K L hB2 hB16 hK hL
  have zS : (strOfNums (pr B a K)).size = K := by rw [strOfNums_size, pr_len]
  have zT : (strOfNums (pr B b L)).size = L := by rw [strOfNums_size, pr_len]
  have fS : 0 < a → sb (strOfNums (pr B a K)) 0 ≠ 48 := first_at B a K hB2 hB16 hK
  have hK1 : 1 ≤ K := hK.1
  have hK64 := isK_le B a 0 K hB2 ha (by omega) hK
  have hL64 := isK_le B b 0 L hB2 hb (by omega) hL
  generalize strOfNums (pr B a K) = S at *
  generalize strOfNums (pr B b L) = T at *
  have hne : S.toList.isEmpty = false := by rw [isEmpty_at]; exact decide_eq_false (by omega)
  have HO : Hid (decide (a < b) = (decide (K < L) || (decide (K = L) && Op.bytesLess S.toList T.toList))) := ord
  have hp0 : 0 < S.size := by omega
  have f0 : 0 < a → ((((S[0]'hp0).toNat : Nat) : Int) == 48) = false := fun h => by rw [← sb_get S 0 hp0]; simpa using fS h
  clear hK hL ord fS hB ha hb
  have H3 : (K < L ∧ decide (a < b) = true) ∨ (K = L ∧ decide (a < b) = Op.bytesLess S.toList T.toList) ∨ (L < K ∧ decide (a < b) = false) := by
    have h := HO.out
    rcases Nat.lt_trichotomy K L with h1 | h1 | h1
    · rw [decide_eq_true h1, Bool.true_or] at h
      exact Or.inl ⟨h1, h⟩
    · rw [decide_eq_false (show ¬ K < L by omega), decide_eq_true h1, Bool.false_or, Bool.true_and] at h
      exact Or.inr (Or.inl ⟨h1, h⟩)
    · rw [decide_eq_false (show ¬ K < L by omega), decide_eq_false (show ¬ K = L by omega), Bool.false_or, Bool.false_and] at h
      exact Or.inr (Or.inr ⟨h1, h⟩)
  clear HO
  have HZ : Hid (((0 : Int) < (a : Int) ∧ ((((S[0]'hp0).toNat : Nat) : Int) == 48) = false) ∨ decide ((0 : Int) < (a : Int)) = false) := by
    by_cases hz : 0 < a
    · exact Or.inl ⟨by omega, f0 hz⟩
    · exact Or.inr (decide_eq_false (by omega))
  clear f0
  have eL : (K : Int) = (L : Int) ↔ K = L := by omega
  rcases H3 with ⟨hkl, hd⟩ | ⟨hkl, hd⟩ | ⟨hkl, hd⟩
  · have t1 : (K : Int) < (L : Int) := by omega
    clear eL
    rcases HZ.out with ⟨z1, z2⟩ | z1
    all_goals clear HZ
    all_goals go_enter Tryd.func7, Tryd.ntmps7
    all_goals go_wp2_with (first | (go_at_call 23; refine (figured_at _ HG.out).mono ?_; rintro x v1 ⟨rfl, g1⟩) | (go_at_call 24; refine (cp _).mono ?_; rintro x v2 ⟨rfl, rfl⟩) | (go_at_call_of 10 (Value.int IntKind.u64 (a : Int)); refine (cA _).mono ?_; rintro x v3 ⟨rfl, g3⟩) | (go_at_call 10; refine (cB _).mono ?_; rintro x v4 ⟨rfl, g4⟩))
    all_goals go_ret
    all_goals refine ⟨?_, ((g1.trans g3).trans g4).g⟩
    all_goals first | (simp; done) | (simp; omega) | (exfalso; simp at z1; omega)
  · subst hkl
    have t1 : decide ((K : Int) < (K : Int)) = false := decide_eq_false (by omega)
    clear eL
    rcases HZ.out with ⟨z1, z2⟩ | z1
    all_goals clear HZ
    all_goals go_enter Tryd.func7, Tryd.ntmps7
    all_goals go_wp2_with (first | (go_at_call 23; refine (figured_at _ HG.out).mono ?_; rintro x v1 ⟨rfl, g1⟩) | (go_at_call 24; refine (cp _).mono ?_; rintro x v2 ⟨rfl, rfl⟩) | (go_at_call_of 10 (Value.int IntKind.u64 (a : Int)); refine (cA _).mono ?_; rintro x v3 ⟨rfl, g3⟩) | (go_at_call 10; refine (cB _).mono ?_; rintro x v4 ⟨rfl, g4⟩))
    all_goals go_ret
    all_goals refine ⟨?_, ((g1.trans g3).trans g4).g⟩
    all_goals first | (simp; done) | (simp; omega) | (exfalso; simp at z1; omega)
  · have t1 : decide ((K : Int) < (L : Int)) = false := decide_eq_false (by omega)
    have t2 : ((K : Int) == (L : Int)) = false := by simp; omega
    clear eL
    rcases HZ.out with ⟨z1, z2⟩ | z1
    all_goals clear HZ
    all_goals go_enter Tryd.func7, Tryd.ntmps7
    all_goals go_wp2_with (first | (go_at_call 23; refine (figured_at _ HG.out).mono ?_; rintro x v1 ⟨rfl, g1⟩) | (go_at_call 24; refine (cp _).mono ?_; rintro x v2 ⟨rfl, rfl⟩) | (go_at_call_of 10 (Value.int IntKind.u64 (a : Int)); refine (cA _).mono ?_; rintro x v3 ⟨rfl, g3⟩) | (go_at_call 10; refine (cB _).mono ?_; rintro x v4 ⟨rfl, g4⟩))
    all_goals go_ret
    all_goals refine ⟨?_, ((g1.trans g3).trans g4).g⟩
    all_goals first | (simp; done) | (simp; omega) | (exfalso; simp at z1; omega)

set_option maxRecDepth 100000 in
theorem lifted (os : Os) (started : os.Started) (H : Type) (enc : TypeId × Value → H) :
    ReturnsInHanded {} Tryd.checked os 7 .any (fun w args => (Rows.digitsShortSpec.pre enc Tryd.prog Tryd.f7 [] false w args ∧ laidMetH Tryd.prog laying.list w) ∧ sizedMet enc Tryd.prog Tryd.f7 (OpenSpec.ofChange Rows.digitsShortSpec) false w args) (Rows.digitsShortSpec.post enc Tryd.prog Tryd.f7 false true false false) := by
  refine returnsInHanded_of_change_and (C := Tryd.checked) (X := fun w _ => laidMetH Tryd.prog laying.list w) (fun _ _ _ hh h => h.of_heap hh) own started (by kernel_rfl) Tryd.func7
    (ChangeSpec.witness_at (enc := enc) (C := Tryd.checked) (os := os) (X := fun w _ => laidMetH Tryd.prog laying.list w) false (laying.layCell (World.holding Tryd.prog os ⟨#[], #[], []⟩)) #[.int .u64 0, .int .u64 0, .int .i64 0] 8 rfl (by kernel_rfl) (by kernel_rfl) (by kernel_rfl) (by kernel_rfl) (by kernel_rfl) (laying.laidWorld_met os _)) ?_
  intro W base args ds gs before hval0 hW hcnd hsz0 hL _
  have hval : ∀ (j : Nat) t v, Tryd.f7.params[j]? = some t → args[j]? = some v → Value.okWide Tryd.prog W .any base t v := hval0
  have hW' := hW
  obtain ⟨p, q, hA0, hV, rfl, hfz, hnd⟩ := hW
  have hA : DataW.TrodAll enc Tryd.prog W 0 (fun _ => true) true Tryd.f7.params.toList args.toList ds p := hA0
  have hsz : (DataW.weightsEach Tryd.prog (Tryd.f7.params.toList ++ Rows.digitsShortSpec.plain.varTypes Tryd.prog) (ds ++ gs)).all (· ≤ reachBytes) = true := hsz0
  rw [Tryd.params7] at hA hval hsz
  obtain ⟨v0, vs0, d0, ds0, p0, q0, hargs, rfl, rfl, h0, r0⟩ := trodAll_cons hA
  obtain ⟨v1, vs1, d1, ds1, p1, q1, rfl, rfl, rfl, h1, r1⟩ := trodAll_cons r0
  obtain ⟨v2, vs2, d2, ds2, p2, q2, rfl, rfl, rfl, h2, r2⟩ := trodAll_cons r1
  obtain ⟨rfl, rfl, rfl⟩ := trodAll_nil r2
  obtain rfl : args = #[v0, v1, v2] := by cases args; simp_all
  obtain ⟨rfl, rfl⟩ := trodVars_none hV
  obtain ⟨a0, rfl, rfl, rfl, w0⟩ := open_int Tryd.underlying22 (hval 0 22 v0 rfl rfl) h0
  obtain ⟨a1, rfl, rfl, rfl, w1⟩ := open_int Tryd.underlying22 (hval 1 22 v1 rfl rfl) h1
  obtain ⟨a2, rfl, rfl, rfl, w2⟩ := open_int Tryd.underlying3 (hval 2 3 v2 rfl rfl) h2
  clear hA0 hval0 hsz0 hsz
  simp only [List.append_nil] at hW'
  refine (walk a0 a1 a2 w0 w1 w2 W (laying.handle_of_laid hL)).mono fun e W' ⟨he, hg⟩ => ?_
  subst he
  exact ⟨_, rfl, post_of_same (pa := []) (pv := []) hW' (fun _ _ _ => (trodAll_cons_mk (shut_bool Tryd.underlying4 _) trodAll_mk0)) (fun sp _ => (trodAll_cons_mk (shut_int Tryd.underlying22 w0) (trodAll_cons_mk (shut_int Tryd.underlying22 w1) (trodAll_cons_mk (shut_int Tryd.underlying3 w2) trodAll_mk0)))) (fun _ _ => rfl) rfl
    (hg.frame _) hg.2.1 (ok_one (by kernel_rfl) rfl (okWide_bool_mk Tryd.underlying4 _))⟩

theorem over : Rows.digitsShortRow.holds Tryd.pinned (OpenSpec.ofChange Rows.digitsShortSpec) :=
  OpenClaim.holds_of_wide 7 Tryd.f7 rfl rfl rfl rfl rfl rfl rfl ⟨rfl, rfl, rfl, rfl, rfl⟩ rfl rfl rfl rfl rfl (by kernel_rfl) Tryd.func7 (by kernel_rfl)
    (of_decide_eq_true (by kernel_rfl)) (by unfold Func.isWrapper; first | (rw [if_pos (by decide +kernel)]; kernel_rfl) | (rw [if_neg (by decide +kernel)]; exact ⟨rfl, rfl⟩))
    (fun os started H enc _ => lifted os started H enc)

theorem tied : Rows.DigitsShortCardSaid :=
  Claim7.holds_tied_plain_at .later [] [.handle] true (true, "b47a621a2adbcce19bb2b222f4054078daf8760fcc217c0053af485b12705170") true
    over (fun _ h => by cases h) (by kernel_rfl) (fun _ h => by cases h) digitsShort_row_tie rfl ⟨rfl, rfl⟩ (by kernel_rfl) rfl
    (fun f fn hf hfn => by
      obtain rfl : f = 7 := Option.some.inj ((show Tryd.prog.funcNamed "escritoire/escritoirekeep.DigitsShort" = some 7 by kernel_rfl).symm.trans hf) |>.symm
      obtain rfl : fn = Tryd.f7 := (Option.some.inj (Tryd.func7.symm.trans hfn)).symm
      exact ⟨by kernel_rfl, fun j t ht => by
        rw [Tryd.params7] at ht
        rcases j with _ | j
        · obtain rfl : t = 22 := by simpa using ht.symm
          exact (show Tryd.prog.wantsStandIn 22 = false by kernel_rfl)
        · rcases j with _ | j
          · obtain rfl : t = 22 := by simpa using ht.symm
            exact (show Tryd.prog.wantsStandIn 22 = false by kernel_rfl)
          · rcases j with _ | j
            · obtain rfl : t = 3 := by simpa using ht.symm
              exact (show Tryd.prog.wantsStandIn 3 = false by kernel_rfl)
            · simp at ht⟩)
    (by kernel_rfl)
end Go.Proofs.YtncmpjdapngmpaaDoor.digitsShort
namespace Go.Proofs.YtncmpjdapngmpaaDoor
/-- The given statement. -/
theorem digitsShort_holds : Rows.DigitsShortCardSaid := digitsShort.tied
#print axioms digitsShort_holds
end Go.Proofs.YtncmpjdapngmpaaDoor
