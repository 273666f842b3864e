/- FindEach: all at once, or one by one: where any of several patterns stand each of them does, alone: for every input. -/
import Derived.Test.YtehmjffbfgnijabDoorRows
import Derived.WalkKit
import Derived.ProofKit
import Derived.OpenShut
import Derived.SizedLaws
import Derived.Test.YtehmjffbfgnijabDoorLaidDD
import Derived.Test.YtehmjffbfgnijabDoorTie
import Derived.Test.YtehmjffbfgnijabDoorCards
import Derived.SevenTiedAt
import Derived.Test.YtehmjffbfgnijabDoorFi1
import Derived.Test.YtehmjffbfgnijabDoorStg
import Derived.Test.YtehmjffbfgnijabDoorFd7
import Derived.ShutString
import Derived.ChangeOld
import Derived.Below
namespace Go.Proofs.YtehmjffbfgnijabDoor.findEach
open Go.ChangeShapes Go.WideShapes Go.ChangeAt Go.RowKit
open Go.ChangeMaps (open_string shut_string)
set_option linter.unusedVariables false

theorem own : ownKnob Tryd.prog.godebug = none := by kernel_rfl
theorem laidOut : laidOutB Tryd.prog = true := by kernel_rfl

/-- WHAT THE WALK IS TOLD OF A SLICE OF INTEGERS THAT CAME IN: it is nil; or it leads to a row of 'cap' cells, the numbers 'zs' (the first 'len' are its elements, the rest its spare room), each fitting its kind. -/
def IsRow (k : IntKind) (w : World) (a : Option Addr) (len cap : Nat) (zs : List Int) : Prop :=
  (a = none ∧ len = 0 ∧ cap = 0 ∧ zs = []) ∨
  ∃ x, a = some x ∧ len ≤ cap ∧ cap ≤ maxLen ∧ zs.length = cap ∧ (∀ i, i < zs.length → w.cell? (x.add i) = some (.int k (zs.getD i 0))) ∧ ∀ n ∈ zs, (Lit.int k n).wf = true

open mem rows fd find tree anyp
theorem cf_no (q : Option Addr) (cp : Nat) (ps : List ByteArray) (w : World) (hin : InT w q ps) (hK : ps.length ≤ 5000) (hp : ¬ HasOdd ps) :
    Calls Tryd.prog 5 #[.slice q ps.length cp, .func (.func 6) #[] #[]] w fun e w' => e = .returned (.bool false) ∧ w' = w :=
  (ContainsFunc_at q cp ps w hin hK).mono (by
    rintro e w' ⟨⟨b, rfl, hb⟩, rfl⟩
    cases b with
    | false => exact ⟨rfl, rfl⟩
    | true => exact absurd (hb.1 rfl) hp)
theorem cf_yes (q : Option Addr) (cp : Nat) (ps : List ByteArray) (w : World) (hin : InT w q ps) (hK : ps.length ≤ 5000) (hp : HasOdd ps) :
    Calls Tryd.prog 5 #[.slice q ps.length cp, .func (.func 6) #[] #[]] w fun e w' => e = .returned (.bool true) ∧ w' = w :=
  (ContainsFunc_at q cp ps w hin hK).mono (by
    rintro e w' ⟨⟨b, rfl, hb⟩, rfl⟩
    rw [hb.2 hp]
    exact ⟨rfl, rfl⟩)
set_option maxHeartbeats 4000000 in
set_option maxRecDepth 100000 in
theorem core (a0 : ByteArray) (q : Option Addr) (cp : Nat) (ps : List ByteArray) (a2 : Int) (w : World) (hg : low.Tab w) (hs0 : a0.size ≤ 200) (hs1 : ps.length ≤ 20) (hs2 : 0 < ps.length) (hin : InT w q ps) (hp : ¬ HasOdd ps) :
    Calls Tryd.prog 3 #[.string a0, .slice q ps.length cp, .int .i64 a2] w fun e w' => e = .returned (.bool true) ∧ Below w.heap.size w w' := by
  have hpp : ∀ k, k < ps.length → 0 < (ps.getD k .empty).size ∧ (ps.getD k .empty).size ≤ 30 := fun k hk => ⟨Nat.pos_of_ne_zero fun h => hp ⟨k, hk, Or.inl h⟩, Nat.not_lt.1 fun h => hp ⟨k, hk, Or.inr h⟩⟩
  have cF := fun w' (hb : Bl w w') => cf_no q cp ps w' (hin.step hb) (by omega) hp
  have cA := fun w' (hb : Bl w w') => Any_at a0 q cp ps w' (hin.step hb) (by omega) hpp (by omega) (anyp.tab_bl hg hb)
  have cP := fun w' => pick_at a2 ps.length w' hs2 (by omega)
  have hpk := pk_lt a2 ps.length hs2
  obtain ⟨K, hKe⟩ : ∃ K, K = ps.length := ⟨_, rfl⟩
  have HIN : Hid (InT w q ps) := hin
  have HS : Hid _ := hpp
  have HK : Hid (K = ps.length) := hKe
  rw [← hKe] at hs1 hs2 cF cA cP hpk ⊢
  clear hin hp hKe hg hpp
  generalize find.pk a2 K = k at cP hpk
  have hkK : k < ps.length := by rw [← HK.out]; exact hpk
  have hkz : (k : Int) < (K : Int) := by omega
  have cL := fun w' => All_at a0 (ps.getD k .empty) w' (by omega) (by have := (HS.out k hkK).2; omega) (HS.out k hkK).1
  have hz0 : ¬ (200 : Int) < (a0.size : Int) := by omega
  have hz1 : ((K : Int) == 0) = false := by rw [beq_eq_false_iff_ne]; omega
  have hz2 : ¬ (20 : Int) < (K : Int) := by omega
  have y0 : decide ((200 : Int) < (a0.size : Int)) = false := decide_eq_false hz0
  have y2 : decide ((20 : Int) < (K : Int)) = false := decide_eq_false hz2
  go_enter Tryd.func3, Tryd.ntmps3
  go_wp2_with (fail)
  refine (found_at _).mono ?_
  rintro e v1 ⟨rfl, g1⟩
  go_wp2_with (fail)
  refine (cF _ g1).mono ?_
  rintro e v2 ⟨rfl, rfl⟩
  clear cF
  go_wp2_with (fail)
  refine (cA _ g1).mono ?_
  rintro e v3 ⟨lv, L, rfl, hoL, hany, hLn, g3⟩
  clear cA
  obtain ⟨x, rfl, hcx⟩ := (HIN.out.step (g1.trans g3)).at k hkK
  have h0k := (HS.out k hkK).1
  have HTH : Hid _ := those_all hany k hkK h0k
  have hrl := pls_len (sb (ps.getD k .empty)) (sb a0) (ps.getD k .empty).size a0.size h0k
  clear h0k
  generalize hpe : ps.getD k .empty = pe at hcx cL HTH hrl
  clear hpe
  obtain ⟨R, hR⟩ : ∃ R, R = ints (pls (sb pe) (sb a0) pe.size a0.size) := ⟨_, rfl⟩
  rw [← ints_len] at hrl
  rw [← hR] at cL HTH hrl
  clear hR
  have HLB : Hid (∀ j, (those k L j).length ≤ 200) := fun j => by
    have h1 := those_part k L j
    rw [HTH.out] at h1
    omega
  go_wp2_with (fail)
  refine (cP _).mono ?_
  rintro e v4 ⟨rfl, rfl⟩
  clear cP
  go_wp2_with (fail)
  refine (cL _).mono ?_
  rintro e v5 ⟨av, rfl, hoA, g5⟩
  clear cL
  have G5 : Bl w v5 := (g1.trans g3).trans g5
  have hoL5 := hoL.step g5
  clear hoL g1 g3 g5
  obtain ⟨n, hn⟩ : ∃ n, n = L.length := ⟨_, rfl⟩
  have hla : ∃ p c, lv = .slice p n c ∧ ∀ j, j < n → ∃ g, p = some ⟨g, 0, none⟩ ∧ v5.cell? ⟨g, 2 * j, none⟩ = some (.int .i64 (L.getD j (0, 0)).1) ∧ v5.cell? ⟨g, 2 * j + 1, none⟩ = some (.int .i64 (L.getD j (0, 0)).2) := by
    rcases hoL5.shape with ⟨rfl, rfl⟩ | ⟨g, c, rfl, _, _, _, _, h⟩
    · exact ⟨none, 0, by rw [hn]; rfl, fun j hj => by rw [hn] at hj; exact absurd hj (Nat.not_lt_zero _)⟩
    · exact ⟨_, c, by rw [hn], fun j hj => ⟨g, rfl, h j (by omega)⟩⟩
  obtain ⟨pa, ca, rfl, hca⟩ := hla
  have HCA : Hid _ := hca
  have HN : Hid (n = L.length) := hn
  have hn2 : n ≤ 20000 := by omega
  obtain ⟨B, hB⟩ : ∃ B, B = v5.heap.size := ⟨_, rfl⟩
  have HB : Hid (B = v5.heap.size) := hB
  clear hca hn hB hoL5 hLn hany
  go_wp2_with (fail)
  go_loopw [12, 55] (fun bv i wr => ∃ j : Nat, j ≤ n ∧ i = .int .i64 (j : Int) ∧ Own wr B bv (those k L j) ∧ Bl v5 wr) (fun _ i _ => n - (intOf i).toNat)
  case atStart => exact ⟨0, Nat.zero_le _, rfl, Own.nil _ _, Bl.refl _⟩
  case round =>
    obtain ⟨j, hj, rfl, hown, hbl⟩ := hrel
    by_cases hjn : j < n
    · have hlz : (j : Int) < (n : Int) := by omega
      have hjL : j < L.length := by rw [← HN.out]; exact hjn
      obtain ⟨ga, rfl, x1, x2⟩ := HCA.out j hjn
      rw [Nat.mul_comm] at x1 x2
      have x1' := at_bl hbl x1
      have x2' := at_bl hbl x2
      have hlb := HLB.out j
      clear x1 x2
      by_cases hw : (L.getD j (0, 0)).2 = (k : Int)
      · have HY : Hid _ := those_yes k L j hjL hw
        have hz : ((L.getD j (0, 0)).2 == (k : Int)) = true := by rw [beq_iff_eq]; exact hw
        clear hw
        generalize (L.getD j (0, 0)).1 = X1 at *
        generalize (L.getD j (0, 0)).2 = X2 at *
        go_wp2_with (at_builtin; refine wpL_app rfl (.tmp 63) (.tmp 66) rfl rfl _ _ X1 (wr.heap.size + 1) rfl rfl B (hown.step (((Bl.refl _).alloc _).alloc _)) (by go_simp) (by omega) (by have := hbl.size; have := HB.out; simp; omega) ?_; intro v' w3 ho3 hg3 hv3; have hb3 : Bl v5 w3 := bl_grown ((hbl.alloc _).alloc _) hg3 (fun j e => by rw [← HB.out]; exact (hown.block j e).1); clear hg3 hv3)
        go_roundw
        case rel => exact ⟨j + 1, by omega, by go_num, by rw [HY.out]; exact ho3, hb3⟩
        case measure => simp [intOf]; omega
      · have HY : Hid _ := those_no k L j hjL hw
        have hz : ((L.getD j (0, 0)).2 == (k : Int)) = false := by rw [beq_eq_false_iff_ne]; exact hw
        clear hw
        generalize (L.getD j (0, 0)).1 = X1 at *
        generalize (L.getD j (0, 0)).2 = X2 at *
        go_wp2
        go_roundw
        case rel => exact ⟨j + 1, by omega, by go_num, by rw [HY.out]; exact hown.step ((Bl.refl _).alloc _), hbl.alloc _⟩
        case measure => simp [intOf]; omega
    · have hnl2 : ¬ ((j : Int) < (n : Int)) := by omega
      have hown2 : Own wr B u12 R := by
        rw [← HTH.out, ← HN.out, show n = j by omega]
        exact hown
      have cE := equal_at _ _ R wr (view_own (hoA.step hbl)) (view_own hown2) (by omega)
      go_wp2_with (fail)
      refine cE.mono ?_
      rintro e v7 ⟨rfl, g7⟩
      go_wp2
      go_ret
      exact ⟨rfl, (G5.trans hbl).trans g7⟩
set_option maxHeartbeats 4000000 in
set_option maxRecDepth 100000 in
theorem bad (a0 : ByteArray) (q : Option Addr) (cp : Nat) (ps : List ByteArray) (a2 : Int) (w : World) (hs0 : a0.size ≤ 200) (hs1 : ps.length ≤ 20) (hs2 : 0 < ps.length) (hin : InT w q ps) (hp : HasOdd ps) :
    Calls Tryd.prog 3 #[.string a0, .slice q ps.length cp, .int .i64 a2] w fun e w' => e = .returned (.bool true) ∧ Below w.heap.size w w' := by
  have cF := fun w' (hb : Bl w w') => cf_yes q cp ps w' (hin.step hb) (by omega) hp
  generalize ps.length = K at *
  have hz0 : ¬ (200 : Int) < (a0.size : Int) := by omega
  have hz1 : ((K : Int) == 0) = false := by rw [beq_eq_false_iff_ne]; omega
  have hz2 : ¬ (20 : Int) < (K : Int) := by omega
  have y0 : decide ((200 : Int) < (a0.size : Int)) = false := decide_eq_false hz0
  have y2 : decide ((20 : Int) < (K : Int)) = false := decide_eq_false hz2
  go_enter Tryd.func3, Tryd.ntmps3
  go_wp2_with (fail)
  refine (found_at _).mono ?_
  rintro e v1 ⟨rfl, g1⟩
  go_wp2_with (fail)
  refine (cF _ g1).mono ?_
  rintro e v2 ⟨rfl, rfl⟩
  go_wp2
  go_ret
  exact ⟨rfl, g1⟩
set_option maxHeartbeats 4000000 in
set_option maxRecDepth 100000 in
theorem walk (a0 : ByteArray) (a1 : Option Addr) (len1 cap1 : Nat) (z1 : List ByteArray) (a2 : Int) (w : World) (w0 : a0.size ≤ maxLen) (w1 : tree.IsStr w a1 len1 cap1 z1) (w2 : (Lit.int .i64 a2).wf = true) (hg : low.Tab w) :
    Calls Tryd.prog 3 #[.string a0, .slice a1 len1 cap1, .int .i64 a2] w fun e w' => e = .returned (.bool true) ∧ Below w.heap.size w w' := by
  obtain ⟨hl, hin, hlm⟩ := w1
  subst hl
  clear w0 w2
  by_cases hs0 : a0.size ≤ 200
  · have hz0 : ¬ (200 : Int) < (a0.size : Int) := by omega
    have y0 : decide ((200 : Int) < (a0.size : Int)) = false := decide_eq_false hz0
    by_cases hs2 : 0 < z1.length
    · by_cases hs1 : z1.length ≤ 20
      · by_cases hp : HasOdd z1
        · exact bad a0 a1 cap1 z1 a2 w hs0 hs1 hs2 hin hp
        · exact core a0 a1 cap1 z1 a2 w hg hs0 hs1 hs2 hin hp
      · have hz1 : ((z1.length : Int) == 0) = false := by rw [beq_eq_false_iff_ne]; omega
        have hz2 : (20 : Int) < (z1.length : Int) := by omega
        have y2 : decide ((20 : Int) < (z1.length : Int)) = true := decide_eq_true hz2
        clear hin hs1
        generalize z1.length = K at *
        go_enter Tryd.func3, Tryd.ntmps3
        go_wp2_with (fail)
        refine (found_at _).mono ?_
        rintro e v1 ⟨rfl, g1⟩
        go_wp2
        go_ret
        exact ⟨rfl, g1⟩
    · have hz1 : ((z1.length : Int) == 0) = true := by rw [beq_iff_eq]; omega
      clear hin hs2
      generalize z1.length = K at *
      go_enter Tryd.func3, Tryd.ntmps3
      go_wp2_with (fail)
      refine (found_at _).mono ?_
      rintro e v1 ⟨rfl, g1⟩
      go_wp2
      go_ret
      exact ⟨rfl, g1⟩
  · have hz0 : (200 : Int) < (a0.size : Int) := by omega
    have y0 : decide ((200 : Int) < (a0.size : Int)) = true := decide_eq_true hz0
    clear hin
    generalize z1.length = K at *
    go_enter Tryd.func3, Tryd.ntmps3
    go_wp2_with (fail)
    refine (found_at _).mono ?_
    rintro e v1 ⟨rfl, g1⟩
    go_wp2
    go_ret
    exact ⟨rfl, g1⟩

set_option maxRecDepth 100000 in
theorem lifted (os : Os) (started : os.Started) (H : Type) (enc : TypeId × Value → H) :
    ReturnsInHanded {} Tryd.checked os 3 .any (fun w args => (Rows.findEachSpec.pre enc Tryd.prog Tryd.f3 [] false w args ∧ laidMetH Tryd.prog laidd.plain w) ∧ sizedMet enc Tryd.prog Tryd.f3 (OpenSpec.ofChange Rows.findEachSpec) false w args) (Rows.findEachSpec.post enc Tryd.prog Tryd.f3 false true false false) := by
  refine returnsInHanded_of_change_and (C := Tryd.checked) (X := fun w _ => laidMetH Tryd.prog laidd.plain w) (fun _ _ _ hh h => h.of_heap hh) own started (by kernel_rfl) Tryd.func3
    (ChangeSpec.witness_shaped (enc := enc) (C := Tryd.checked) (os := os) (X := fun w _ => laidMetH Tryd.prog laidd.plain w) false (World.layVars Tryd.prog (World.holding Tryd.prog os ⟨#[], #[], []⟩) laidd.plain) #[.string ByteArray.empty, .slice none 0 0, .int .i64 0] 8 (World.layVars_os _ _ _) (World.shaped_of_ZipB (by kernel_rfl) (by kernel_rfl)) (by kernel_rfl) (by kernel_rfl) (by kernel_rfl) (laidd.world_met os _)) ?_
  intro W base args ds gs before hval0 hW hcnd hsz0 hL _
  have hval : ∀ (j : Nat) t v, Tryd.f3.params[j]? = some t → args[j]? = some v → Value.okWide Tryd.prog W .any base t v := hval0
  have hW' := hW
  obtain ⟨p, q, hA0, hV, rfl, hfz, hnd⟩ := hW
  have hA : DataW.TrodAll enc Tryd.prog W 0 (fun _ => true) true Tryd.f3.params.toList args.toList ds p := hA0
  have hsz : (DataW.weightsEach Tryd.prog (Tryd.f3.params.toList ++ Rows.findEachSpec.plain.varTypes Tryd.prog) (ds ++ gs)).all (· ≤ reachBytes) = true := hsz0
  rw [Tryd.params3] at hA hval hsz
  obtain ⟨v0, vs0, d0, ds0, p0, q0, hargs, rfl, rfl, h0, r0⟩ := trodAll_cons hA
  obtain ⟨v1, vs1, d1, ds1, p1, q1, rfl, rfl, rfl, h1, r1⟩ := trodAll_cons r0
  obtain ⟨v2, vs2, d2, ds2, p2, q2, rfl, rfl, rfl, h2, r2⟩ := trodAll_cons r1
  obtain ⟨rfl, rfl, rfl⟩ := trodAll_nil r2
  obtain rfl : args = #[v0, v1, v2] := by cases args; simp_all
  obtain ⟨rfl, rfl⟩ := trodVars_none hV
  obtain ⟨a0, rfl, rfl, rfl, w0⟩ := open_string Tryd.underlying9 (hval 0 9 v0 rfl rfl) h0
  obtain ⟨a1, len1, cap1, rfl⟩ := okWide_slice Tryd.underlying22 (hval 1 22 v1 rfl rfl)
  have k1 := h1
  have lt1 : ∀ x ∈ p1, x.block < W.heap.size := by obtain ⟨m, hm⟩ := k1; exact DataW.trod_lt m _ _ _ hm
  obtain ⟨z1, w1⟩ : ∃ zs, tree.IsStr W a1 len1 cap1 zs := tree.str_open h1
  obtain ⟨a2, rfl, rfl, rfl, w2⟩ := open_int Tryd.underlying3 (hval 2 3 v2 rfl rfl) h2
  clear hA0 hval0 hsz0 hsz
  refine (walk a0 a1 len1 cap1 z1 a2 W w0 w1 w2 (laidd.tab_of_laid hL)).mono fun e W' ⟨he, bel⟩ => ?_
  subst he
  exact ⟨_, rfl, _, _, _, [], _, [], hW', trodAll_mk1 (shut_bool Tryd.underlying4 _), (trodAll_cons_mk (shut_string Tryd.underlying9 w0) (trodAll_cons_mk (Below.trod laidOut (by kernel_rfl) (of_decide_eq_true (by kernel_rfl)) k1 bel lt1) (trodAll_cons_mk (shut_int Tryd.underlying3 w2) trodAll_mk0))), rfl, bel.frame _, fun h => by cases h⟩

theorem over : Rows.findEachRow.holds Tryd.pinned (OpenSpec.ofChange Rows.findEachSpec) :=
  OpenClaim.holds_of_wide 3 Tryd.f3 rfl rfl rfl rfl rfl rfl rfl ⟨rfl, rfl, rfl, rfl, rfl⟩ rfl rfl rfl rfl rfl (by kernel_rfl) Tryd.func3 (by kernel_rfl)
    (of_decide_eq_true (by kernel_rfl)) (by unfold Func.isWrapper; first | (rw [if_pos (by decide +kernel)]; kernel_rfl) | (rw [if_neg (by decide +kernel)]; exact ⟨rfl, rfl⟩))
    (fun os started H enc _ => lifted os started H enc)

theorem tied : Rows.FindEachCardSaid :=
  Claim7.holds_tied_plain_at .later [] [.data] true (true, "9d9c88d5f79c4793af4e3238a30c85c6986f267a7a3a5dda0385e4c82df1560b") false
    over (fun _ h => by cases h) (by kernel_rfl) (fun _ h => by cases h) findEach_row_tie rfl ⟨rfl, rfl⟩ (by kernel_rfl) rfl
    (fun f fn hf hfn => by
      obtain rfl : f = 3 := Option.some.inj ((show Tryd.prog.funcNamed "escritoire/escritoirekeep.FindEach" = some 3 by kernel_rfl).symm.trans hf) |>.symm
      obtain rfl : fn = Tryd.f3 := (Option.some.inj (Tryd.func3.symm.trans hfn)).symm
      exact ⟨by kernel_rfl, fun j t ht => by
        rw [Tryd.params3] at ht
        rcases j with _ | j
        · obtain rfl : t = 9 := by simpa using ht.symm
          exact (show Tryd.prog.wantsStandIn 9 = false by kernel_rfl)
        · rcases j with _ | j
          · obtain rfl : t = 22 := by simpa using ht.symm
            exact (show Tryd.prog.wantsStandIn 22 = false by kernel_rfl)
          · rcases j with _ | j
            · obtain rfl : t = 3 := by simpa using ht.symm
              exact (show Tryd.prog.wantsStandIn 3 = false by kernel_rfl)
            · simp at ht⟩)
    (by kernel_rfl)
end Go.Proofs.YtehmjffbfgnijabDoor.findEach
namespace Go.Proofs.YtehmjffbfgnijabDoor
/-- The given statement. -/
theorem findEach_holds : Rows.FindEachCardSaid := findEach.tied
#print axioms findEach_holds
end Go.Proofs.YtehmjffbfgnijabDoor
