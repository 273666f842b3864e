/- SuffixOrder: EACH ONCE, IN A ROW: all ends of a text are there, each below the next one, and each has in common with the one ahead of it what is told: for every input. -/
import Derived.Test.YtnhdaolieifhnaaRows
import Derived.WalkKit
import Derived.ProofKit
import Derived.OpenShut
import Derived.SizedLaws
import Derived.Test.YtnhdaolieifhnaaSx9
import Derived.ShutString
namespace Go.Proofs.Ytnhdaolieifhnaa.suffixOrder
open Go.ChangeShapes Go.WideShapes Go.ChangeAt Go.RowKit
open Go.ChangeMaps (open_string shut_string)
set_option linter.unusedVariables false      -- a walk need not use every 'w<i>' (that an integer argument fits its kind)

theorem own : ownKnob Try.prog.godebug = none := by kernel_rfl

open mem rows fd find sx
/-- What was seen up to place k. -/
def fk (l : List Int) (k : Nat) (c : Int) : Int := if c ∈ l.take k then 1 else 0
theorem fk_next (l : List Int) (k : Nat) (h : k < l.length) : (fun d => if d = l.getD k 0 then 1 else fk l k d) = fk l (k + 1) := by
  funext d
  unfold fk
  have e : l.getD k 0 = l[k] := by rw [List.getD_eq_getElem?_getD, List.getElem?_eq_getElem h]; rfl
  have hm : d ∈ l.take (k + 1) ↔ d ∈ l.take k ∨ d = l[k] := by
    rw [List.take_add_one, List.mem_append, List.getElem?_eq_getElem h]
    simp only [Option.toList_some, List.mem_singleton]
  rw [e]
  by_cases hd : d = l[k]
  · rw [if_pos hd, if_pos (hm.2 (Or.inr hd))]
  · rw [if_neg hd]
    have : (d ∈ l.take (k + 1)) ↔ d ∈ l.take k := hm.trans ⟨fun h => h.resolve_right hd, Or.inl⟩
    simp only [this]
theorem fk_new {g : Nat → Int} {N k : Nat} {L : List Nat} (h : IsSort g N L) (hk : k < N) : fk (ints L) k ((L.getD k 0 : Nat) : Int) = 0 := by
  unfold fk
  rw [if_neg]
  intro hm
  obtain ⟨j, hj, e⟩ := List.mem_iff_getElem.1 hm
  rw [List.length_take, ints_len, h.len] at hj
  rw [List.getElem_take] at e
  have e2 : ((L.getD j 0 : Nat) : Int) = ((L.getD k 0 : Nat) : Int) := by
    rw [← sx.ints_at, List.getD_eq_getElem?_getD, List.getElem?_eq_getElem (by rw [ints_len, h.len]; omega)]
    exact e
  have := h.inj (by omega) hk (by omega : L.getD j 0 = L.getD k 0)
  omega
set_option maxHeartbeats 4000000 in
set_option maxRecDepth 100000 in
theorem walk (a0 : ByteArray) (w0 : a0.size ≤ 140737488351232) (w : World) :
    Calls Try.prog 3 #[.string a0] w fun e w' => e = .returned (.bool true) ∧ Below w.heap.size w w' := by
  clear w0
  by_cases hs0 : a0.size ≤ 300
  · have hz : ¬ (300 : Int) < (a0.size : Int) := by omega
    go_enter Try.func3, Try.ntmps3
    go_wp2_with (fail)
    refine (sorted_at _).mono ?_
    rintro e v1 ⟨rfl, hg1⟩
    go_wp2_with (fail)
    refine (Sort_at a0 _ (by omega)).mono ?_
    rintro e v2 ⟨A, rfl, hA, hg2, L, hr2, hL⟩
    go_wp2_with (fail)
    refine (Common_at a0 _ (by omega)).mono ?_
    rintro e v3 ⟨C, rfl, hC, hg3, L', hr3, hL'⟩
    obtain rfl := hL'.same hL
    have hA3 := hr2.step hg3
    have hAlt := hr2.lt
    have hClt := hr3.lt
    have HB : Hid (Bl w v3) := (hg1.trans hg2).trans hg3
    have HA : Hid (RowI v3 A (ints L')) := hA3
    have HC : Hid (RowI v3 C (com (gs a0) a0.size L')) := hr3
    have HL : Hid (IsSort (gs a0) a0.size L') := hL
    have hne0 : ((a0.size : Int) != (a0.size : Int)) = false := by simp
    have hAM : A < v3.heap.size := by have := hg3.size; omega
    clear hA3 hr2 hr3 hL hL' hg1 hg2 hg3 hA hC
    obtain ⟨M, hM⟩ : ∃ M, M = v3.heap.size := ⟨_, rfl⟩
    rw [← hM] at hAM hClt
    have HM : Hid (M = v3.heap.size) := hM
    clear hM
    have hmm := @run_makeMap Try.prog
    go_wp2
    rw [← HM.out]
    go_loopw [8] (fun kv wr => ∃ k : Nat, k ≤ a0.size ∧ kv = .int .i64 (k : Int) ∧ RowI wr A (ints L') ∧ RowI wr C (com (gs a0) a0.size L') ∧ Mp wr M (fk (ints L') k) k ∧ Bl v3 wr) (fun kv _ => a0.size - (intOf kv).toNat)
    case atStart => exact ⟨0, Nat.zero_le _, rfl, HA.out.step ((Bl.refl _).alloc _), HC.out.step ((Bl.refl _).alloc _), by rw [HM.out]; exact Mp.made _, (Bl.refl _).alloc _⟩
    case round =>
      obtain ⟨k, hk, rfl, hr1, hr2, hmp, hbl⟩ := hrel
      by_cases hlt : k < a0.size
      · have hlz : (k : Int) < (a0.size : Int) := by omega
        have c1 := hr1.cell (j := k) (by rw [ints_len, HL.out.len]; exact hlt)
        rw [sx.ints_at] at c1
        have c2 := hr2.cell (j := k) (by rw [com_len]; exact hlt)
        rw [com_at _ _ _ _ hlt] at c2
        have hLk := HL.out.lt_N k hlt
        have hnew := fk_new HL.out hlt
        have hfn := fk_next (ints L') k (by rw [ints_len, HL.out.len]; exact hlt)
        rw [sx.ints_at] at hfn
        obtain ⟨a, ha⟩ : ∃ a, a = L'.getD k 0 := ⟨_, rfl⟩
        rw [← ha] at c1 hLk hnew hfn
        have hlook := hmp.look (a : Int) (by omega)
        rw [hnew] at hlook
        obtain ⟨w4, hup, hmp4, hg4⟩ := hmp.put (a : Int) 1 (by omega) (by omega) (by omega)
        rw [hfn] at hmp4
        have hr14 := rowI_grown hr1 hg4 (by omega)
        have hr24 := rowI_grown hr2 hg4 (by omega)
        have hb4 : Bl v3 w4 := bl_grown hbl hg4 (fun j e => by injection e with e; rw [← e, HM.out]; exact Nat.le_refl _)
        have g1 : ¬ ((a : Int) < 0) := by omega
        have g2 : ¬ ((a0.size : Int) ≤ (a : Int)) := by omega
        obtain ⟨n, hn⟩ : ∃ n, n = cm (gs a0) a0.size L' k := ⟨_, rfl⟩
        rw [← hn] at c2
        have g3 : ¬ ((n : Int) < 0) := by omega
        have HR : Hid (RowI w4 A (ints L') ∧ RowI w4 C (com (gs a0) a0.size L') ∧ Mp w4 M (fk (ints L') (k + 1)) (k + 1) ∧ Bl v3 w4) := ⟨hr14, hr24, hmp4, hb4⟩
        rcases Nat.eq_zero_or_pos k with h0 | h0
        · have i1 : ((k : Int) == 0) = true := by rw [beq_iff_eq]; omega
          clear hnew hfn hmp hg4 hr14 hr24 hb4 hmp4 ha h0 hr1 hr2 hn
          go_wp2
          go_roundw
          case rel => exact ⟨k + 1, hlt, by go_num, HR.out⟩
          case measure => simp [intOf]; omega
        · have i1 : ((k : Int) == 0) = false := by rw [beq_eq_false_iff_ne]; omega
          obtain ⟨j, hj⟩ : ∃ j, k = j + 1 := ⟨k - 1, by omega⟩
          obtain ⟨p, hp⟩ : ∃ p, p = L'.getD j 0 := ⟨_, rfl⟩
          have d1 := hr14.cell (j := j) (by rw [ints_len, HL.out.len]; omega)
          rw [sx.ints_at, ← hp] at d1
          have d2 := hr14.cell (j := k) (by rw [ints_len, HL.out.len]; omega)
          rw [sx.ints_at, ← ha] at d2
          have d3 := hr24.cell (j := k) (by rw [com_len]; exact hlt)
          rw [com_at _ _ _ _ hlt, ← hn] at d3
          have hpN := HL.out.lt_N j (by omega)
          rw [← hp] at hpN
          have hlc := cm_is (k := j) (gs_tx a0) HL.out (by omega)
          rw [← hj, ← hn, ← hp, ← ha] at hlc
          have hll := HL.out.lt (i := j) (j := k) (by omega) hlt
          rw [← hp, ← ha] at hll
          have hne : p ≠ a := fun e => by rw [e] at hll; exact lt.irrefl hll
          obtain ⟨b1, b2⟩ := (gs_tx a0).short hpN hLk hne hlc.1
          have hX := size_end a0 p
          have hY := size_end a0 a
          have hless := (less_end a0 p a).2 hll
          have hsame : ((a0.extract p a0.size).extract 0 n).toList = ((a0.extract a a0.size).extract 0 n).toList := by
            refine toList_inj (by simp only [ByteArray.size_extract]; omega) fun t ht => ?_
            simp only [ByteArray.size_extract] at ht
            rw [sb_head _ n t (by omega) (by omega), sb_head _ n t (by omega) (by omega), sb_end _ _ _ (by omega), sb_end _ _ _ (by omega)]
            have := hlc.1 t (by omega)
            rw [gs_at _ _ (by omega), gs_at _ _ (by omega)] at this
            omega
          have hdiff : n < (a0.extract p a0.size).size → n < (a0.extract a a0.size).size → sb (a0.extract p a0.size) n ≠ sb (a0.extract a a0.size) n := fun e1 e2 e => by
            rw [hX] at e1
            rw [hY] at e2
            rw [sb_end _ _ _ (by omega), sb_end _ _ _ (by omega)] at e
            have := hlc.2
            rw [gs_at _ _ (by omega), gs_at _ _ (by omega)] at this
            omega
          have i2 : (k : Int) - 1 = (j : Int) := by omega
          have i3 : IntKind.i64.wrap (j : Int) = (j : Int) := by rw [IntKind.wrap_i64]; omega
          have i4 : 0 ≤ (j : Int) ∧ (j : Int) < (a0.size : Int) := by omega
          have i5 : 0 ≤ (k : Int) ∧ (k : Int) < (a0.size : Int) := by omega
          have i6 : p ≤ a0.size := by omega
          have i7 : a ≤ a0.size := by omega
          clear hnew hfn hmp hg4 hr14 hr24 hb4 hmp4 hr1 hr2 hn ha hp hj h0 hll hne hlc
          go_wp2
          go_quiet (fail)
          generalize a0.extract p a0.size = X at *
          generalize a0.extract a a0.size = Y at *
          have HRq : Hid (RowI (w4.drewN nq) A (ints L') ∧ RowI (w4.drewN nq) C (com (gs a0) a0.size L') ∧ Mp (w4.drewN nq) M (fk (ints L') (k + 1)) (k + 1) ∧ Bl v3 (w4.drewN nq)) := ⟨HR.out.1, HR.out.2.1, HR.out.2.2.1, HR.out.2.2.2.drewN nq⟩
          have d3q : (w4.drewN nq).cell? ⟨C, k, none⟩ = some (.int .i64 (n : Int)) := d3
          have q1 : decide ((X.size : Int) < (n : Int)) = false := decide_eq_false (by omega)
          have q2 : decide ((Y.size : Int) < (n : Int)) = false := decide_eq_false (by omega)
          have q3 : n ≤ X.size := by omega
          have q4 : n ≤ Y.size := by omega
          have q5 : decide (X.size < n) = false := decide_eq_false (by omega)
          have q6 : decide (Y.size < n) = false := decide_eq_false (by omega)
          clear hX hY
          clear HR d1 d2 d3 c1 c2 hlook hup
          generalize w4.drewN nq = wq at *
          by_cases x1 : n < X.size
          · have r1 : decide ((n : Int) < (X.size : Int)) = true := decide_eq_true (by omega)
            have r1' : decide (n < X.size) = true := decide_eq_true (by omega)
            by_cases x2 : n < Y.size
            · have r2 : decide ((n : Int) < (Y.size : Int)) = true := decide_eq_true (by omega)
              have r2' : decide (n < Y.size) = true := decide_eq_true (by omega)
              have e1 : (((X[n]'x1).toNat : Nat) : Int) = sb X n := (sb_get X n x1).symm
              have e2 : (((Y[n]'x2).toNat : Nat) : Int) = sb Y n := (sb_get Y n x2).symm
              have r3 : (sb X n == sb Y n) = false := by rw [beq_eq_false_iff_ne]; exact hdiff x1 x2
              clear hdiff
              go_wp2
              go_quiet (fail)
              go_wp2
              go_roundw
              case rel => exact ⟨k + 1, hlt, by go_num, HRq.out.1, HRq.out.2.1, HRq.out.2.2.1, HRq.out.2.2.2.drewN _⟩
              case measure => simp [intOf]; omega
            · have r2 : decide ((n : Int) < (Y.size : Int)) = false := decide_eq_false (by omega)
              have r2' : decide (n < Y.size) = false := decide_eq_false (by omega)
              clear hdiff
              go_wp2
              go_quiet (fail)
              go_wp2
              go_roundw
              case rel => exact ⟨k + 1, hlt, by go_num, HRq.out.1, HRq.out.2.1, HRq.out.2.2.1, HRq.out.2.2.2.drewN _⟩
              case measure => simp [intOf]; omega
          · have r1 : decide ((n : Int) < (X.size : Int)) = false := decide_eq_false (by omega)
            have r1' : decide (n < X.size) = false := decide_eq_false (by omega)
            clear hdiff
            go_wp2
            go_quiet (fail)
            go_wp2
            go_roundw
            case rel => exact ⟨k + 1, hlt, by go_num, HRq.out.1, HRq.out.2.1, HRq.out.2.2.1, HRq.out.2.2.2.drewN _⟩
            case measure => simp [intOf]; omega
      · have hnl : ¬ ((k : Int) < (a0.size : Int)) := by omega
        go_wp2
        go_ret
        exact ⟨rfl, HB.out.trans hbl⟩
  · have hz : (300 : Int) < (a0.size : Int) := by omega
    go_enter Try.func3, Try.ntmps3
    go_wp2_with (go_at_call 5; refine (sorted_at _).mono ?_; rintro e v1 ⟨rfl, hg1⟩)
    go_ret
    exact ⟨rfl, hg1⟩

set_option maxRecDepth 100000 in
theorem lifted (os : Os) (started : os.Started) (H : Type) (enc : TypeId × Value → H) :
    ReturnsInHanded {} Try.checked os 3 .any (Rows.suffixOrderSpec.pre6 enc Try.prog Try.f3 Rows.suffixOrderRow.domain false) (Rows.suffixOrderSpec.post enc Try.prog Try.f3 false true false false) := by
  refine returnsInHanded_of_change_sized (C := Try.checked) own started (by kernel_rfl) Try.func3
    (ChangeSpec.witness6 (enc := enc) (C := Try.checked) false ⟨#[], #[.string ByteArray.empty], []⟩ 8 (by kernel_rfl) (by kernel_rfl) (by kernel_rfl) (by kernel_rfl)) ?_
  intro W base args ds gs before hval0 hW hcnd hsz0 _
  have hval : ∀ (j : Nat) t v, Try.f3.params[j]? = some t → args[j]? = some v → Value.okWide Try.prog W .any base t v := hval0
  have hW' := hW
  obtain ⟨p, q, hA0, hV, rfl, hfz, hnd⟩ := hW
  have hA : DataW.TrodAll enc Try.prog W 0 (fun _ => true) true Try.f3.params.toList args.toList ds p := hA0
  have hsz : (DataW.weightsEach Try.prog (Try.f3.params.toList ++ Rows.suffixOrderSpec.plain.varTypes Try.prog) (ds ++ gs)).all (· ≤ reachBytes) = true := hsz0
  rw [Try.params3] at hA hval hsz
  obtain ⟨v0, vs0, d0, ds0, p0, q0, hargs, rfl, rfl, h0, r0⟩ := trodAll_cons hA
  obtain ⟨rfl, rfl, rfl⟩ := trodAll_nil r0
  obtain rfl : args = #[v0] := by cases args; simp_all
  obtain ⟨rfl, rfl⟩ := trodVars_none hV
  obtain ⟨a0, rfl, rfl, rfl, w0⟩ := open_string Try.underlying9 (hval 0 9 v0 rfl rfl) h0
  have z0 : a0.size ≤ 140737488351232 := sized_string hsz (j := 0) (t := 9) rfl rfl
  clear hA0 hval0 hsz0 hsz
  simp only [List.append_nil] at hW'
  refine (walk a0 z0 W).mono fun e W' ⟨he, hg⟩ => ?_
  subst he
  exact ⟨_, rfl, _, _, _, [], [], [], hW', (trodAll_cons_mk (shut_bool Try.underlying4 _) trodAll_mk0), (trodAll_cons_mk (shut_string Try.underlying9 w0) trodAll_mk0), rfl, hg.frame _, fun h => by cases h⟩

theorem over : Rows.suffixOrderRow.holds Try.pinned (OpenSpec.ofChange Rows.suffixOrderSpec) :=
  OpenClaim.holds_of_wide 3 Try.f3 rfl rfl rfl rfl rfl rfl rfl ⟨rfl, rfl, rfl, rfl, rfl⟩ rfl rfl rfl rfl rfl (by kernel_rfl) Try.func3 (by kernel_rfl)
    (of_decide_eq_true (by kernel_rfl)) (by unfold Func.isWrapper; first | (rw [if_pos (by decide +kernel)]; kernel_rfl) | (rw [if_neg (by decide +kernel)]; exact ⟨rfl, rfl⟩))
    (fun os started H enc _ => lifted os started H enc)

end Go.Proofs.Ytnhdaolieifhnaa.suffixOrder
namespace Go.Proofs.Ytnhdaolieifhnaa
/-- The given statement. -/
theorem suffixOrder_holds : Rows.SuffixOrderSaid := suffixOrder.over
#print axioms suffixOrder_holds
end Go.Proofs.Ytnhdaolieifhnaa
