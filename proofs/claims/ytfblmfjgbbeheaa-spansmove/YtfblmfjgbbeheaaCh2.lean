/- The document's own side: what Chosen answers. -/
import Derived.Test.YtfblmfjgbbeheaaCh1
import Derived.Test.YtfblmfjgbbeheaaEn3
namespace Go.Proofs.Ytfblmfjgbbeheaa.sp
set_option linter.unusedVariables false
open Go.ChangeShapes Go.WideShapes Go.ChangeAt Go.RowKit
open mem rows span

theorem nu_first {e : List Int} (he : e.Pairwise fun x y => x < y) (h0 : (0 : Int) ∈ e) (hn : ∀ z ∈ e, 0 ≤ z) : nu e 0 = 0 ∧ 0 < e.length ∧ ∀ i, i < e.length → 0 ≤ nu e i := by
  have hnn : ∀ i, i < e.length → 0 ≤ nu e i := fun i hi => by
    unfold nu
    rw [List.getD_eq_getElem?_getD, List.getElem?_eq_getElem hi]
    exact hn _ (List.getElem_mem hi)
  obtain ⟨j, hj, hj0⟩ := List.getElem_of_mem h0
  have ej : nu e j = 0 := by
    unfold nu
    rw [List.getD_eq_getElem?_getD, List.getElem?_eq_getElem hj]
    exact hj0
  refine ⟨?_, by omega, hnn⟩
  rcases Nat.eq_zero_or_pos j with h | h
  · rw [← h]; exact ej
  · have h1 := nu_lt he h hj
    have h2 := hnn 0 (by omega)
    omega
theorem E1_nonneg {LL : List (List (Int × Int))} {m : Nat} {z : Int} (h : E1 LL m z) : 0 ≤ z := by
  rcases h with h | ⟨j, _, x, _, h | h⟩ <;> omega
theorem own_last2 {w : World} {base g cap N L1 : Nat} {pre : List (Int × Int)} {c0 d0 : Int} (h : OwnS w base (.slice (some ⟨g, 0, none⟩) L1 cap) (pre ++ [(c0, d0)])) (hN : N = pre.length) (hL : L1 = N + 1) (M : Int) :
    OwnS (w.setCell ⟨g, N * 2 + 1, none⟩ (.int .i64 M)) base (.slice (some ⟨g, 0, none⟩) L1 cap) (pre ++ [(c0, M)]) := by
  have hl : L1 = (pre ++ [(c0, d0)]).length := by rw [hL, hN]; simp
  rw [hl] at h ⊢
  refine own_set h (by simp) (by simp; omega) ?_
  rw [rowS_set _ N M (by simp; omega)]
  congr 1
  unfold nth
  rw [hN, List.getD_eq_getElem?_getD]
  simp
/-- What is chosen. -/
def ChAns (w w' : World) (v : Value) (f : Int → Bool) (LL : List (List (Int × Int))) (m : Nat) : Prop :=
  ∃ R E, OwnS w' w.heap.size v R ∧ Cg E f (E.length - 1) R ∧ 0 < E.length ∧ E.Pairwise (fun x y => x < y) ∧ nu E 0 = 0 ∧ (∀ z, z ∈ E ↔ E1 LL m z) ∧ E.length ≤ 5000 ∧ Bl w w'
set_option maxRecDepth 20000 in
set_option maxHeartbeats 4000000 in
theorem Chosen_at (F : Nat) (cb : Array Value) (f : Int → Bool) (X m : Nat) (LL : List (List (Int × Int))) (w : World) (hm : m = LL.length) (hm2 : m ≤ 2) (hls : LS w X LL) (hfit : FitL LL)
    (eg : ∀ args w, (callFunc F args).run Try.prog w = .ok (.enter F args) w) (hcall : ∀ (p : Int) (w' : World), Bl w w' → Calls Try.prog F (#[.int .i64 p] ++ cb) w' fun e w'' => e = .returned (.bool (f p)) ∧ Bl w' w'') :
    Calls Try.prog 9 #[.func (.func F) #[] cb, .slice (some ⟨X, 0, none⟩) m m] w fun e w' => ∃ v, e = .returned v ∧ ChAns w w' v f LL m := by
  have cE := ends_at X m LL w hm hm2 hls hfit
  have HC : Hid (∀ (p : Int) (w' : World), Bl w w' → Calls Try.prog F (#[.int .i64 p] ++ cb) w' fun e w'' => e = .returned (.bool (f p)) ∧ Bl w' w'') := hcall
  clear hm hls hfit hcall
  go_enter Try.func9, Try.ntmps9
  go_wp2_with (go_at_call 32; refine cE.mono ?_; rintro e w1 ⟨ev, E, rfl, hoE, hEs, hEm, hEl, hb1⟩; have HES : Hid (E.Pairwise fun x y => x < y) := hEs; have HEM : Hid (∀ z, z ∈ E ↔ E1 LL m z) := hEm; clear hEs hEm cE)
  obtain ⟨h00, hpos, hnn⟩ := nu_first HES.out ((HEM.out 0).2 (Or.inl rfl)) (fun z hz => E1_nonneg ((HEM.out z).1 hz))
  have H00 : Hid (nu E 0 = 0) := h00
  have HNN : Hid (∀ i, i < E.length → 0 ≤ nu E i) := hnn
  clear h00 hnn
  rcases hoE.shape with ⟨_, h0⟩ | ⟨g, cap, rfl, hg0, hg1, hg2, hg3, hcells⟩
  · rw [h0] at hpos; simp at hpos
  obtain ⟨n, hn⟩ : ∃ n, n = E.length := ⟨_, rfl⟩
  rw [← hn] at hpos hEl hg2 hcells ⊢
  have HN : Hid (n = E.length) := hn
  have HCE : Hid (∀ w', Bl w1 w' → ∀ k, k < n → w'.cell? ⟨g, k, none⟩ = some (.int .i64 (nu E k))) := fun w' h k hk => at_bl h (hcells k hk)
  obtain ⟨b1, hb1e⟩ : ∃ b, b = w1.heap.size := ⟨_, rfl⟩
  have HB1 : Hid (b1 = w1.heap.size) := hb1e
  have hgb : g < b1 := by rw [hb1e]; exact hg1
  clear hn hb1e hcells hoE hg1
  go_loopw [6, 7] (fun sv iv wr => ∃ (k : Nat) (R : List (Int × Int)), k < n ∧ iv = .int .i64 (k : Int) ∧ Hid (Cg E f k R) ∧ OwnS wr b1 sv R ∧ Bl w1 wr) (fun _ iv _ => n - (intOf iv).toNat)
  case atStart => exact ⟨0, [], hpos, rfl, Cg.start E f, OwnS.nil _ _, Bl.refl _⟩
  case round =>
    obtain ⟨k, R, hk, rfl, HG, hown, hbl⟩ := hrel
    have hRn : R.length ≤ 5000 := by have := HG.out.n; omega
    by_cases hlt : k + 1 < n
    · have hlz : (k : Int) + 1 < (n : Int) := by omega
      have hkz : (k : Int) < (n : Int) := by omega
      have hce := HCE.out wr hbl k hk
      have cF := HC.out (nu E k) wr (hb1.trans hbl)
      obtain ⟨a, ha⟩ : ∃ a, a = nu E k := ⟨_, rfl⟩
      obtain ⟨b, hb⟩ : ∃ b, b = nu E (k + 1) := ⟨_, rfl⟩
      have HA : Hid (a = nu E k) := ha
      have HBb : Hid (b = nu E (k + 1)) := hb
      rw [← ha] at hce cF
      cases hfv : f a with
      | false =>
        have HG' : Hid (Cg E f (k + 1) R) := HG.out.no HES.out (by rw [← HN.out]; exact hlt) (by rw [← HA.out]; exact hfv)
        rw [hfv] at cF
        clear ha hb hfv HG
        go_wp2_with (go_at_fn F; refine cF.mono ?_; rintro e w2 ⟨rfl, hb2⟩)
        go_roundw
        case rel => exact ⟨k + 1, R, hlt, by go_num, HG', hown.step hb2, hbl.trans hb2⟩
        case measure => simp [intOf]; omega
      | true =>
        rw [hfv] at cF
        have HFV : Hid (f (nu E k) = true) := by rw [Hid, ← HA.out]; exact hfv
        clear ha hb hfv
        by_cases hR : R = []
        · subst hR
          have HG' : Hid (Cg E f (k + 1) ([] ++ [(a, b)])) := by
            have h := HG.out.newS HES.out HNN.out (by rw [← HN.out]; exact hlt) HFV.out (fun pre c d e => by simp at e)
            rw [← HA.out, ← HBb.out] at h
            exact h
          obtain ⟨p, cc, rfl⟩ := hown.slice
          simp only [List.length_nil] at hown ⊢
          go_wp2_with (go_at_fn F; refine cF.mono ?_; rintro e w2 ⟨rfl, hb2⟩; have hown2 := hown.step hb2; have hbl2 := hbl.trans hb2)
          go_quiet (fail)
          go_wp2
          have how3 := hown2.step ((Bl.refl _).drewN nq)
          have hbl3 : Bl w1 _ := hbl2.drewN nq
          generalize w2.drewN nq = w3 at how3 hbl3 ⊢
          have hce3 := HCE.out w3 hbl3 k hk
          have hcf3 := HCE.out w3 hbl3 (k + 1) hlt
          rw [← HA.out] at hce3
          rw [← HBb.out] at hcf3
          have hbs : b1 ≤ w3.heap.size := by rw [HB1.out]; exact hbl3.size
          obtain ⟨v', w', hr, ho', hg'⟩ := appS_one (w3.drew.alloc (.cells #[.int .i64 a, .int .i64 b] 28)) b1 _ [] (a, b) w3.heap.size (how3.step (((Bl.refl w3).drew).alloc _)) (by go_simp) (by go_simp) (by simp) (Nat.le_trans hbs (by simp))
          have HR : Hid _ := hr
          have hb3 : Bl w1 w' := bl_grown ((hbl3.drew).alloc _) hg' (fun k e => by rw [← HB1.out]; exact (how3.block k e).1)
          have hcew := HCE.out w' hb3 k hk
          have hcfw := HCE.out w' hb3 (k + 1) hlt
          rw [← HA.out] at hcew
          rw [← HBb.out] at hcfw
          have hwk : IntKind.i64.wrap ((k : Int) + 1) = (k : Int) + 1 := by rw [IntKind.wrap_i64]; omega
          have hwk1 : (0 : Int) ≤ (k : Int) + 1 := by omega
          have hwk2 : ((k : Int) + 1).toNat = k + 1 := by omega
          clear hr hg' hce
          go_region_held3 (fun w' => w'.cell? ⟨g, k, none⟩ = some (.int .i64 a) ∧ w'.cell? ⟨g, k + 1, none⟩ = some (.int .i64 b)) (refine ⟨?_, ?_⟩ <;> first | assumption | exact at_bl (Bl.drew (Bl.refl _)) (by assumption) | exact at_bl ((Bl.refl _).alloc _) (by assumption) | exact at_bl (Bl.drew ((Bl.refl _).alloc _)) (by assumption) | exact at_bl ((Bl.drew (Bl.refl _)).alloc _) (by assumption)) (refine step_append_run rfl (.tmp 52) (.tmp 63) 22 22 rfl _ _ rfl rfl _ _ HR.out ?_)
          all_goals go_wp2
          all_goals go_roundw
          all_goals first | exact ⟨k + 1, _, hlt, by go_num, HG', ho', hb3⟩ | (simp [intOf]; omega)
        · obtain ⟨pre, c0, d0, rfl⟩ := snoc_of hR
          clear hR
          obtain ⟨M, hM⟩ : ∃ N, N = pre.length := ⟨_, rfl⟩
          have hM1 : (pre ++ [(c0, d0)]).length = M + 1 := by rw [hM]; simp
          have hpn := HG.out.n
          rw [hM1] at hpn
          rcases hown.shape with ⟨_, h0⟩ | ⟨g2, cap2, rfl, hh0, hh1, hh2, hh3, hcells⟩
          · simp at h0
          have hlast : nth (pre ++ [(c0, d0)]) M = (c0, d0) := by unfold nth; rw [hM, List.getD_eq_getElem?_getD]; simp
          have hce2 : wr.cell? ⟨g2, M * 2 + 1, none⟩ = some (.int .i64 d0) := by
            have h := (hcells M (by omega)).2
            rw [show (pre ++ [(c0, d0)]).getD M (0, 0) = (c0, d0) from hlast, Nat.mul_comm] at h
            exact h
          clear hcells hlast
          rw [hM1] at hown hh2 hRn ⊢
          have HM : Hid (M = pre.length) := hM
          have HM1 : Hid ((pre ++ [(c0, d0)]).length = M + 1) := hM1
          clear hM hM1
          obtain ⟨L1, hL1⟩ : ∃ L1, L1 = M + 1 := ⟨_, rfl⟩
          rw [← hL1] at hown hh2 hRn hpn ⊢
          have HL1 : Hid (L1 = M + 1) := hL1
          have he : (L1 : Int) - 1 = (M : Int) := by omega
          have he1 : (M : Int) < (L1 : Int) := by omega
          have he2 : M < L1 := by omega
          have he4 : (0 : Int) < (L1 : Int) := by omega
          have he5 : 0 < L1 := by omega
          have he6 : decide (0 < L1) = true := decide_eq_true he5
          have hwl : IntKind.i64.wrap ((L1 : Int) - 1) = (M : Int) := by rw [IntKind.wrap_i64]; omega
          clear hL1 hpn
          by_cases hda : d0 = a
          · have HG' : Hid (Cg E f (k + 1) (pre ++ [(c0, b)])) := by
              have h := HG.out.on HES.out (by rw [← HN.out]; exact hlt) HFV.out (by rw [← HA.out]; exact hda)
              rw [← HBb.out] at h
              exact h
            subst hda
            go_wp2_with (go_at_fn F; refine cF.mono ?_; rintro e w2 ⟨rfl, hb2⟩; have hown2 := hown.step hb2; have hbl2 := hbl.trans hb2; have hce22 := at_bl hb2 hce2; have hcek := at_bl hb2 hce)
            go_quiet (fail)
            have how3 := hown2.step ((Bl.refl _).drewN nq)
            have hbl3 : Bl w1 _ := hbl2.drewN nq
            generalize w2.drewN nq = w3 at how3 hbl3 ⊢
            have hcf3 := HCE.out w3 hbl3 (k + 1) hlt
            rw [← HBb.out] at hcf3
            have hzf := own_free how3 (M * 2 + 1)
            have hz2 : ∃ u, w3.cell? ⟨g2, M * 2 + 1, none⟩ = some u := by
              rcases how3.shape with ⟨e, _⟩ | ⟨g', cap', e, _, _, _, _, hcc⟩
              · cases e
              · injection e with e1 e2 e3
                injection e1 with e1
                injection e1 with e1
                subst e1
                have h := (hcc M (by rw [HM1.out]; omega)).2
                rw [Nat.mul_comm] at h
                exact ⟨_, h⟩
            obtain ⟨uo, hz2⟩ := hz2
            clear hce hce2 hce22 hcek
            go_wp2
            go_roundw
            case rel => exact ⟨k + 1, _, hlt, by go_num, HG', own_last2 how3 HM.out HL1.out b, hbl3.setCell (by rw [← HB1.out]; exact hh0) _⟩
            case measure => simp [intOf]; omega
          · have HG' : Hid (Cg E f (k + 1) (pre ++ [(c0, d0)] ++ [(a, b)])) := by
              have h := HG.out.newS HES.out HNN.out (by rw [← HN.out]; exact hlt) HFV.out (fun pre' c' d' e' hd' => by
                have e2 := (List.append_inj' e' rfl).2
                simp at e2
                exact hda (by rw [e2.2, hd', ← HA.out]))
              rw [← HA.out, ← HBb.out] at h
              exact h
            have hdb : (d0 == a) = false := by rw [beq_eq_false_iff_ne]; exact hda
            go_wp2_with (go_at_fn F; refine cF.mono ?_; rintro e w2 ⟨rfl, hb2⟩; have hown2 := hown.step hb2; have hbl2 := hbl.trans hb2; have hce22 := at_bl hb2 hce2; have hcek := at_bl hb2 hce)
            go_quiet (fail)
            go_wp2
            have how3 := hown2.step ((Bl.refl _).drewN nq)
            have hbl3 : Bl w1 _ := hbl2.drewN nq
            generalize w2.drewN nq = w3 at how3 hbl3 ⊢
            have hce3 := HCE.out w3 hbl3 k hk
            have hcf3 := HCE.out w3 hbl3 (k + 1) hlt
            rw [← HA.out] at hce3
            rw [← HBb.out] at hcf3
            have hbs : b1 ≤ w3.heap.size := by rw [HB1.out]; exact hbl3.size
            obtain ⟨v', w', hr, ho', hg'⟩ := appS_one (w3.drew.alloc (.cells #[.int .i64 a, .int .i64 b] 28)) b1 _ (pre ++ [(c0, d0)]) (a, b) w3.heap.size (how3.step (((Bl.refl w3).drew).alloc _)) (by go_simp) (by go_simp) (by rw [HM1.out, ← HL1.out]; exact hRn) (Nat.le_trans hbs (by simp))
            have HR : Hid _ := hr
            have hb3 : Bl w1 w' := bl_grown ((hbl3.drew).alloc _) hg' (fun k e => by rw [← HB1.out]; exact (how3.block k e).1)
            have hcew := HCE.out w' hb3 k hk
            have hcfw := HCE.out w' hb3 (k + 1) hlt
            rw [← HA.out] at hcew
            rw [← HBb.out] at hcfw
            have hwk : IntKind.i64.wrap ((k : Int) + 1) = (k : Int) + 1 := by rw [IntKind.wrap_i64]; omega
            have hwk1 : (0 : Int) ≤ (k : Int) + 1 := by omega
            have hwk2 : ((k : Int) + 1).toNat = k + 1 := by omega
            clear hr hg' hce hce2 hce22 hcek
            go_region_held3 (fun w' => w'.cell? ⟨g, k, none⟩ = some (.int .i64 a) ∧ w'.cell? ⟨g, k + 1, none⟩ = some (.int .i64 b)) (refine ⟨?_, ?_⟩ <;> first | assumption | exact at_bl (Bl.drew (Bl.refl _)) (by assumption) | exact at_bl ((Bl.refl _).alloc _) (by assumption) | exact at_bl (Bl.drew ((Bl.refl _).alloc _)) (by assumption) | exact at_bl ((Bl.drew (Bl.refl _)).alloc _) (by assumption)) (refine step_append_run rfl (.tmp 52) (.tmp 63) 22 22 rfl _ _ rfl rfl _ _ HR.out ?_)
            all_goals go_wp2
            all_goals go_roundw
            all_goals first | exact ⟨k + 1, _, hlt, by go_num, HG', ho', hb3⟩ | (simp [intOf]; omega)
    · have hlz : ¬ ((k : Int) + 1 < (n : Int)) := by omega
      have HG' : Hid (Cg E f (E.length - 1) R) := by
        have e : E.length - 1 = k := by rw [← HN.out]; omega
        rw [Hid, e]
        exact HG.out
      clear HG
      go_wp2
      go_ret
      exact ⟨_, rfl, R, E, hown.down (by rw [HB1.out]; exact hb1.size), HG'.out, by rw [← HN.out]; exact hpos, HES.out, H00.out, HEM.out, by rw [← HN.out]; exact hEl, hb1.trans hbl⟩
end Go.Proofs.Ytfblmfjgbbeheaa.sp
