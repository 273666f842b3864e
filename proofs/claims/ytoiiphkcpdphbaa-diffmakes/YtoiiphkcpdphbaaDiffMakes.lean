/- Of any two texts of up to 300 bytes together, what Edits tells makes the second one of the first one, what Back tells of it makes the first one again, and it takes out and puts in as many bytes as Far tells: DiffMakes answers true at every two texts. -/
import Derived.Test.YtoiiphkcpdphbaaRows
import Derived.WalkKit
import Derived.ProofKit
import Derived.OpenShut
import Derived.SizedLaws
import Derived.Test.YtoiiphkcpdphbaaDfK
import Derived.Test.YtoiiphkcpdphbaaDfG
import Derived.ShutString
namespace Go.Proofs.Ytoiiphkcpdphbaa.diffMakes
open Go.ChangeShapes Go.WideShapes Go.ChangeAt Go.RowKit
open Go.ChangeMaps (open_string shut_string)
set_option linter.unusedVariables false      -- a walk need not use every 'w<i>' (that an integer argument fits its kind)

theorem own : ownKnob Try.prog.godebug = none := by kernel_rfl

open mem df
theorem cost_step (l : List Ed) (k : Nat) (h : k < l.length) : cost (l.take (k + 1)) = cost (l.take k) + l[k].t.length + (if l[k].w = 2 then l[k].n else 0) := by
  induction l generalizing k with
  | nil => exact absurd h (Nat.not_lt_zero _)
  | cons x l ih =>
    cases k with
    | zero => simp [cost]
    | succ k => have := ih k (by simpa using h); simp [cost, this]; omega
theorem bck_len (l : List Ed) : ∀ a, (bckE a l).length = l.length := by
  induction l with
  | nil => intro a; rfl
  | cons e r ih =>
    intro a
    rw [bckE_cons]
    split
    · simp [ih]
    · split <;> simp [ih]
set_option maxHeartbeats 2000000 in
set_option maxRecDepth 10000 in
theorem walk (a0 : ByteArray) (a1 : ByteArray) (w0 : a0.size ≤ 140737488351232) (w1 : a1.size ≤ 140737488351232) (w : World) :
    Calls Try.prog 3 #[.string a0, .string a1] w fun e w' => e = .returned (.bool true) ∧ Below w.heap.size w w' := by
  obtain ⟨Q, hQ⟩ : ∃ Q : Nat, Q = 140737488351232 := ⟨_, rfl⟩
  have hs : ∀ s ∈ [a0, a1], s.size ≤ Q := by
    intro s hs
    simp only [List.mem_cons, List.not_mem_nil, or_false] at hs
    rcases hs with rfl | rfl <;> omega
  have cN := fun (Z : Nat) (w : World) h => near_at Q (by omega) [a0, a1] Z w 9 (by simp) hs h
  clear hs hQ
  by_cases ht : tot [a0, a1] ≤ 300
  · rw [decide_eq_true ht] at cN
    have hsz : a0.size + a1.size ≤ 300 := by simp only [tot] at ht; omega
    clear ht
    have r1 := rn_edits (L a0) (L a1)
    have r2 := rn_bck _ _ _ r1
    have f1 := rn_fit _ _ _ 0 r1 (by omega) (by rw [L_len]; omega)
    have f2 := rn_fit _ _ _ 0 r2 (by omega) (by rw [L_len]; omega)
    have o1 := rn_out _ _ _ r1
    have o2 := rn_out _ _ _ r2
    have s1 := edits_small a0 a1 (by omega)
    have hc := cost_edits (L a0) (L a1)
    have hll : (edits (L a0) (L a1)).length ≤ 300 := Nat.le_trans (edits_len _ _) (by rw [L_len, L_len]; exact hsz)
    obtain ⟨l, hl⟩ : ∃ l, edits (L a0) (L a1) = l := ⟨_, rfl⟩
    have cE := fun w => Edits_at a0 a1 w (by omega)
    rw [hl] at r1 r2 f1 f2 o1 o2 s1 hc hll cE
    clear hl
    have sh1 : Short l := ⟨s1.1, fun e he => (s1.2 e he).2.2⟩
    have sh2 : Short (bckE (L a0) l) := ⟨by rw [bck_len]; exact s1.1, fun e he => by have := rn_bd _ _ _ r2 e he; rw [L_len, L_len] at this; omega⟩
    have q1 : apAns (L a0) l = .tuple #[.string a1, .nilIface] := by unfold apAns; rw [if_pos f1, o1, tx_L]
    have q2 : apAns (L a1) (bckE (L a0) l) = .tuple #[.string a0, .nilIface] := by unfold apAns; rw [if_pos f2, o2, tx_L]
    have cF := fun w => Far_at a0 a1 w (by omega)
    rw [← hc] at cF
    have HL : Hid (Small l) := s1
    have HSH : Hid (Short l ∧ Short (bckE (L a0) l) ∧ fitE (L a0).length 0 l = 0) := ⟨sh1, sh2, f1⟩
    clear r1 r2 f1 f2 o1 o2 s1 hc sh1 sh2
    go_enter Try.func3, Try.ntmps3
    go_wp2_with fail
    refine (differed_at _).mono ?_
    rintro e v1 ⟨rfl, hb1⟩
    go_wp2_with fail
    refine (cN v1.heap.size _ (heap_alloc_new v1 _)).mono ?_
    rintro e v2 ⟨rfl, rfl⟩
    go_wp2_with fail
    refine (cE _).mono ?_
    rintro e v3 ⟨x, rfl, ho, hb3⟩
    go_wp2_with fail
    refine (Apply_at a0 l x v3 ho.view (by omega) HSH.out.1).mono ?_
    rintro e v4 ⟨rfl, hb4⟩
    rw [q1]
    go_wp2_with fail
    refine (Back_at a0 l x v4 (ho.step hb4).view (by omega) HSH.out.1).mono ?_
    rintro e v5 ⟨r, rfl, hb5, hbk⟩
    rcases hbk with ⟨_, y, rfl, ho5⟩ | ⟨h, _⟩
    · go_wp2_with fail
      refine (Apply_at a1 (bckE (L a0) l) y v5 ho5.view (by omega) HSH.out.2.1).mono ?_
      rintro e v6 ⟨rfl, hb6⟩
      rw [q2]
      go_wp2_with fail
      refine (cF _).mono ?_
      rintro e v7 ⟨rfl, hb7⟩
      obtain ⟨p, cp, rfl, hcp, hin⟩ := (((ho.step hb4).step hb5).step (hb6.trans hb7)).view
      have HI : Hid (ed.In v7 p l) := hin
      have HB : Hid (Bl w v7) := (((((hb1.trans ((Bl.refl _).alloc _)).trans hb3).trans hb4).trans hb5).trans hb6).trans hb7
      clear hin hb1 hb3 hb4 hb5 hb6 hb7 ho ho5 q1 q2 cN cE cF
      have hcb : 0 ≤ cost l ∧ cost l ≤ 3000000 ∧ ∀ k, k ≤ l.length → 0 ≤ cost (l.take k) ∧ cost (l.take k) ≤ 10000 * k := by
        have key : ∀ k, k ≤ l.length → 0 ≤ cost (l.take k) ∧ cost (l.take k) ≤ 10000 * k := by
          intro k
          induction k with
          | zero => intro _; simp [cost]
          | succ k ih =>
            intro hk
            have h1 := ih (by omega)
            have h2 := cost_step l k (by omega)
            have h3 := HL.out.get k (by omega)
            split at h2 <;> omega
        have h4 := key l.length (Nat.le_refl _)
        rw [List.take_of_length_le (Nat.le_refl _)] at h4
        exact ⟨h4.1, by omega, key⟩
      have HC : Hid (∀ k, k ≤ l.length → 0 ≤ cost (l.take k) ∧ cost (l.take k) ≤ 10000 * k) := hcb.2.2
      clear hcb
      go_wp2
      go_loopw [15, 16] (fun mv iv wr => ∃ (k : Nat) (c : Int), k ≤ l.length ∧ iv = .int .i64 (k : Int) ∧ mv = .int .i64 c ∧ Hid (c = cost (l.take k)) ∧ wr = v7) (fun _ iv _ => l.length - (intOf iv).toNat)
      case atStart => exact ⟨0, 0, Nat.zero_le _, rfl, rfl, by simp [Hid, cost], rfl⟩
      case round =>
        obtain ⟨k, c, hk, rfl, rfl, Hc, rfl⟩ := hrel
        by_cases hlt : k < l.length
        · have hlz : (k : Int) < (l.length : Int) := by omega
          obtain ⟨X, rfl, c0, c1, c2⟩ := HI.out.at' k hlt
          obtain ⟨n0, n1, n2⟩ := HL.out.get k hlt
          have hcb := HC.out k hk
          rw [← Hc.out] at hcb
          have hst := cost_step l k hlt
          rw [← Hc.out] at hst
          obtain ⟨E, hE⟩ : ∃ E, E = l[k] := ⟨_, rfl⟩
          rw [← hE] at c0 c1 c2 n0 n1 n2 hst
          clear hE
          have hts : (tx E.t).size = E.t.length := tx_size _
          have hcz : c ≤ 3000000 := by omega
          by_cases hw : E.w = 2
          · rw [if_pos hw] at hst
            rw [hw] at c0
            have HN : Hid (c + (E.t.length : Int) + E.n = cost (l.take (k + 1))) := hst.symm
            clear hst hw
            go_wp2
            go_roundw
            case rel => exact ⟨k + 1, _, hlt, by go_num, rfl, HN, trivial⟩
            case measure => simp [intOf]; omega
          · rw [if_neg hw, Int.add_zero] at hst
            have hwb : (E.w == 2) = false := by rw [beq_eq_false_iff_ne]; exact hw
            have HN : Hid (c + (E.t.length : Int) = cost (l.take (k + 1))) := hst.symm
            clear hst
            go_wp2
            go_roundw
            case rel => exact ⟨k + 1, _, hlt, by go_num, rfl, HN, trivial⟩
            case measure => simp [intOf]; omega
        · obtain rfl : k = l.length := by omega
          have hce : c = cost l := by
            have := Hc.out
            rw [List.take_of_length_le (Nat.le_refl _)] at this
            exact this
          subst hce
          go_wp2
          go_ret
          exact ⟨rfl, HB.out⟩
    · exact absurd HSH.out.2.2 h
  · rw [decide_eq_false ht] at cN
    go_enter Try.func3, Try.ntmps3
    go_wp2_with fail
    refine (differed_at _).mono ?_
    rintro e v1 ⟨rfl, hb1⟩
    go_wp2_with fail
    refine (cN v1.heap.size _ (heap_alloc_new v1 _)).mono ?_
    rintro e v2 ⟨rfl, rfl⟩
    go_wp2
    go_ret
    exact ⟨rfl, hb1.trans ((Bl.refl _).alloc _)⟩

set_option maxRecDepth 100000 in
theorem lifted (os : Os) (started : os.Started) (H : Type) (enc : TypeId × Value → H) :
    ReturnsInHanded {} Try.checked os 3 .any (Rows.diffMakesSpec.pre6 enc Try.prog Try.f3 Rows.diffMakesRow.domain false) (Rows.diffMakesSpec.post enc Try.prog Try.f3 false true false false) := by
  refine returnsInHanded_of_change_sized (C := Try.checked) own started (by kernel_rfl) Try.func3
    (ChangeSpec.witness6 (enc := enc) (C := Try.checked) false ⟨#[], #[.string ByteArray.empty, .string ByteArray.empty], []⟩ 8 (by kernel_rfl) (by kernel_rfl) (by kernel_rfl) (by kernel_rfl)) ?_
  intro W base args ds gs before hval0 hW hcnd hsz0 _
  have hval : ∀ (j : Nat) t v, Try.f3.params[j]? = some t → args[j]? = some v → Value.okWide Try.prog W .any base t v := hval0
  have hW' := hW
  obtain ⟨p, q, hA0, hV, rfl, hfz, hnd⟩ := hW
  have hA : DataW.TrodAll enc Try.prog W 0 (fun _ => true) true Try.f3.params.toList args.toList ds p := hA0
  have hsz : (DataW.weightsEach Try.prog (Try.f3.params.toList ++ Rows.diffMakesSpec.plain.varTypes Try.prog) (ds ++ gs)).all (· ≤ reachBytes) = true := hsz0
  rw [Try.params3] at hA hval hsz
  obtain ⟨v0, vs0, d0, ds0, p0, q0, hargs, rfl, rfl, h0, r0⟩ := trodAll_cons hA
  obtain ⟨v1, vs1, d1, ds1, p1, q1, rfl, rfl, rfl, h1, r1⟩ := trodAll_cons r0
  obtain ⟨rfl, rfl, rfl⟩ := trodAll_nil r1
  obtain rfl : args = #[v0, v1] := by cases args; simp_all
  obtain ⟨rfl, rfl⟩ := trodVars_none hV
  obtain ⟨a0, rfl, rfl, rfl, w0⟩ := open_string Try.underlying9 (hval 0 9 v0 rfl rfl) h0
  have z0 : a0.size ≤ 140737488351232 := sized_string hsz (j := 0) (t := 9) rfl rfl
  obtain ⟨a1, rfl, rfl, rfl, w1⟩ := open_string Try.underlying9 (hval 1 9 v1 rfl rfl) h1
  have z1 : a1.size ≤ 140737488351232 := sized_string hsz (j := 1) (t := 9) rfl rfl
  clear hA0 hval0 hsz0 hsz
  simp only [List.append_nil] at hW'
  refine (walk a0 a1 z0 z1 W).mono fun e W' ⟨he, hg⟩ => ?_
  subst he
  exact ⟨_, rfl, _, _, _, [], [], [], hW', (trodAll_cons_mk (shut_bool Try.underlying4 _) trodAll_mk0), (trodAll_cons_mk (shut_string Try.underlying9 w0) (trodAll_cons_mk (shut_string Try.underlying9 w1) trodAll_mk0)), rfl, hg.frame _, fun h => by cases h⟩

theorem over : Rows.diffMakesRow.holds Try.pinned (OpenSpec.ofChange Rows.diffMakesSpec) :=
  OpenClaim.holds_of_wide 3 Try.f3 rfl rfl rfl rfl rfl rfl rfl ⟨rfl, rfl, rfl, rfl, rfl⟩ rfl rfl rfl rfl rfl (by kernel_rfl) Try.func3 (by kernel_rfl)
    (of_decide_eq_true (by kernel_rfl)) (by unfold Func.isWrapper; first | (rw [if_pos (by decide +kernel)]; kernel_rfl) | (rw [if_neg (by decide +kernel)]; exact ⟨rfl, rfl⟩))
    (fun os started H enc _ => lifted os started H enc)

end Go.Proofs.Ytoiiphkcpdphbaa.diffMakes
namespace Go.Proofs.Ytoiiphkcpdphbaa
/-- The given statement. -/
theorem diffMakes_holds : Rows.DiffMakesSaid := diffMakes.over
#print axioms diffMakes_holds
end Go.Proofs.Ytoiiphkcpdphbaa
