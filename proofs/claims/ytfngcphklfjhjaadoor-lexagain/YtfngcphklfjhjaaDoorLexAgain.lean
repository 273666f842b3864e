/- LexAgain: for every text s and every number, the law answers true: the tokens of s stand where they are told, and written one behind the other with blanks, line feeds or remarks between they are the same. Conditions: the marks lie as the program lays them. -/
import Derived.Test.YtfngcphklfjhjaaDoorRows
import Derived.WalkKit
import Derived.ProofKit
import Derived.OpenShut
import Derived.SizedLaws
import Derived.Test.YtfngcphklfjhjaaDoorLaidM
import Derived.Test.YtfngcphklfjhjaaDoorTie
import Derived.Test.YtfngcphklfjhjaaDoorCards
import Derived.SevenTiedAt
import Derived.Test.YtfngcphklfjhjaaDoorLk1
import Derived.ShutString
namespace Go.Proofs.YtfngcphklfjhjaaDoor.lexAgain
open Go.ChangeShapes Go.WideShapes Go.ChangeAt Go.RowKit
open Go.ChangeMaps (open_string shut_string)
set_option linter.unusedVariables false      -- a walk need not use every 'w<i>' (that an integer argument fits its kind)

theorem own : ownKnob Tryd.prog.godebug = none := by kernel_rfl

open mem lx
theorem ch_at {s : List UInt8} {p : Nat} {t : Tk} {r : List Tk} (h : Ch s p (t :: r)) : p ≤ t.a ∧ t.a + t.t.length ≤ s.length ∧ (s.drop t.a).take t.t.length = t.t ∧ IsT t.t ∧ Ch s (t.a + t.t.length) r := h
theorem isT_ne {x : List UInt8} (h : IsT x) : x ≠ [] := by
  rcases h with ⟨h, _⟩ | ⟨c, rfl, _⟩ | rfl | rfl
  · exact h
  · simp
  · simp
  · simp
theorem ch_all {s : List UInt8} {l : List Tk} : ∀ {p : Nat}, Ch s p l → ∀ x ∈ l.map Tk.t, IsT x := by
  induction l with
  | nil => intro p h x hx; simp at hx
  | cons t r ih =>
    intro p h x hx
    obtain ⟨_, _, _, h4, h5⟩ := ch_at h
    rw [List.map_cons, List.mem_cons] at hx
    rcases hx with rfl | hx
    · exact h4
    · exact ih h5 x hx
theorem jb_len (b : List UInt8) (l : List (List UInt8)) (hb : b.length ≤ 6) : (jb b l).length ≤ 6 * l.length + (l.map List.length).sum := by
  induction l with
  | nil => simp [jb]
  | cons x l ih => simp only [jb, List.length_append, List.map_cons, List.sum_cons, List.length_cons]; omega
theorem ch_sum {s : List UInt8} {l : List Tk} : ∀ {p : Nat}, Ch s p l → p ≤ s.length → p + ((l.map Tk.t).map List.length).sum ≤ s.length := by
  induction l with
  | nil => intro p h hp; simpa using hp
  | cons t r ih =>
    intro p h hp
    obtain ⟨h1, h2, _, _, h5⟩ := ch_at h
    have := ih h5 h2
    simp only [List.map_cons, List.sum_cons] at this ⊢
    omega
theorem seps_len (b : List UInt8) (hb : b ∈ seps) : b.length ≤ 6 := by
  have key : ∀ b ∈ seps, b.length ≤ 6 := by decide
  exact key b hb
set_option maxHeartbeats 2000000 in
set_option maxRecDepth 10000 in
theorem walk (a0 : ByteArray) (a1 : Int) (w0 : a0.size ≤ 140737488351232) (w1 : (Lit.int .i64 a1).wf = true) (w : World) (hm : lx.Mks w) :
    Calls Tryd.prog 4 #[.string a0, .int .i64 a1] w fun e w' => e = .returned (.bool true) ∧ Below w.heap.size w w' := by
  have cU := cutUp_at w hm
  have cL := long_at a0
  have HM : Hid (Mks w) := hm
  clear hm
  go_enter Tryd.func4, Tryd.ntmps4
  go_wp2_with fail
  refine cU.mono ?_
  rintro e w1 ⟨rfl, hb1⟩
  by_cases hs : 900 < a0.size
  · rw [decide_eq_true hs] at cL
    go_wp2_with fail
    refine (cL _).mono ?_
    rintro e w2 ⟨rfl, rfl⟩
    go_wp2
    go_ret
    exact ⟨rfl, hb1⟩
  · rw [decide_eq_false hs] at cL
    have cX := Lex_at a0 w1 (by omega) (HM.out.step hb1)
    go_wp2_with fail
    refine (cL _).mono ?_
    rintro e w2 ⟨rfl, rfl⟩
    go_wp2_with fail
    refine cX.mono ?_
    rintro e w3 ⟨hb3, ⟨h1, v, rfl, h2⟩ | ⟨p, B, h1, rfl, h2⟩⟩
    · have hch := lx_ch (L a0) _ 0 (Nat.le_refl _) (Nat.zero_le _)
      have hlen := lx_len (L a0) _ 0 (Nat.le_refl _)
      rw [List.drop_zero] at hch
      rw [L_len] at hlen
      generalize (lx (L a0) 0).1 = l at h2 hch hlen
      obtain ⟨vp, vc, rfl, hvc, hin⟩ := h2.view
      have HV : Hid (tr.In w3 vp l ∧ Ch (L a0) 0 l ∧ Bl w w3) := ⟨hin, hch, hb1.trans hb3⟩
      clear h1 h2 hch hin hb1 hb3 cX cU cL
      obtain ⟨n, hn⟩ : ∃ n, n = l.length := ⟨_, rfl⟩
      rw [← hn] at hlen hvc ⊢
      have HN : Hid (n = l.length) := hn
      clear hn
      have cP := pick_at a1 4
      have hpk := pik_lt a1 4 (by omega)
      generalize pik a1 4 = k at cP hpk
      obtain ⟨b, hb⟩ : ∃ b, seps[k]? = some b := ⟨_, List.getElem?_eq_getElem (show k < seps.length from hpk)⟩
      have HBS : Hid (b ∈ seps) := List.mem_of_getElem? hb
      go_wp2_with fail
      refine (cP _ (by omega) (by omega)).mono ?_
      rintro e w4' ⟨rfl, rfl⟩
      obtain ⟨w4, hw4⟩ : ∃ w4, w4 = w3.alloc (.cells #[.string ⟨#[32]⟩, .string ⟨#[10]⟩, .string ⟨#[9, 32]⟩, .string ⟨#[35, 120, 61, 61, 49, 10]⟩] 9) := ⟨_, rfl⟩
      obtain ⟨B, hB⟩ : ∃ B, B = w3.heap.size := ⟨_, rfl⟩
      have g4 : w4.cell? ⟨B, k, none⟩ = some (.string (tx b)) := by
        rw [hw4, hB, cell_of (new_at w3 _)]
        rcases k with _ | _ | _ | _ | k
        · injection hb with hb; rw [← hb]; rfl
        · injection hb with hb; rw [← hb]; rfl
        · injection hb with hb; rw [← hb]; rfl
        · injection hb with hb; rw [← hb]; rfl
        · omega
      have HV4 : Hid (tr.In w4 vp l ∧ Ch (L a0) 0 l ∧ Bl w w4) := ⟨HV.out.1.step (by rw [hw4]; exact (Bl.refl _).alloc _), HV.out.2.1, HV.out.2.2.trans (by rw [hw4]; exact (Bl.refl _).alloc _)⟩
      have g5 : w4.cell? ((⟨B, 0, none⟩ : Addr).add k) = some (.string (tx b)) := by rw [Addr.add_lit, Nat.zero_add]; exact g4
      rw [← hw4, ← hB]
      clear hw4 hB HV hb cP
      go_wp2
      clear g4 g5
      go_loopw [7, 8, 10] (fun tv av iv wr => ∃ (i p : Nat), i ≤ n ∧ iv = .int .i64 (i : Int) ∧ av = .int .i64 (p : Int) ∧ tv = .string (tx (jb b ((l.take i).map Tk.t))) ∧ Hid (Ch (L a0) p (l.drop i) ∧ p ≤ a0.size ∧ Bl w4 wr)) (fun _ _ iv _ => n - (intOf iv).toNat)
      case atStart => exact ⟨0, 0, Nat.zero_le _, rfl, rfl, rfl, HV4.out.2.1, Nat.zero_le _, Bl.refl _⟩
      case round =>
        obtain ⟨i, p, hi, rfl, rfl, rfl, HC⟩ := hrel
        have hTs : (tx (jb b ((l.take i).map Tk.t))).size ≤ 100000 := by
          rw [tx_size]
          have h1 := jb_len b ((l.take i).map Tk.t) (seps_len b HBS.out)
          have h2 := ch_sum HV4.out.2.1 (Nat.zero_le _)
          have h3 : (((l.take i).map Tk.t).map List.length).sum ≤ ((l.map Tk.t).map List.length).sum := by
            conv => rhs; rw [← List.take_append_drop i l]
            simp only [List.map_append, List.sum_append]
            try omega
          have h4 : ((l.take i).map Tk.t).length ≤ n := by rw [List.length_map, List.length_take, ← HN.out]; omega
          rw [L_len] at h2
          omega
        by_cases h1 : i < n
        · have d1 : decide ((i : Int) < (n : Int)) = true := decide_eq_true (by omega)
          have hil : i < l.length := by have := HN.out; omega
          obtain ⟨x, rfl, b1, b2⟩ := (HV4.out.1.step HC.out.2.2).at' i hil
          have hdc := List.drop_eq_getElem_cons hil
          have hc := HC.out.1
          rw [hdc] at hc
          obtain ⟨f1, f2, f3, f4, f5⟩ := ch_at hc
          rw [L_len] at f2
          have hnext : jb b ((l.take (i + 1)).map Tk.t) = jb b ((l.take i).map Tk.t) ++ (l[i].t ++ b) := by
            rw [List.take_add_one, List.getElem?_eq_getElem hil, List.map_append]
            exact jb_snoc b _ _
          obtain ⟨S, hS⟩ : ∃ S, S = tx l[i].t := ⟨_, rfl⟩
          have hSs : S.size = l[i].t.length := by rw [hS, tx_size]
          obtain ⟨M, hM⟩ : ∃ M, M = l[i].a + S.size := ⟨_, rfl⟩
          obtain ⟨A, hA⟩ : ∃ A, A = l[i].a := ⟨_, rfl⟩
          have hex : a0.extract A M = S := by
            apply L_inj
            rw [L_ext, hS, L_tx, ← f3, List.drop_take, hM, hA, hSs, show l[i].a + l[i].t.length - l[i].a = l[i].t.length by omega]
          have hne : (S.toList == []) = false := by
            rw [beq_eq_false_iff_ne, hS]
            intro e
            rw [ByteArray.toList_eq] at e
            exact isT_ne f4 (by simpa [tx] using e)
          have hn1 : decide (A < p) = false := decide_eq_false (by omega)
          have hsum : (A : Int) + (S.size : Int) = (M : Int) := by omega
          have hn3 : decide (a0.size < M) = false := decide_eq_false (by omega)
          have hMs : M ≤ a0.size := by omega
          have hAM : A ≤ M := by omega
          obtain ⟨T, hT⟩ : ∃ T, T = tx (jb b ((l.take i).map Tk.t)) := ⟨_, rfl⟩
          have HF : Hid (Ch (L a0) M (l.drop (i + 1)) ∧ T ++ (S ++ tx b) = tx (jb b ((l.take (i + 1)).map Tk.t))) := by
            refine ⟨?_, ?_⟩
            · rw [hM, hSs]; exact f5
            · rw [hT, hS, tx_app, tx_app, hnext]
          rw [← hS] at b1
          rw [← hA] at b2
          rw [← hT] at hTs ⊢
          have hbs : (tx b).size ≤ 6 := by rw [tx_size]; exact seps_len b HBS.out
          clear hdc hc f1 f2 f3 f4 f5 hnext hS hSs hM hA hT
          go_wp2
          go_quiet (fail)
          go_wp2
          go_quiet (fail)
          go_wp2
          go_roundw
          case rel => exact ⟨i + 1, M, by omega, by go_num, rfl, by rw [HF.out.2], HF.out.1, hMs, HC.out.2.2.drewN _⟩
          case measure => simp [intOf]; omega
        · have d1 : decide ((i : Int) < (n : Int)) = false := decide_eq_false (by omega)
          have hil : l.take i = l := List.take_of_length_le (by have := HN.out; omega)
          rw [hil] at hTs ⊢
          have HR : Hid _ := relex b HBS.out (l.map Tk.t) (ch_all HV4.out.2.1) 0
          obtain ⟨T, hT⟩ : ∃ T, T = tx (jb b (l.map Tk.t)) := ⟨_, rfl⟩
          have HT : Hid (L T = jb b (l.map Tk.t)) := by rw [hT, L_tx]; rfl
          rw [← hT] at hTs ⊢
          clear hT hil
          by_cases h3 : 3000 < T.size
          · have d3 : decide (3000 < (T.size : Int)) = true := decide_eq_true (by omega)
            have h3' : 3000 < (T.size : Int) := by omega
            go_wp2
            go_ret
            exact ⟨rfl, HV4.out.2.2.trans HC.out.2.2⟩
          · have h3' : ¬ 3000 < (T.size : Int) := by omega
            have cT := Lex_at T wr (by omega) (HM.out.step (HV4.out.2.2.trans HC.out.2.2))
            go_wp2_with fail
            refine cT.mono ?_
            rintro e w6 ⟨hb6, ⟨g1, v, rfl, g2⟩ | ⟨p', B', g1, _⟩⟩
            · have cF := equalFunc_at l (lx (L T) 0).1 (.slice vp n vc) v w6 ⟨vp, vc, by rw [HN.out], by have := HN.out; omega, (HV4.out.1.step HC.out.2.2).step hb6⟩ g2.view (by have := HN.out; omega) (by rw [HT.out]; exact HR.out.1.symm)
              go_wp2_with fail
              refine cF.mono ?_
              rintro e w7 ⟨rfl, hb7⟩
              go_wp2
              go_ret
              exact ⟨rfl, ((HV4.out.2.2.trans HC.out.2.2).trans hb6).trans hb7⟩
            · rw [HT.out, HR.out.2] at g1
              cases g1
    · go_wp2
      go_ret
      exact ⟨rfl, hb1.trans hb3⟩

set_option maxRecDepth 100000 in
theorem lifted (os : Os) (started : os.Started) (H : Type) (enc : TypeId × Value → H) :
    ReturnsInHanded {} Tryd.checked os 4 .any (fun w args => (Rows.lexAgainSpec.pre enc Tryd.prog Tryd.f4 [] false w args ∧ laidMetH Tryd.prog laidm.list w) ∧ sizedMet enc Tryd.prog Tryd.f4 (OpenSpec.ofChange Rows.lexAgainSpec) false w args) (Rows.lexAgainSpec.post enc Tryd.prog Tryd.f4 false true false false) := by
  refine returnsInHanded_of_calls (C := Tryd.checked) own started (by kernel_rfl) 
    (ChangeSpec.witness_shaped (enc := enc) (C := Tryd.checked) (os := os) (X := fun w _ => laidMetH Tryd.prog laidm.list w) false (World.layVars Tryd.prog (World.holding Tryd.prog os ⟨#[], #[], []⟩) laidm.list) #[.string ByteArray.empty, .int .i64 0] 8 (World.layVars_os _ _ _) (World.shaped_of_ZipB (by kernel_rfl) (by kernel_rfl)) (by kernel_rfl) (by kernel_rfl) (by kernel_rfl) (laidm.world_met os _)) ?_
  intro w0 tape i _ hsh _ hok hpre _
  obtain ⟨_, _, _, fn', hfn', _, _, _, _, hval0⟩ := hok
  obtain rfl : fn' = Tryd.f4 := Option.some.inj (hfn'.symm.trans Tryd.func4)
  obtain ⟨⟨⟨ds, gs, before, hw0, _⟩, hL0⟩, hz⟩ := hpre
  have hsz0 := hz.weights hw0
  have hW : DataW.Whole enc Tryd.prog Tryd.f4.params.toList Rows.lexAgainSpec.vars false (w0.forCall tape i) i.args.toList ds gs before := DataW.Whole.of_heap (w' := w0.forCall tape i) (by rfl) hw0
  have hL : laidMetH Tryd.prog laidm.list (w0.forCall tape i) := laidMetH.of_heap (w := (w0.forCall tape i).memory) (by rfl) hL0
  refine Calls.mono (R := fun e W' => ∃ v, e = .returned v ∧ Rows.lexAgainSpec.post enc Tryd.prog Tryd.f4 false true false false (w0.forCall tape i) i.args v W') ?_ (fun e W' h => by
    obtain ⟨v, rfl, h⟩ := h
    exact ChangeSpec.post_blind h)
  clear hfn' hw0 hL0 hz
  generalize w0.forCall tape i = W at *
  generalize w0.heap.size = base at *
  generalize i.args = args at *
  have hval : ∀ (j : Nat) t v, Tryd.f4.params[j]? = some t → args[j]? = some v → Value.okWide Tryd.prog W .any base t v := hval0
  have hW' := hW
  obtain ⟨p, q, hA0, hV, rfl, hfz, hnd⟩ := hW
  have hA : DataW.TrodAll enc Tryd.prog W 0 (fun _ => true) true Tryd.f4.params.toList args.toList ds p := hA0
  have hsz : (DataW.weightsEach Tryd.prog (Tryd.f4.params.toList ++ Rows.lexAgainSpec.plain.varTypes Tryd.prog) (ds ++ gs)).all (· ≤ reachBytes) = true := hsz0
  rw [Tryd.params4] at hA hval hsz
  obtain ⟨v0, vs0, d0, ds0, p0, q0, hargs, rfl, rfl, h0, r0⟩ := trodAll_cons hA
  obtain ⟨v1, vs1, d1, ds1, p1, q1, rfl, rfl, rfl, h1, r1⟩ := trodAll_cons r0
  obtain ⟨rfl, rfl, rfl⟩ := trodAll_nil r1
  obtain rfl : args = #[v0, v1] := by cases args; simp_all
  obtain ⟨rfl, rfl⟩ := trodVars_none hV
  obtain ⟨a0, rfl, rfl, rfl, w0⟩ := open_string Tryd.underlying9 (hval 0 9 v0 rfl rfl) h0
  have z0 : a0.size ≤ 140737488351232 := sized_string hsz (j := 0) (t := 9) rfl rfl
  obtain ⟨a1, rfl, rfl, rfl, w1⟩ := open_int Tryd.underlying3 (hval 1 3 v1 rfl rfl) h1
  clear hA0 hval0 hsz0 hsz
  simp only [List.append_nil] at hW'
  refine (walk a0 a1 z0 w1 W (laidm.marks_of_laid hL)).mono fun e W' ⟨he, hg⟩ => ?_
  subst he
  exact ⟨_, rfl, _, _, _, [], [], [], hW', (trodAll_cons_mk (shut_bool Tryd.underlying4 _) trodAll_mk0), (trodAll_cons_mk (shut_string Tryd.underlying9 w0) (trodAll_cons_mk (shut_int Tryd.underlying3 w1) trodAll_mk0)), rfl, hg.frame _, fun h => by cases h⟩

theorem over : Rows.lexAgainRow.holds Tryd.pinned (OpenSpec.ofChange Rows.lexAgainSpec) :=
  OpenClaim.holds_of_wide 4 Tryd.f4 rfl rfl rfl rfl rfl rfl rfl ⟨rfl, rfl, rfl, rfl, rfl⟩ rfl rfl rfl rfl rfl (by kernel_rfl) Tryd.func4 (by kernel_rfl)
    (of_decide_eq_true (by kernel_rfl)) (by unfold Func.isWrapper; first | (rw [if_pos (by decide +kernel)]; kernel_rfl) | (rw [if_neg (by decide +kernel)]; exact ⟨rfl, rfl⟩))
    (fun os started H enc _ => lifted os started H enc)

theorem tied : Rows.LexAgainCardSaid :=
  Claim7.holds_tied_plain_at .later [] [.data] true (true, "3ebc849c7e9e556c4e26a2870ebfeb77e5c0aad1daa1671fa91b31ef1b42283f") true
    over (fun _ h => by cases h) (by kernel_rfl) (fun _ h => by cases h) lexAgain_row_tie rfl ⟨rfl, rfl⟩ (by kernel_rfl) rfl
    (fun f fn hf hfn => by
      obtain rfl : f = 4 := Option.some.inj ((show Tryd.prog.funcNamed "escritoire/escritoirekeep.LexAgain" = some 4 by kernel_rfl).symm.trans hf) |>.symm
      obtain rfl : fn = Tryd.f4 := (Option.some.inj (Tryd.func4.symm.trans hfn)).symm
      exact ⟨by kernel_rfl, fun j t ht => by
        rw [Tryd.params4] at ht
        rcases j with _ | j
        · obtain rfl : t = 9 := by simpa using ht.symm
          exact (show Tryd.prog.wantsStandIn 9 = false by kernel_rfl)
        · rcases j with _ | j
          · obtain rfl : t = 3 := by simpa using ht.symm
            exact (show Tryd.prog.wantsStandIn 3 = false by kernel_rfl)
          · simp at ht⟩)
    (by kernel_rfl)
end Go.Proofs.YtfngcphklfjhjaaDoor.lexAgain
namespace Go.Proofs.YtfngcphklfjhjaaDoor
/-- The given statement. -/
theorem lexAgain_holds : Rows.LexAgainCardSaid := lexAgain.tied
#print axioms lexAgain_holds
end Go.Proofs.YtfngcphklfjhjaaDoor
