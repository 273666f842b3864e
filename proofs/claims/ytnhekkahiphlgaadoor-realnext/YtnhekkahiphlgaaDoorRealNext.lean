/- RealNext: the next greater real of 64 bits, and the next smaller one of that, is the one again, and there is none between; at all bits. -/
import Derived.Test.YtnhekkahiphlgaaDoorRows
import Derived.WalkKit
import Derived.ProofKit
import Derived.OpenShut
import Derived.SizedLaws
import Derived.Test.YtnhekkahiphlgaaDoorLaidB
import Derived.Test.YtnhekkahiphlgaaDoorTie
import Derived.Test.YtnhekkahiphlgaaDoorCards
import Derived.SevenTiedAt
import Derived.Test.YtnhekkahiphlgaaDoorReal9
import Derived.Test.YtnhekkahiphlgaaDoorFloC
import Derived.ShutString
namespace Go.Proofs.YtnhekkahiphlgaaDoor.realNext
open Go.ChangeShapes Go.WideShapes Go.ChangeAt Go.RowKit
open Go.ChangeMaps (open_string shut_string)
set_option linter.unusedVariables false      -- a walk need not use every 'w<i>' (that an integer argument fits its kind)

theorem own : ownKnob Tryd.prog.godebug = none := by kernel_rfl

open mem rl errs flt
attribute [local go_sem] World.cell?_alloc_some
/-- The next greater one: its sign and magnitude, and the way back. -/
theorem nxt_back (n n' : Bool) (m m' : Nat) (h : nxt n false m = (n', m')) : nxt n' true m' = (n, m) := by
  unfold nxt at h ⊢
  cases n
  · simp at h
    obtain ⟨rfl, rfl⟩ := h
    simp
  · by_cases h0 : m = 0
    · simp [h0] at h
      obtain ⟨rfl, rfl⟩ := h
      simp [h0]
    · simp [h0] at h
      obtain ⟨rfl, rfl⟩ := h
      simp; omega
theorem nxt_sign (n n' : Bool) (m m' : Nat) (h : nxt n false m = (n', m')) (hn : n' = true) : m' < m := by
  unfold nxt at h
  cases n
  · simp at h
    obtain ⟨rfl, rfl⟩ := h
    cases hn
  · by_cases h0 : m = 0
    · simp [h0] at h
      obtain ⟨rfl, rfl⟩ := h
      cases hn
    · simp [h0] at h
      obtain ⟨rfl, rfl⟩ := h
      omega
theorem key_at (s : Nat) (hs : 0 < s) (n : Bool) (m : Nat) (hm : m < s) : keyN s ((if n then s else 0) + m) = if n then -1 - (m : Int) else (m : Int) := by
  unfold keyN
  cases n
  · have e : ((if false = true then s else 0) + m) = m := by simp
    rw [e, Nat.div_eq_of_lt hm, Nat.mod_eq_of_lt hm]; simp
  · have e : ((if true = true then s else 0) + m) = s + m := by simp
    rw [e, Nat.add_div_left _ hs, Nat.div_eq_of_lt hm, Nat.add_mod_left, Nat.mod_eq_of_lt hm]; simp
set_option maxHeartbeats 1000000 in
theorem walk (a0 : Int) (w0 : (Lit.int .u64 a0).wf = true) (w : World) (hl : rl.FL w) (hg : errs.Laid w) :
    Calls Tryd.prog 7 #[.int .u64 a0] w fun e w' => e = .returned (.bool true) ∧ Grown w w' := by
  have b0 := bounds_u64 w0
  clear w0
  have HG : Hid (Laid w) := hg
  have HL : Hid (FL w) := hl
  clear hg hl
  obtain ⟨b, rfl⟩ := Int.eq_ofNat_of_zero_le (show 0 ≤ a0 by omega)
  have hbl : b < 18446744073709551616 := by omega
  have kk : Gb w w := Gb.refl w
  obtain ⟨x, hx⟩ : ∃ x, b / 2 ^ 52 % 2048 = x := ⟨_, rfl⟩
  obtain ⟨f, hf⟩ : ∃ f, b % 2 ^ 52 = f := ⟨_, rfl⟩
  obtain ⟨n, hn⟩ : ∃ n, (b / 2 ^ 63 % 2 == 1) = n := ⟨_, rfl⟩
  by_cases hbad : x = 2047 ∧ (f = 0 → n = false)
  · have cU := fun w hl => besideErr64 b x f n false 1 hbl hn hx hf (Or.inl ⟨rfl, rfl⟩) hbad w hl
    clear hn hx hf hbad
    go_enter Tryd.func7, Tryd.ntmps7
    go_wp2_with (first | (go_at_call 20; refine (halved_at _ HL.out).mono ?_; rintro e v1 ⟨rfl, g1⟩; replace kk := kk.trans g1) | (go_at_call 14; refine (Up_of (cU _ (HL.out.gb kk))).mono ?_; rintro e v2 ⟨rfl, g2⟩; replace kk := kk.trans g2) | (go_at_call 21; refine (tell_errno 2 _ (HG.out.gb kk)).mono ?_; rintro e v3 ⟨rfl, g3⟩; replace kk := kk.trans g3))
    go_ret
    exact ⟨by simp, kk.g⟩
  · have hok : x = 2047 → f = 0 ∧ n ≠ false := fun ex => by
      by_cases f0 : f = 0
      · exact ⟨f0, fun e => hbad ⟨ex, fun _ => e⟩⟩
      · exact absurd ⟨ex, fun h => absurd h f0⟩ hbad
    obtain ⟨m, hm⟩ : ∃ m, b % 2 ^ 63 = m := ⟨_, rfl⟩
    obtain ⟨n', m', hr⟩ : ∃ n' m', nxt n false m = (n', m') := ⟨_, _, rfl⟩
    obtain ⟨u, hu⟩ : ∃ u, (if n' then 2 ^ 63 else 0) + m' = u := ⟨_, rfl⟩
    have hm1 : m ≤ 2047 * 2 ^ 52 := by omega
    have hm2 : n = false → m + 1 ≤ 2047 * 2 ^ 52 := fun e => by
      have : x ≠ 2047 := fun ex => (hok ex).2 e
      omega
    have hm' : m' < 2 ^ 63 := nxt_lt (2 ^ 63) m n false n' m' hr (fun e => by have := hm2 e; omega) (by omega)
    have hm'' : m' < 2047 * 2 ^ 52 + 1 := nxt_lt (2047 * 2 ^ 52 + 1) m n false n' m' hr (fun e => by have := hm2 e; omega) (by omega)
    have hsg : n' = true → m' < m := nxt_sign n n' m m' hr
    have hul : u < 2 ^ 64 := by rw [← hu]; split <;> omega
    have un : (u / 2 ^ 63 % 2 == 1) = n' := by
      rw [← hu]
      cases n'
      · simp; omega
      · simp; omega
    have um : u % 2 ^ 63 = m' := by rw [← hu]; cases n' <;> simp <;> omega
    have hb' : b = (if n then 2 ^ 63 else 0) + m := by
      rw [← hm, ← hn]
      by_cases e : b / 2 ^ 63 % 2 = 1
      · rw [if_pos (by simpa using e)]; omega
      · rw [if_neg (by simpa using e)]; omega
    have cU := fun w hl => beside64 b x f m m' u n false n' 1 hbl hn hx hf hm (Or.inl ⟨rfl, rfl⟩) hok hr hu w hl
    have cD := fun w hl => beside64 u _ _ m' m b n' true n (-1) hul un rfl rfl um (Or.inr ⟨rfl, rfl⟩) (fun ex => by
      have h1 : m' = 2047 * 2 ^ 52 := by omega
      exact ⟨by omega, fun e => by have := hsg e; omega⟩) (nxt_back n n' m m' hr) hb'.symm w hl
    have kb : keyN (2 ^ 63) b = if n then -1 - (m : Int) else (m : Int) := by rw [hb']; exact key_at _ (by omega) n m (by omega)
    have ku : keyN (2 ^ 63) u = if n' then -1 - (m' : Int) else (m' : Int) := by rw [← hu]; exact key_at _ (by omega) n' m' hm'
    have hkl : keyN (2 ^ 63) b + 1 = keyN (2 ^ 63) u := by
      rw [kb, ku]
      rcases nxt_key (2 ^ 63) m n false 1 (Or.inl ⟨rfl, rfl⟩) n' m' hr with ⟨h1, h2⟩ | ⟨h1, h2⟩
      · cases n'
        · simpa using h1
        · exact absurd h2 (by simp)
      · cases n'
        · simp at h2
        · simpa using h1
    have nb : b % 2 ^ 63 ≤ 2047 * 2 ^ 52 := by rw [hm]; exact hm1
    have nu : u % 2 ^ 63 ≤ 2047 * 2 ^ 52 := by rw [um]; omega
    have hsv := key_sv b u (by omega)
    have hne : b ≠ u := fun e => by rw [e] at hkl; omega
    have cB := fun w => Key64 b _ hbl rfl w
    have cE := fun w => Key64 u _ hul rfl w
    have zb := zero64 b nb
    have zu := zero64 u nu
    have fb := f64from b
    have fu := f64from u
    have klb : -9223372036854775808 ≤ keyN (2 ^ 63) u ∧ keyN (2 ^ 63) u < 9223372036854775808 := by rw [ku]; cases n' <;> simp <;> omega
    generalize keyN (2 ^ 63) b = K at cB hkl
    generalize keyN (2 ^ 63) u = L at cE hkl klb
    have hw : IntKind.i64.wrap (K + 1) = L := by rw [hkl]; exact wrap_i64 _ klb.1 klb.2
    have hor : FloatKind.f64.format.order b u = some .lt ∨ (FloatKind.f64.format.order b u = some .eq ∧ b % 2 ^ 63 = 0 ∧ u % 2 ^ 63 = 0) := by
      rw [ord64 b u nb nu]
      rcases Int.lt_or_eq_of_le hsv with h | h
      · exact Or.inl (by rw [cmp_lt h])
      · right
        rcases sv_inj b u hbl hul h with h' | h'
        · exact absurd h' hne
        · rw [h, cmp_eq]; exact ⟨rfl, h'.1, h'.2⟩
    clear hkl klb hsv hne nb nu kb ku hb' hr hu hm1 hm2 hm' hm'' hsg hn hx hf hok hbad um un hm
    rcases hor with ho | ⟨ho, z1, z2⟩
    · clear zb zu
      go_enter Tryd.func7, Tryd.ntmps7
      go_wp2_with (first | (go_at_call 20; refine (halved_at _ HL.out).mono ?_; rintro e v1 ⟨rfl, g1⟩; replace kk := kk.trans g1) | (go_at_call 14; refine (Up_of (cU _ (HL.out.gb kk))).mono ?_; rintro e v2 ⟨rfl, g2⟩; replace kk := kk.trans g2) | (go_at_call 15; refine (Down_of (cD _ (HL.out.gb kk))).mono ?_; rintro e v3 ⟨rfl, g3⟩; replace kk := kk.trans g3) | (go_at_call_of 12 (Value.int IntKind.u64 (b : Int)); refine (cB _ (HL.out.gb kk)).mono ?_; rintro e v4 ⟨rfl, g4⟩; replace kk := kk.trans g4) | (go_at_call_of 12 (Value.int IntKind.u64 (u : Int)); refine (cE _ (HL.out.gb kk)).mono ?_; rintro e v5 ⟨rfl, g5⟩; replace kk := kk.trans g5))
      go_ret
      exact ⟨by simp, kk.g⟩
    · rw [decide_eq_true z1] at zb
      rw [decide_eq_true z2] at zu
      clear z1 z2
      go_enter Tryd.func7, Tryd.ntmps7
      go_wp2_with (first | (go_at_call 20; refine (halved_at _ HL.out).mono ?_; rintro e v1 ⟨rfl, g1⟩; replace kk := kk.trans g1) | (go_at_call 14; refine (Up_of (cU _ (HL.out.gb kk))).mono ?_; rintro e v2 ⟨rfl, g2⟩; replace kk := kk.trans g2) | (go_at_call 15; refine (Down_of (cD _ (HL.out.gb kk))).mono ?_; rintro e v3 ⟨rfl, g3⟩; replace kk := kk.trans g3) | (go_at_call_of 12 (Value.int IntKind.u64 (b : Int)); refine (cB _ (HL.out.gb kk)).mono ?_; rintro e v4 ⟨rfl, g4⟩; replace kk := kk.trans g4) | (go_at_call_of 12 (Value.int IntKind.u64 (u : Int)); refine (cE _ (HL.out.gb kk)).mono ?_; rintro e v5 ⟨rfl, g5⟩; replace kk := kk.trans g5))
      go_ret
      exact ⟨by simp, kk.g⟩

set_option maxRecDepth 100000 in
theorem lifted (os : Os) (started : os.Started) (H : Type) (enc : TypeId × Value → H) :
    ReturnsInHanded {} Tryd.checked os 7 .any (fun w args => (Rows.realNextSpec.pre enc Tryd.prog Tryd.f7 [] false w args ∧ laidMetH Tryd.prog laidb.list w) ∧ sizedMet enc Tryd.prog Tryd.f7 (OpenSpec.ofChange Rows.realNextSpec) false w args) (Rows.realNextSpec.post enc Tryd.prog Tryd.f7 false true false false) := by
  refine returnsInHanded_of_change_and (C := Tryd.checked) (X := fun w _ => laidMetH Tryd.prog laidb.list w) (fun _ _ _ hh h => h.of_heap hh) own started (by kernel_rfl) Tryd.func7
    (ChangeSpec.witness_shaped (enc := enc) (C := Tryd.checked) (os := os) (X := fun w _ => laidMetH Tryd.prog laidb.list w) false (World.doorLaid Tryd.prog 200 os) #[.int .u64 0] 8 rfl (World.shaped_of_RefB (by kernel_rfl) (by kernel_rfl)) (by kernel_rfl) (by kernel_rfl) (by kernel_rfl) (laidb.world_met os _)) ?_
  intro W base args ds gs before hval0 hW hcnd hsz0 hL _
  have hval : ∀ (j : Nat) t v, Tryd.f7.params[j]? = some t → args[j]? = some v → Value.okWide Tryd.prog W .any base t v := hval0
  have hW' := hW
  obtain ⟨p, q, hA0, hV, rfl, hfz, hnd⟩ := hW
  have hA : DataW.TrodAll enc Tryd.prog W 0 (fun _ => true) true Tryd.f7.params.toList args.toList ds p := hA0
  have hsz : (DataW.weightsEach Tryd.prog (Tryd.f7.params.toList ++ Rows.realNextSpec.plain.varTypes Tryd.prog) (ds ++ gs)).all (· ≤ reachBytes) = true := hsz0
  rw [Tryd.params7] at hA hval hsz
  obtain ⟨v0, vs0, d0, ds0, p0, q0, hargs, rfl, rfl, h0, r0⟩ := trodAll_cons hA
  obtain ⟨rfl, rfl, rfl⟩ := trodAll_nil r0
  obtain rfl : args = #[v0] := by cases args; simp_all
  obtain ⟨rfl, rfl⟩ := trodVars_none hV
  obtain ⟨a0, rfl, rfl, rfl, w0⟩ := open_int Tryd.underlying22 (hval 0 22 v0 rfl rfl) h0
  clear hA0 hval0 hsz0 hsz
  simp only [List.append_nil] at hW'
  refine (walk a0 w0 W (laidb.FL_of_laid hL) (laidb.handle_of_laid hL)).mono fun e W' ⟨he, hg⟩ => ?_
  subst he
  exact ⟨_, rfl, post_of_same (pa := []) (pv := []) hW' (fun _ _ _ => (trodAll_cons_mk (shut_bool Tryd.underlying4 _) trodAll_mk0)) (fun sp _ => (trodAll_cons_mk (shut_int Tryd.underlying22 w0) trodAll_mk0)) (fun _ _ => rfl) rfl
    (hg.frame _) hg.2.1 (ok_one (by kernel_rfl) rfl (okWide_bool_mk Tryd.underlying4 _))⟩

theorem over : Rows.realNextRow.holds Tryd.pinned (OpenSpec.ofChange Rows.realNextSpec) :=
  OpenClaim.holds_of_wide 7 Tryd.f7 rfl rfl rfl rfl rfl rfl rfl ⟨rfl, rfl, rfl, rfl, rfl⟩ rfl rfl rfl rfl rfl (by kernel_rfl) Tryd.func7 (by kernel_rfl)
    (of_decide_eq_true (by kernel_rfl)) (by unfold Func.isWrapper; first | (rw [if_pos (by decide +kernel)]; kernel_rfl) | (rw [if_neg (by decide +kernel)]; exact ⟨rfl, rfl⟩))
    (fun os started H enc _ => lifted os started H enc)

theorem tied : Rows.RealNextCardSaid :=
  Claim7.holds_tied_plain_at .later [] [.handle, .data] true (true, "4b706b3ed173120a2ab539ff1f566eba9301bc3df3cc74bd56bc006d976e9e84") true
    over (fun _ h => by cases h) (by kernel_rfl) (fun _ h => by cases h) realNext_row_tie rfl ⟨rfl, rfl⟩ (by kernel_rfl) rfl
    (fun f fn hf hfn => by
      obtain rfl : f = 7 := Option.some.inj ((show Tryd.prog.funcNamed "escritoire/escritoirekeep.RealNext" = some 7 by kernel_rfl).symm.trans hf) |>.symm
      obtain rfl : fn = Tryd.f7 := (Option.some.inj (Tryd.func7.symm.trans hfn)).symm
      exact ⟨by kernel_rfl, fun j t ht => by
        rw [Tryd.params7] at ht
        rcases j with _ | j
        · obtain rfl : t = 22 := by simpa using ht.symm
          exact (show Tryd.prog.wantsStandIn 22 = false by kernel_rfl)
        · simp at ht⟩)
    (by kernel_rfl)
end Go.Proofs.YtnhekkahiphlgaaDoor.realNext
namespace Go.Proofs.YtnhekkahiphlgaaDoor
/-- The given statement. -/
theorem realNext_holds : Rows.RealNextCardSaid := realNext.tied
#print axioms realNext_holds
end Go.Proofs.YtnhekkahiphlgaaDoor
