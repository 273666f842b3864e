/- Proved: 'escritoirekeep.BitsBack' answers true at every text and all numbers: what Put puts Get gets, and no other bit changes. No condition beyond the row's own. -/
import Derived.Test.YtfebfnjmehaeiabRows
import Derived.WalkKit
import Derived.ProofKit
import Derived.OpenShut
import Derived.SizedLaws
import Derived.Test.YtfebfnjmehaeiabBitFacts
import Derived.Deep.RegionWith
import Derived.ShutString
namespace Go.Proofs.Ytfebfnjmehaeiab.bitsBack
open Go.ChangeShapes Go.WideShapes Go.ChangeAt Go.RowKit
open Go.ChangeMaps (open_string shut_string)
set_option linter.unusedVariables false      -- a walk need not use every 'w<i>' (that an integer argument fits its kind)

theorem own : ownKnob Try.prog.godebug = none := by kernel_rfl

open bitw bit mem
/-- The text that Put answers. -/
def putT (s : ByteArray) (A n : Nat) (o : Bool) (V : Nat) : ByteArray := strOfNums (bytesOf (putG (fun k => tbit s o k) A n o V n) o s.size)
theorem putT_size (s : ByteArray) (A n : Nat) (o : Bool) (V : Nat) : (putT s A n o V).size = s.size := bytesOf_size _ _ _
theorem putT_bit (s : ByteArray) (A n : Nat) (o : Bool) (V K : Nat) (hK : K < 8 * s.size) : tbit (putT s A n o V) o K = putG (fun k => tbit s o k) A n o V n K := tbit_bytesOf _ o s.size K hK
theorem putT_in (s : ByteArray) (A n : Nat) (o : Bool) (V : Nat) (h : A + n ≤ 8 * s.size) : gN (fun i => tbit (putT s A n o V) o (A + i)) n o = V % 2 ^ n := by
  unfold gN
  rw [← nb_self]
  apply nb_congr
  intro j hj
  have hp := pl_lt n o j hj
  show tbit (putT s A n o V) o (A + pl n o j) = _
  rw [putT_bit s A n o V _ (by omega)]
  unfold putG
  rw [if_pos (by omega), show A + pl n o j - A = pl n o j by omega, pl_pl n o j hj]
theorem one_bit (t : Nat → Bool) (o : Bool) : gN t 1 o = (t 0).toNat := by
  have e : pl 1 o 0 = 0 := by cases o <;> rfl
  unfold gN
  rw [nb, nb, e]
  simp
theorem hide {p : Prop} (h : p) : Hid p := h
theorem not_empty (s : ByteArray) (h : 1 ≤ s.size) : s.toList.isEmpty = false := by
  have hl : s.data.toList.length = s.size := rfl
  rw [ByteArray.toList_eq]
  cases hd : s.data.toList with
  | nil => rw [hd] at hl; simp at hl; omega
  | cons a l => rfl
theorem pick_at (a n : Int) (p : Nat) (w : World) (h : pickB a n = p) (h1 : 1 ≤ n) (h2 : n ≤ 1000000) : Calls Try.prog 14 #[.int .i64 a, .int .i64 n] w fun e w' => e = .returned (.int .i64 p) ∧ w' = w := by
  have hp := pick_any a n w h1 h2
  rw [h] at hp
  exact hp
theorem picked (a n : Int) (h1 : 1 ≤ n) : ∃ p : Nat, pickB a n = p ∧ (p : Int) < n := by
  have hb := pickB_bd a n h1
  exact ⟨(pickB a n).toNat, (Int.toNat_of_nonneg hb.1).symm, by rw [Int.toNat_of_nonneg hb.1]; exact hb.2⟩
theorem get_put (s : ByteArray) (A n : Nat) (o : Bool) (O : Int) (V : Nat) (w : World) (hO : (if o then (1 : Int) else 0) = O) (hs : s.size ≤ 140737488351232) (hn : n ≤ 64) (hA : A + n ≤ 8 * s.size) :
    Calls Try.prog 16 #[.string (putT s A n o V), .int .i64 A, .int .i64 n, .int .i64 O] w fun e w' => e = .returned (.tuple #[.int .u64 (V % 2 ^ n : Nat), .nilIface]) ∧ Dr w w' := by
  have h := get_any (putT s A n o V) A n o O w hO (by rw [putT_size]; exact hs) hn (by rw [putT_size]; exact hA)
  rw [putT_in s A n o V hA] at h
  exact h
theorem look_s (s : ByteArray) (L : Nat) (o : Bool) (O : Int) (w : World) (hO : (if o then (1 : Int) else 0) = O) (hs : s.size ≤ 140737488351232) (hL : L < 8 * s.size) :
    Calls Try.prog 16 #[.string s, .int .i64 L, .int .i64 1, .int .i64 O] w fun e w' => e = .returned (.tuple #[.int .u64 ((tbit s o L).toNat : Nat), .nilIface]) ∧ Dr w w' := by
  have h := get_any s L 1 o O w hO hs (by decide) (by omega)
  rw [one_bit] at h
  exact h
theorem look_t (s : ByteArray) (A n L : Nat) (o : Bool) (O : Int) (V : Nat) (w : World) (hO : (if o then (1 : Int) else 0) = O) (hs : s.size ≤ 140737488351232) (hL : L < 8 * s.size) :
    Calls Try.prog 16 #[.string (putT s A n o V), .int .i64 L, .int .i64 1, .int .i64 O] w fun e w' => e = .returned (.tuple #[.int .u64 ((putG (fun k => tbit s o k) A n o V n L).toNat : Nat), .nilIface]) ∧ Dr w w' := by
  have h := look_s (putT s A n o V) L o O w hO (by rw [putT_size]; exact hs) (by rw [putT_size]; exact hL)
  rw [putT_bit s A n o V L hL] at h
  exact h
theorem put_t (s : ByteArray) (A n : Nat) (o : Bool) (O : Int) (V : Nat) (w : World) (hO : (if o then (1 : Int) else 0) = O) (hs : s.size ≤ 140737488351232) (hn : n ≤ 64) (hA : A + n ≤ 8 * s.size) (hV : V < 18446744073709551616) :
    Calls Try.prog 15 #[.string s, .int .i64 A, .int .i64 n, .int .i64 O, .int .u64 V] w fun e w' => e = .returned (.tuple #[.string (putT s A n o V), .nilIface]) ∧ Bl w w' := put_any s A n o O V w hO hs hn hA hV
/-- The low n bits, as the statement takes them. -/
theorem low_bits (V n : Nat) (hV : V < 18446744073709551616) (hn : n < 64) : Go.bits .and .u64 (V : Int) (IntKind.u64.wrap (IntKind.u64.wrap (2 ^ n) - 1)) = ((V % 2 ^ n : Nat) : Int) := by
  have h1 : 2 ^ n ≤ 2 ^ 63 := Nat.pow_le_pow_right (by decide) (by omega)
  have h2 : 0 < 2 ^ n := Nat.pow_pos (by decide)
  have h3 : (2 : Nat) ^ 63 = 9223372036854775808 := by decide
  rw [h3] at h1
  have e : IntKind.u64.wrap (IntKind.u64.wrap (2 ^ n) - 1) = ((2 ^ n - 1 : Nat) : Int) := by
    rw [← p2, IntKind.wrap_u64, IntKind.wrap_u64]
    generalize (2 : Nat) ^ n = P at h1 h2 ⊢
    omega
  rw [e, u64_and_nat _ _ hV (by generalize (2 : Nat) ^ n = P at h1 h2 ⊢; omega), Nat.and_two_pow_sub_one_eq_mod]
set_option maxRecDepth 100000 in
set_option maxHeartbeats 1000000 in
theorem walk (a0 : ByteArray) (a1 : Int) (a2 : Int) (a3 : Int) (a4 : Int) (a5 : Int) (w0 : a0.size ≤ 140737488351232) (w1 : (Lit.int .i64 a1).wf = true) (w2 : (Lit.int .i64 a2).wf = true) (w3 : (Lit.int .i64 a3).wf = true) (w4 : (Lit.int .u64 a4).wf = true) (w5 : (Lit.int .i64 a5).wf = true) (w : World) :
    Calls Try.prog 4 #[.string a0, .int .i64 a1, .int .i64 a2, .int .i64 a3, .int .u64 a4, .int .i64 a5] w fun e w' => e = .returned (.bool true) ∧ Below w.heap.size w w' := by
  have b4 := bounds_u64 w4
  obtain ⟨V, rfl⟩ := Int.eq_ofNat_of_zero_le b4.1
  have hV : V < 18446744073709551616 := by omega
  clear w1 w2 w3 w4 w5 b4
  by_cases hl : 100 < a0.size ∨ a0.size = 0
  · by_cases h0 : a0.size = 0
    · obtain rfl : a0 = ⟨#[]⟩ := text_ext _ _ h0 (fun j hj => by omega)
      clear hl w0 h0
      go_enter Try.func4, Try.ntmps4
      go_wp2_with (go_at_call 13; refine (bitten_yes _).mono ?_; rintro e v0 ⟨rfl, hb⟩)
      go_ret
      exact ⟨rfl, hb⟩
    · have hl' : 100 < a0.size := by omega
      have he := not_empty a0 (by omega)
      clear hl
      go_enter Try.func4, Try.ntmps4
      go_wp2_with (go_at_call 13; refine (bitten_yes _).mono ?_; rintro e v0 ⟨rfl, hb⟩)
      go_ret
      exact ⟨rfl, hb⟩
  have hl1 : a0.size ≤ 100 := by omega
  have hl2 : 1 ≤ a0.size := by omega
  have he := not_empty a0 (by omega)
  clear hl
  obtain ⟨M, hM⟩ : ∃ M : Int, (if 8 * (a0.size : Int) < 64 then 8 * (a0.size : Int) else 64) = M := ⟨_, rfl⟩
  have hM1 : M ≤ 64 := by rw [← hM]; split <;> omega
  have hM2 : M ≤ 8 * (a0.size : Int) := by rw [← hM]; split <;> omega
  have hM0 : 0 ≤ M := by rw [← hM]; split <;> omega
  obtain ⟨q, hq, hq2⟩ := picked a3 2 (by decide)
  obtain ⟨n, hn, hn2⟩ := picked a2 (M + 1) (by omega)
  obtain ⟨A, hA, hA2⟩ := picked a1 (8 * (a0.size : Int) - n + 1) (by omega)
  obtain ⟨L, hL, hL2⟩ := picked a5 (8 * (a0.size : Int)) (by omega)
  obtain ⟨o, ho⟩ : ∃ o : Bool, (if o then (1 : Int) else 0) = (q : Int) := by
    by_cases e : q = 1
    · exact ⟨true, by rw [e]; rfl⟩
    · exact ⟨false, by rw [show q = 0 by omega]; rfl⟩
  have HO : Hid ((if o then (1 : Int) else 0) = (q : Int)) := ho
  have HQ : Hid (pickB a3 2 = q) := hq
  have HN : Hid (pickB a2 (M + 1) = n) := hn
  have HA : Hid (pickB a1 (8 * (a0.size : Int) - n + 1) = A) := hA
  have HL : Hid (pickB a5 (8 * (a0.size : Int)) = L) := hL
  have hsz := putT_size a0 A n o V
  clear ho hq hn hA hL
  have hn64 : n ≤ 64 := by omega
  have hAn : A + n ≤ 8 * a0.size := by omega
  have hLn : L < 8 * a0.size := by omega
  have HLOW : Hid (n < 64 → Go.bits .and .u64 (V : Int) (IntKind.u64.wrap (IntKind.u64.wrap (2 ^ n) - 1)) = ((V % 2 ^ n : Nat) : Int)) := fun h => low_bits V n hV h
  go_enter Try.func4, Try.ntmps4
  go_wp2_with (first | (go_at_call 13; refine (bitten_yes _).mono ?_; rintro e v0 ⟨rfl, hb⟩) | (go_at_call_of 14 (Value.int IntKind.i64 a3); refine (pick_at _ _ _ _ HQ.out (by omega) (by omega)).mono ?_; rintro e v1 ⟨rfl, rfl⟩) | (go_at_call_of 14 (Value.int IntKind.i64 a2); refine (pick_at _ _ _ _ HN.out (by omega) (by omega)).mono ?_; rintro e v2 ⟨rfl, rfl⟩) | (go_at_call_of 14 (Value.int IntKind.i64 a1); refine (pick_at _ _ _ _ HA.out (by omega) (by omega)).mono ?_; rintro e v3 ⟨rfl, rfl⟩))
  clear hM hM1 hM2 hM0 hn2 hA2
  refine (put_t _ _ _ o _ _ _ HO.out (by omega) (by omega) (by omega) (by omega)).mono ?_
  rintro e v5 ⟨rfl, hg⟩
  replace hb := Bl.trans hb hg
  clear hg
  go_wp2_with (first | (go_at_call_of 14 (Value.int IntKind.i64 a5); refine (pick_at _ _ _ _ HL.out (by omega) (by omega)).mono ?_; rintro e v4 ⟨rfl, rfl⟩) | (go_at_call_of 16 (Value.string a0); refine (look_s _ _ o _ _ HO.out (by omega) (by omega)).mono ?_; rintro e v6 ⟨rfl, hd⟩; replace hb := Bl.trans hb (Dr.bl hd); clear hd) | (go_at_call_of 16 (Value.int IntKind.i64 (A : Int)); refine (get_put _ _ _ o _ _ _ HO.out (by omega) (by omega) (by omega)).mono ?_; rintro e v8 ⟨rfl, hd⟩; replace hb := Bl.trans hb (Dr.bl hd); clear hd))
  refine (look_t _ _ _ _ o _ _ _ HO.out (by omega) (by omega)).mono ?_
  rintro e v7 ⟨rfl, hd⟩
  replace hb := Bl.trans hb (Dr.bl hd)
  clear hd
  have hvm : n = 64 → (V : Int) % 2 ^ n = V := by
    intro h64
    rw [h64]
    omega
  have hlow : n < 64 → Go.bits .and .u64 (V : Int) (IntKind.u64.wrap (IntKind.u64.wrap (2 ^ n) - 1)) = (V : Int) % 2 ^ n := by
    intro h
    rw [HLOW.out h, Int.natCast_emod, p2]
  have HVM := hide hvm
  have HLO := hide hlow
  clear hvm hlow HLOW
  have hpg : ¬ (A ≤ L ∧ L < A + n) → putG (fun k => tbit a0 o k) A n o V n L = tbit a0 o L := by
    intro h
    unfold putG
    rw [if_neg h]
  have HPG := hide hpg
  clear hpg
  by_cases h64 : n = 64
  · have hvm := HVM.out h64
    have hge : 64 ≤ n := by omega
    have hbq : ((n : Int) == 64) = true := by rw [beq_iff_eq]; omega
    clear h64
    by_cases h1 : A ≤ L
    · by_cases h2 : L < A + n
      · go_wp2
        go_ret
        exact ⟨rfl, hb⟩
      · have hpg := HPG.out (fun h => h2 h.2)
        have h2' : A + n ≤ L := by omega
        go_wp2
        go_ret
        exact ⟨rfl, hb⟩
    · have hpg := HPG.out (fun h => h1 h.1)
      have h1' : L < A := by omega
      go_wp2
      go_ret
      exact ⟨rfl, hb⟩
  · have hlt : n < 64 := by omega
    have hlo := HLO.out hlt
    have hbq : ((n : Int) == 64) = false := by rw [beq_eq_false_iff_ne]; omega
    clear h64
    by_cases h1 : A ≤ L
    · by_cases h2 : L < A + n
      · go_wp2
        go_ret
        exact ⟨rfl, hb⟩
      · have hpg := HPG.out (fun h => h2 h.2)
        have h2' : A + n ≤ L := by omega
        go_wp2
        go_ret
        exact ⟨rfl, hb⟩
    · have hpg := HPG.out (fun h => h1 h.1)
      have h1' : L < A := by omega
      go_wp2
      go_ret
      exact ⟨rfl, hb⟩

set_option maxRecDepth 100000 in
theorem lifted (os : Os) (started : os.Started) (H : Type) (enc : TypeId × Value → H) :
    ReturnsInHanded {} Try.checked os 4 .any (Rows.bitsBackSpec.pre6 enc Try.prog Try.f4 Rows.bitsBackRow.domain false) (Rows.bitsBackSpec.post enc Try.prog Try.f4 false true false false) := by
  refine returnsInHanded_of_change_sized (C := Try.checked) own started (by kernel_rfl) Try.func4
    (ChangeSpec.witness6 (enc := enc) (C := Try.checked) false ⟨#[], #[.string ByteArray.empty, .int .i64 0, .int .i64 0, .int .i64 0, .int .u64 0, .int .i64 0], []⟩ 8 (by kernel_rfl) (by kernel_rfl) (by kernel_rfl) (by kernel_rfl)) ?_
  intro W base args ds gs before hval0 hW hcnd hsz0 _
  have hval : ∀ (j : Nat) t v, Try.f4.params[j]? = some t → args[j]? = some v → Value.okWide Try.prog W .any base t v := hval0
  have hW' := hW
  obtain ⟨p, q, hA0, hV, rfl, hfz, hnd⟩ := hW
  have hA : DataW.TrodAll enc Try.prog W 0 (fun _ => true) true Try.f4.params.toList args.toList ds p := hA0
  have hsz : (DataW.weightsEach Try.prog (Try.f4.params.toList ++ Rows.bitsBackSpec.plain.varTypes Try.prog) (ds ++ gs)).all (· ≤ reachBytes) = true := hsz0
  rw [Try.params4] at hA hval hsz
  obtain ⟨v0, vs0, d0, ds0, p0, q0, hargs, rfl, rfl, h0, r0⟩ := trodAll_cons hA
  obtain ⟨v1, vs1, d1, ds1, p1, q1, rfl, rfl, rfl, h1, r1⟩ := trodAll_cons r0
  obtain ⟨v2, vs2, d2, ds2, p2, q2, rfl, rfl, rfl, h2, r2⟩ := trodAll_cons r1
  obtain ⟨v3, vs3, d3, ds3, p3, q3, rfl, rfl, rfl, h3, r3⟩ := trodAll_cons r2
  obtain ⟨v4, vs4, d4, ds4, p4, q4, rfl, rfl, rfl, h4, r4⟩ := trodAll_cons r3
  obtain ⟨v5, vs5, d5, ds5, p5, q5, rfl, rfl, rfl, h5, r5⟩ := trodAll_cons r4
  obtain ⟨rfl, rfl, rfl⟩ := trodAll_nil r5
  obtain rfl : args = #[v0, v1, v2, v3, v4, v5] := by cases args; simp_all
  obtain ⟨rfl, rfl⟩ := trodVars_none hV
  obtain ⟨a0, rfl, rfl, rfl, w0⟩ := open_string Try.underlying9 (hval 0 9 v0 rfl rfl) h0
  have z0 : a0.size ≤ 140737488351232 := sized_string hsz (j := 0) (t := 9) rfl rfl
  obtain ⟨a1, rfl, rfl, rfl, w1⟩ := open_int Try.underlying3 (hval 1 3 v1 rfl rfl) h1
  obtain ⟨a2, rfl, rfl, rfl, w2⟩ := open_int Try.underlying3 (hval 2 3 v2 rfl rfl) h2
  obtain ⟨a3, rfl, rfl, rfl, w3⟩ := open_int Try.underlying3 (hval 3 3 v3 rfl rfl) h3
  obtain ⟨a4, rfl, rfl, rfl, w4⟩ := open_int Try.underlying26 (hval 4 26 v4 rfl rfl) h4
  obtain ⟨a5, rfl, rfl, rfl, w5⟩ := open_int Try.underlying3 (hval 5 3 v5 rfl rfl) h5
  clear hA0 hval0 hsz0 hsz
  simp only [List.append_nil] at hW'
  refine (walk a0 a1 a2 a3 a4 a5 z0 w1 w2 w3 w4 w5 W).mono fun e W' ⟨he, hg⟩ => ?_
  subst he
  exact ⟨_, rfl, _, _, _, [], [], [], hW', (trodAll_cons_mk (shut_bool Try.underlying4 _) trodAll_mk0), (trodAll_cons_mk (shut_string Try.underlying9 w0) (trodAll_cons_mk (shut_int Try.underlying3 w1) (trodAll_cons_mk (shut_int Try.underlying3 w2) (trodAll_cons_mk (shut_int Try.underlying3 w3) (trodAll_cons_mk (shut_int Try.underlying26 w4) (trodAll_cons_mk (shut_int Try.underlying3 w5) trodAll_mk0)))))), rfl, hg.frame _, fun h => by cases h⟩

theorem over : Rows.bitsBackRow.holds Try.pinned (OpenSpec.ofChange Rows.bitsBackSpec) :=
  OpenClaim.holds_of_wide 4 Try.f4 rfl rfl rfl rfl rfl rfl rfl ⟨rfl, rfl, rfl, rfl, rfl⟩ rfl rfl rfl rfl rfl (by kernel_rfl) Try.func4 (by kernel_rfl)
    (of_decide_eq_true (by kernel_rfl)) (by unfold Func.isWrapper; first | (rw [if_pos (by decide +kernel)]; kernel_rfl) | (rw [if_neg (by decide +kernel)]; exact ⟨rfl, rfl⟩))
    (fun os started H enc _ => lifted os started H enc)

end Go.Proofs.Ytfebfnjmehaeiab.bitsBack
namespace Go.Proofs.Ytfebfnjmehaeiab
/-- The given statement. -/
theorem bitsBack_holds : Rows.BitsBackSaid := bitsBack.over
#print axioms bitsBack_holds
end Go.Proofs.Ytfebfnjmehaeiab
