/- Proved: 'escritoirekeep.BitsRound' answers true at every text and all numbers: Rotate by two numbers is Rotate by their sum, as many bits are 1 as were, bytes turned twice are as they were. No condition beyond the row's own. -/
import Derived.Test.YtfebfnjmehaeiabRows
import Derived.WalkKit
import Derived.ProofKit
import Derived.OpenShut
import Derived.SizedLaws
import Derived.Test.YtfebfnjmehaeiabBitFacts
import Derived.Deep.RegionWith
import Derived.ShutString
namespace Go.Proofs.Ytfebfnjmehaeiab.bitsRound
open Go.ChangeShapes Go.WideShapes Go.ChangeAt Go.RowKit
open Go.ChangeMaps (open_string shut_string)
set_option linter.unusedVariables false      -- a walk need not use every 'w<i>' (that an integer argument fits its kind)

theorem own : ownKnob Try.prog.godebug = none := by kernel_rfl

open bitw bit mem
/-- A text turned round by x. -/
def rotT (s : ByteArray) (x : Int) : ByteArray := strOfNums (bytesOf (rotG s (x % (8 * (s.size : Int))).toNat) true s.size)
/-- A text whose bytes have their bits the other way round. -/
def turnT (s : ByteArray) : ByteArray := strOfNums (bytesOf (fun k => tbit s false k) true s.size)
theorem rotT_size (s : ByteArray) (x : Int) : (rotT s x).size = s.size := bytesOf_size _ _ _
theorem turnT_size (s : ByteArray) : (turnT s).size = s.size := bytesOf_size _ _ _
theorem rotT_bit (s : ByteArray) (x : Int) (K : Nat) (hK : K < 8 * s.size) : tbit (rotT s x) true K = tbit s true ((K + (x % (8 * (s.size : Int))).toNat) % (8 * s.size)) :=
  tbit_bytesOf _ true s.size K hK
theorem turnT_bit (s : ByteArray) (K : Nat) (hK : K < 8 * s.size) : tbit (turnT s) true K = tbit s false K := tbit_bytesOf _ true s.size K hK
theorem two_mods (n m : Int) (M K : Nat) (h : 0 < M) : ((K + (m % (M : Int)).toNat) % M + (n % (M : Int)).toNat) % M = (K + ((n + m) % (M : Int)).toNat) % M := by
  have hM : (M : Int) ≠ 0 := by omega
  have h1 := Int.emod_nonneg m hM
  have h2 := Int.emod_nonneg n hM
  have h3 := Int.emod_nonneg (n + m) hM
  apply Int.ofNat_inj.1
  simp only [Int.natCast_emod, Int.natCast_add, Int.toNat_of_nonneg h1, Int.toNat_of_nonneg h2, Int.toNat_of_nonneg h3]
  rw [Int.emod_add_emod, Int.add_assoc, Int.add_emod, ← Int.add_emod m n, Int.add_comm m n, Int.emod_add_emod]
theorem rot_rot (s : ByteArray) (n m : Int) (h0 : 0 < s.size) : rotT (rotT s n) m = rotT s (n + m) := by
  apply bits_ext _ _ true
  · rw [rotT_size, rotT_size, rotT_size]
  · intro K hK
    rw [rotT_size, rotT_size] at hK
    rw [rotT_bit (rotT s n) m K (by rw [rotT_size]; exact hK), rotT_bit s (n + m) K hK, rotT_size, rotT_bit s n _ (Nat.mod_lt _ (by omega))]
    have e : (8 * (s.size : Int)) = ((8 * s.size : Nat) : Int) := by omega
    rw [e, two_mods n m (8 * s.size) K (by omega)]
theorem rot_all (s : ByteArray) : rotT s (8 * (s.size : Int)) = s := by
  apply bits_ext _ _ true (rotT_size _ _)
  intro K hK
  rw [rotT_size] at hK
  rw [rotT_bit s _ K hK, Int.emod_self]
  show tbit s true ((K + 0) % (8 * s.size)) = _
  rw [Nat.add_zero, Nat.mod_eq_of_lt hK]
theorem turn_turn (s : ByteArray) : turnT (turnT s) = s := by
  apply bits_ext _ _ true
  · rw [turnT_size, turnT_size]
  · intro K hK
    rw [turnT_size, turnT_size] at hK
    have h8 : at8 true (K / 8) (K % 8) < 8 * s.size := by unfold at8; simp; omega
    rw [turnT_bit _ K (by rw [turnT_size]; exact hK), tbit_other (turnT s) false K]
    show tbit (turnT s) true (at8 true (K / 8) (K % 8)) = _
    rw [turnT_bit s _ h8, tbit_other s false]
    show tbit s true _ = _
    have e1 : at8 true (K / 8) (K % 8) / 8 = K / 8 := at8_div true _ _ (Nat.mod_lt _ (by decide))
    have e2 : at8 true (K / 8) (K % 8) % 8 = 7 - K % 8 := by unfold at8; simp; omega
    rw [e1, e2]
    congr 1
    unfold at8; simp; omega
theorem sm_round (f : Nat → Nat) (M c : Nat) (hc : c < M) : sm (fun K => f ((K + c) % M)) M = sm f M := by
  obtain ⟨d, rfl⟩ : ∃ d, M = d + c := ⟨M - c, by omega⟩
  rw [sm_add (fun K => f ((K + c) % (d + c))) d c, sm_congr (fun K => f ((K + c) % (d + c))) (fun K => f (c + K)) d (fun K hK => by
    rw [Nat.mod_eq_of_lt (by omega), Nat.add_comm])]
  rw [sm_congr (fun i => f ((d + i + c) % (d + c))) f c (fun i hi => by
    rw [show d + i + c = i + (d + c) by omega, Nat.add_mod_right, Nat.mod_eq_of_lt (by omega)])]
  rw [Nat.add_comm d c, sm_add f c d]
  omega
theorem cnt_rot (s : ByteArray) (x : Int) (h0 : 0 < s.size) : cnt (rotT s x) (rotT s x).size = cnt s s.size := by
  have h1 := Int.emod_nonneg x (show 8 * (s.size : Int) ≠ 0 by omega)
  have h2 := Int.emod_lt_of_pos x (show 0 < 8 * (s.size : Int) by omega)
  rw [← cnt_big, ← cnt_big, rotT_size, ← sm_round (fun K => (tbit s true K).toNat) (8 * s.size) (x % (8 * (s.size : Int))).toNat (by omega)]
  exact sm_congr _ _ _ (fun K hK => by rw [rotT_bit s x K hK])
theorem cnt_turn (s : ByteArray) : cnt (turnT s) (turnT s).size = cnt s s.size := by
  rw [← cnt_big, turnT_size, sm_congr _ (fun K => (tbit s false K).toNat) _ (fun K hK => by rw [turnT_bit s K hK]), sm_rows]
  unfold cnt
  apply sm_congr
  intro i _
  apply sm_congr
  intro j hj
  unfold tbit
  have h1 : (8 * i + j) / 8 = i := by omega
  have h2 : ib false (8 * i + j) = j := by unfold ib; simp; omega
  rw [h1, h2]
theorem r1 (s : ByteArray) (x : Int) (w : World) (hs : s.size ≤ 140737488351232) (h0 : 0 < s.size) :
    Calls Try.prog 11 #[.string s, .int .i64 x] w fun e w' => e = .returned (.string (rotT s x)) ∧ Gb w w' := rotate_any s x w hs h0
theorem r2 (s : ByteArray) (n m : Int) (w : World) (hs : s.size ≤ 140737488351232) (h0 : 0 < s.size) :
    Calls Try.prog 11 #[.string (rotT s n), .int .i64 m] w fun e w' => e = .returned (.string (rotT s (n + m))) ∧ Gb w w' := by
  have h := r1 (rotT s n) m w (by rw [rotT_size]; exact hs) (by rw [rotT_size]; exact h0)
  rw [rot_rot s n m h0] at h
  exact h
theorem c2 (s : ByteArray) (x : Int) (w : World) (hs : s.size ≤ 140737488351232) (h0 : 0 < s.size) :
    Calls Try.prog 7 #[.string (rotT s x)] w fun e w' => e = .returned (.int .i64 (cnt s s.size : Nat)) ∧ w' = w := by
  have h := count_any (rotT s x) w (by rw [rotT_size]; exact hs)
  rw [cnt_rot s x h0] at h
  exact h
theorem c3 (s : ByteArray) (w : World) (hs : s.size ≤ 140737488351232) :
    Calls Try.prog 7 #[.string (turnT s)] w fun e w' => e = .returned (.int .i64 (cnt s s.size : Nat)) ∧ w' = w := by
  have h := count_any (turnT s) w (by rw [turnT_size]; exact hs)
  rw [cnt_turn s] at h
  exact h
theorem t1 (s : ByteArray) (w : World) (hs : s.size ≤ 140737488351232) :
    Calls Try.prog 9 #[.string s] w fun e w' => e = .returned (.string (turnT s)) ∧ Gb w w' := turn_any s w hs
theorem t2 (s : ByteArray) (w : World) (hs : s.size ≤ 140737488351232) :
    Calls Try.prog 9 #[.string (turnT s)] w fun e w' => e = .returned (.string s) ∧ Gb w w' := by
  have h := t1 (turnT s) w (by rw [turnT_size]; exact hs)
  rw [turn_turn s] at h
  exact h
theorem walk (a0 : ByteArray) (a1 : Int) (a2 : Int) (w0 : a0.size ≤ 140737488351232) (w1 : (Lit.int .i64 a1).wf = true) (w2 : (Lit.int .i64 a2).wf = true) (w : World) :
    Calls Try.prog 6 #[.string a0, .int .i64 a1, .int .i64 a2] w fun e w' => e = .returned (.bool true) ∧ Below w.heap.size w w' := by
  clear w1 w2
  have hp1 := pickB_bd a1 5000 (by decide)
  have hp2 := pickB_bd a2 5000 (by decide)
  by_cases hl : 100 < a0.size
  · go_enter Try.func6, Try.ntmps6
    go_wp2_with (go_at_call 13; refine (bitten_yes _).mono ?_; rintro e v0 ⟨rfl, hb⟩)
    go_ret
    exact ⟨rfl, hb⟩
  have hl' : a0.size ≤ 100 := by omega
  clear hl
  by_cases h0 : a0.size = 0
  · obtain rfl : a0 = ⟨#[]⟩ := text_ext _ _ h0 (fun j hj => by omega)
    have hrn := fun (x : Int) (w : World) => rotate_none ⟨#[]⟩ x w rfl
    have hcn : ∀ w : World, Calls Try.prog 7 #[.string ⟨#[]⟩] w fun e w' => e = .returned (.int .i64 0) ∧ w' = w := fun w => count_any ⟨#[]⟩ w (by decide)
    have htn : ∀ w : World, Calls Try.prog 9 #[.string ⟨#[]⟩] w fun e w' => e = .returned (.string ⟨#[]⟩) ∧ Gb w w' := fun w => t1 ⟨#[]⟩ w (by decide)
    have HR : Hid (∀ (x : Int) (w : World), Calls Try.prog 11 #[.string ⟨#[]⟩, .int .i64 x] w fun e w' => e = .returned (.string ⟨#[]⟩) ∧ w' = w) := hrn
    have HC : Hid (∀ w : World, Calls Try.prog 7 #[.string ⟨#[]⟩] w fun e w' => e = .returned (.int .i64 0) ∧ w' = w) := hcn
    have HT : Hid (∀ w : World, Calls Try.prog 9 #[.string ⟨#[]⟩] w fun e w' => e = .returned (.string ⟨#[]⟩) ∧ Gb w w') := htn
    clear hrn hcn htn h0 hl' w0
    go_enter Try.func6, Try.ntmps6
    go_wp2_with (first | (go_at_call 13; refine (bitten_yes _).mono ?_; rintro e v0 ⟨rfl, hb⟩) | (go_at_call 14; refine (pick_any _ _ _ (by decide) (by decide)).mono ?_; rintro e v1 ⟨rfl, rfl⟩) | (go_at_call 11; refine (HR.out _ _).mono ?_; rintro e v2 ⟨rfl, rfl⟩) | (go_at_call 7; refine (HC.out _).mono ?_; rintro e v3 ⟨rfl, rfl⟩) | (go_at_call 9; refine (HT.out _).mono ?_; rintro e v4 ⟨rfl, hg⟩; replace hb := Bl.trans hb (Gb.bl hg); clear hg))
    go_ret
    exact ⟨rfl, hb⟩
  · have h0' : 0 < a0.size := by omega
    clear h0
    go_enter Try.func6, Try.ntmps6
    go_wp2_with (first | (go_at_call 13; refine (bitten_yes _).mono ?_; rintro e v0 ⟨rfl, hb⟩) | (go_at_call 14; refine (pick_any _ _ _ (by decide) (by decide)).mono ?_; rintro e v1 ⟨rfl, rfl⟩) | (go_at_call_of 11 (Value.string a0); refine (r1 _ _ _ (by omega) (by omega)).mono ?_; rintro e v2 ⟨rfl, hg⟩; replace hb := Bl.trans hb (Gb.bl hg); clear hg) | (go_at_call 11; refine (r2 _ _ _ _ (by omega) (by omega)).mono ?_; rintro e v3 ⟨rfl, hg⟩; replace hb := Bl.trans hb (Gb.bl hg); clear hg) | (go_at_call_of 7 (Value.string a0); refine (count_any _ _ (by omega)).mono ?_; rintro e v6 ⟨rfl, rfl⟩) | (go_at_call_of 7 (Value.string (turnT a0)); refine (c3 _ _ (by omega)).mono ?_; rintro e v7 ⟨rfl, rfl⟩) | (go_at_call 7; refine (c2 _ _ _ (by omega) (by omega)).mono ?_; rintro e v8 ⟨rfl, rfl⟩) | (go_at_call_of 9 (Value.string a0); refine (t1 _ _ (by omega)).mono ?_; rintro e v9 ⟨rfl, hg⟩; replace hb := Bl.trans hb (Gb.bl hg); clear hg) | (go_at_call 9; refine (t2 _ _ (by omega)).mono ?_; rintro e v10 ⟨rfl, hg⟩; replace hb := Bl.trans hb (Gb.bl hg); clear hg))
    go_ret
    exact ⟨ret_bool (by rw [rot_all]; simp), hb⟩

set_option maxRecDepth 100000 in
theorem lifted (os : Os) (started : os.Started) (H : Type) (enc : TypeId × Value → H) :
    ReturnsInHanded {} Try.checked os 6 .any (Rows.bitsRoundSpec.pre6 enc Try.prog Try.f6 Rows.bitsRoundRow.domain false) (Rows.bitsRoundSpec.post enc Try.prog Try.f6 false true false false) := by
  refine returnsInHanded_of_change_sized (C := Try.checked) own started (by kernel_rfl) Try.func6
    (ChangeSpec.witness6 (enc := enc) (C := Try.checked) false ⟨#[], #[.string ByteArray.empty, .int .i64 0, .int .i64 0], []⟩ 8 (by kernel_rfl) (by kernel_rfl) (by kernel_rfl) (by kernel_rfl)) ?_
  intro W base args ds gs before hval0 hW hcnd hsz0 _
  have hval : ∀ (j : Nat) t v, Try.f6.params[j]? = some t → args[j]? = some v → Value.okWide Try.prog W .any base t v := hval0
  have hW' := hW
  obtain ⟨p, q, hA0, hV, rfl, hfz, hnd⟩ := hW
  have hA : DataW.TrodAll enc Try.prog W 0 (fun _ => true) true Try.f6.params.toList args.toList ds p := hA0
  have hsz : (DataW.weightsEach Try.prog (Try.f6.params.toList ++ Rows.bitsRoundSpec.plain.varTypes Try.prog) (ds ++ gs)).all (· ≤ reachBytes) = true := hsz0
  rw [Try.params6] at hA hval hsz
  obtain ⟨v0, vs0, d0, ds0, p0, q0, hargs, rfl, rfl, h0, r0⟩ := trodAll_cons hA
  obtain ⟨v1, vs1, d1, ds1, p1, q1, rfl, rfl, rfl, h1, r1⟩ := trodAll_cons r0
  obtain ⟨v2, vs2, d2, ds2, p2, q2, rfl, rfl, rfl, h2, r2⟩ := trodAll_cons r1
  obtain ⟨rfl, rfl, rfl⟩ := trodAll_nil r2
  obtain rfl : args = #[v0, v1, v2] := by cases args; simp_all
  obtain ⟨rfl, rfl⟩ := trodVars_none hV
  obtain ⟨a0, rfl, rfl, rfl, w0⟩ := open_string Try.underlying9 (hval 0 9 v0 rfl rfl) h0
  have z0 : a0.size ≤ 140737488351232 := sized_string hsz (j := 0) (t := 9) rfl rfl
  obtain ⟨a1, rfl, rfl, rfl, w1⟩ := open_int Try.underlying3 (hval 1 3 v1 rfl rfl) h1
  obtain ⟨a2, rfl, rfl, rfl, w2⟩ := open_int Try.underlying3 (hval 2 3 v2 rfl rfl) h2
  clear hA0 hval0 hsz0 hsz
  simp only [List.append_nil] at hW'
  refine (walk a0 a1 a2 z0 w1 w2 W).mono fun e W' ⟨he, hg⟩ => ?_
  subst he
  exact ⟨_, rfl, _, _, _, [], [], [], hW', (trodAll_cons_mk (shut_bool Try.underlying4 _) trodAll_mk0), (trodAll_cons_mk (shut_string Try.underlying9 w0) (trodAll_cons_mk (shut_int Try.underlying3 w1) (trodAll_cons_mk (shut_int Try.underlying3 w2) trodAll_mk0))), rfl, hg.frame _, fun h => by cases h⟩

theorem over : Rows.bitsRoundRow.holds Try.pinned (OpenSpec.ofChange Rows.bitsRoundSpec) :=
  OpenClaim.holds_of_wide 6 Try.f6 rfl rfl rfl rfl rfl rfl rfl ⟨rfl, rfl, rfl, rfl, rfl⟩ rfl rfl rfl rfl rfl (by kernel_rfl) Try.func6 (by kernel_rfl)
    (of_decide_eq_true (by kernel_rfl)) (by unfold Func.isWrapper; first | (rw [if_pos (by decide +kernel)]; kernel_rfl) | (rw [if_neg (by decide +kernel)]; exact ⟨rfl, rfl⟩))
    (fun os started H enc _ => lifted os started H enc)

end Go.Proofs.Ytfebfnjmehaeiab.bitsRound
namespace Go.Proofs.Ytfebfnjmehaeiab
/-- The given statement. -/
theorem bitsRound_holds : Rows.BitsRoundSaid := bitsRound.over
#print axioms bitsRound_holds
end Go.Proofs.Ytfebfnjmehaeiab
