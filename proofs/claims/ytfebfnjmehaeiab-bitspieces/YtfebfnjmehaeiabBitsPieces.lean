/- Proved: 'escritoirekeep.BitsPieces' answers true at every text and all numbers: bits that stand together are, of both pieces, the one's number beside the other's, in either order. No condition beyond the row's own. -/
import Derived.Test.YtfebfnjmehaeiabRows
import Derived.WalkKit
import Derived.ProofKit
import Derived.OpenShut
import Derived.SizedLaws
import Derived.Test.YtfebfnjmehaeiabBitFacts
import Derived.Deep.RegionWith
import Derived.ShutString
namespace Go.Proofs.Ytfebfnjmehaeiab.bitsPieces
open Go.ChangeShapes Go.WideShapes Go.ChangeAt Go.RowKit
open Go.ChangeMaps (open_string shut_string)
set_option linter.unusedVariables false      -- a walk need not use every 'w<i>' (that an integer argument fits its kind)

theorem own : ownKnob Try.prog.godebug = none := by kernel_rfl

open bitw bit mem
theorem big_pieces (t : Nat → Bool) (A n m : Nat) : gN (fun i => t (A + i)) (n + m) true = gN (fun i => t (A + i)) n true * 2 ^ m ||| gN (fun i => t (A + n + i)) m true := by
  apply Nat.eq_of_testBit_eq
  intro j
  rw [Nat.testBit_or, Nat.testBit_mul_two_pow]
  unfold gN
  rw [nb_test, nb_test, nb_test]
  by_cases h : j < m
  · have h1 : ¬ m ≤ j := by omega
    have h2 : j < n + m := by omega
    have e : A + pl (n + m) true j = A + n + pl m true j := by unfold pl; simp; omega
    simp [h, h1, h2, e]
  · have h1 : m ≤ j := by omega
    by_cases h2 : j < n + m
    · have h3 : j - m < n := by omega
      have e : A + pl (n + m) true j = A + pl n true (j - m) := by unfold pl; simp; omega
      simp [h, h1, h2, h3, e]
    · have h3 : ¬ j - m < n := by omega
      simp [h, h2, h3]
theorem little_pieces (t : Nat → Bool) (A n m : Nat) : gN (fun i => t (A + i)) (n + m) false = gN (fun i => t (A + n + i)) m false * 2 ^ n ||| gN (fun i => t (A + i)) n false := by
  apply Nat.eq_of_testBit_eq
  intro j
  rw [Nat.testBit_or, Nat.testBit_mul_two_pow]
  unfold gN
  rw [nb_test, nb_test, nb_test]
  have e0 : ∀ k i, pl k false i = i := fun k i => rfl
  simp only [e0]
  by_cases h : j < n
  · have h1 : ¬ n ≤ j := by omega
    have h2 : j < n + m := by omega
    simp [h, h1, h2]
  · have h1 : n ≤ j := by omega
    by_cases h2 : j < n + m
    · have h3 : j - n < m := by omega
      have e : A + j = A + n + (j - n) := by omega
      rw [e]
      simp [h, h1, h2, h3]
    · have h3 : ¬ j - n < m := by omega
      simp [h, h2, h3]
theorem not_empty (s : ByteArray) (h : 1 ≤ s.size) : s.toList.isEmpty = false := by
  have hl : s.data.toList.length = s.size := rfl
  rw [ByteArray.toList_eq]
  cases hd : s.data.toList with
  | nil => rw [hd] at hl; simp at hl; omega
  | cons a l => rfl
theorem get_i (s : ByteArray) (A n : Int) (o : Bool) (O : Int) (w : World) (hO : (if o then (1 : Int) else 0) = O) (hs : s.size ≤ 140737488351232) (hA : 0 ≤ A) (h0 : 0 ≤ n) (hn : n ≤ 64) (hb : A + n ≤ 8 * (s.size : Int)) :
    Calls Try.prog 16 #[.string s, .int .i64 A, .int .i64 n, .int .i64 O] w fun e w' => e = .returned (.tuple #[.int .u64 (gN (fun i => tbit s o (A.toNat + i)) n.toNat o : Nat), .nilIface]) ∧ Dr w w' := by
  obtain ⟨a, rfl⟩ := Int.eq_ofNat_of_zero_le hA
  obtain ⟨k, rfl⟩ := Int.eq_ofNat_of_zero_le h0
  exact get_any s a k o O w hO hs (by omega) (by omega)
theorem pick_n (a n : Int) (w : World) (h1 : 1 ≤ n) (h2 : n ≤ 1000000) : Calls Try.prog 14 #[.int .i64 a, .int .i64 n] w fun e w' => ∃ p : Nat, e = .returned (.int .i64 p) ∧ (p : Int) < n ∧ w' = w := by
  refine (pick_any a n w h1 h2).mono ?_
  rintro e w' ⟨rfl, rfl⟩
  have hb := pickB_bd a n h1
  exact ⟨(pickB a n).toNat, by rw [Int.toNat_of_nonneg hb.1], by rw [Int.toNat_of_nonneg hb.1]; exact hb.2, rfl⟩
/-- A number beside another one, as the program lays them. -/
theorem beside (a b n m : Nat) (ha : a < 2 ^ n) (hb : b < 2 ^ m) (h : n + m ≤ 64) : Go.bits .or .u64 (IntKind.u64.wrap ((a : Int) * 2 ^ m)) (b : Int) = ((a * 2 ^ m ||| b : Nat) : Int) := by
  have h1 := pow64 (n + m) h
  have h2 : a * 2 ^ m < 2 ^ (n + m) := by
    rw [Nat.pow_add]
    exact (Nat.mul_lt_mul_right (Nat.pow_pos (by decide))).2 ha
  have h3 : 2 ^ m ≤ 2 ^ (n + m) := Nat.pow_le_pow_right (by decide) (by omega)
  have e : IntKind.u64.wrap ((a : Int) * 2 ^ m) = ((a * 2 ^ m : Nat) : Int) := by
    rw [IntKind.wrap_u64, ← p2, ← Int.natCast_mul]
    exact Int.emod_eq_of_lt (by omega) (by omega)
  rw [e, u64_or_nat _ _ (by omega) (by omega)]
set_option maxRecDepth 100000 in
theorem walk (a0 : ByteArray) (a1 : Int) (a2 : Int) (a3 : Int) (w0 : a0.size ≤ 140737488351232) (w1 : (Lit.int .i64 a1).wf = true) (w2 : (Lit.int .i64 a2).wf = true) (w3 : (Lit.int .i64 a3).wf = true) (w : World) :
    Calls Try.prog 5 #[.string a0, .int .i64 a1, .int .i64 a2, .int .i64 a3] w fun e w' => e = .returned (.bool true) ∧ Below w.heap.size w w' := by
  clear w1 w2 w3
  by_cases hl : 100 < a0.size ∨ a0.size = 0
  · by_cases h0 : a0.size = 0
    · obtain rfl : a0 = ⟨#[]⟩ := text_ext _ _ h0 (fun j hj => by omega)
      clear hl w0 h0
      go_enter Try.func5, Try.ntmps5
      go_wp2_with (go_at_call 13; refine (bitten_yes _).mono ?_; rintro e v0 ⟨rfl, hb⟩)
      go_ret
      exact ⟨rfl, hb⟩
    · have hl' : 100 < a0.size := by omega
      have he := not_empty a0 (by omega)
      clear hl
      go_enter Try.func5, Try.ntmps5
      go_wp2_with (go_at_call 13; refine (bitten_yes _).mono ?_; rintro e v0 ⟨rfl, hb⟩)
      go_ret
      exact ⟨rfl, hb⟩
  have hl1 : a0.size ≤ 100 := by omega
  have hl2 : 1 ≤ a0.size := by omega
  have he := not_empty a0 (by omega)
  clear hl
  have HB : Hid (∀ A n m : Nat, n + m ≤ 64 → ((gN (fun i => tbit a0 true (A + i)) (n + m) true : Nat) : Int) = Go.bits .or .u64 (IntKind.u64.wrap (((gN (fun i => tbit a0 true (A + i)) n true : Nat) : Int) * 2 ^ m)) ((gN (fun i => tbit a0 true (A + n + i)) m true : Nat) : Int)) := fun A n m h => by
    rw [beside (gN (fun i => tbit a0 true (A + i)) n true) (gN (fun i => tbit a0 true (A + n + i)) m true) n m (nb_lt _ _) (nb_lt _ _) h, ← big_pieces (fun k => tbit a0 true k) A n m]
  have HL : Hid (∀ A n m : Nat, n + m ≤ 64 → ((gN (fun i => tbit a0 false (A + i)) (n + m) false : Nat) : Int) = Go.bits .or .u64 (IntKind.u64.wrap (((gN (fun i => tbit a0 false (A + n + i)) m false : Nat) : Int) * 2 ^ n)) ((gN (fun i => tbit a0 false (A + i)) n false : Nat) : Int)) := fun A n m h => by
    rw [beside (gN (fun i => tbit a0 false (A + n + i)) m false) (gN (fun i => tbit a0 false (A + i)) n false) m n (nb_lt _ _) (nb_lt _ _) (by omega), ← little_pieces (fun k => tbit a0 false k) A n m]
  go_enter Try.func5, Try.ntmps5
  go_wp2_with (first | (go_at_call 13; refine (bitten_yes _).mono ?_; rintro e v0 ⟨rfl, hb⟩) | (go_at_call 14; refine (pick_n _ _ _ (by omega) (by omega)).mono ?_; rintro e v1 ⟨p, rfl, hp, rfl⟩) | (go_at_call_of 16 (Value.int IntKind.i64 1); refine (get_i _ _ _ true 1 _ rfl (by omega) (by omega) (by omega) (by omega) (by omega)).mono ?_; rintro e v2 ⟨rfl, hd⟩; replace hb := Bl.trans hb (Dr.bl hd); clear hd) | (go_at_call 16; refine (get_i _ _ _ false 0 _ rfl (by omega) (by omega) (by omega) (by omega) (by omega)).mono ?_; rintro e v3 ⟨rfl, hd⟩; replace hb := Bl.trans hb (Dr.bl hd); clear hd))
  all_goals first | (rename_i hne _; exact absurd (HB.out _ _ _ (by omega)) hne) | (go_ret; (refine ⟨ret_bool (beq_iff_eq.2 (HL.out _ _ _ ?_)), hb⟩; omega))

set_option maxRecDepth 100000 in
theorem lifted (os : Os) (started : os.Started) (H : Type) (enc : TypeId × Value → H) :
    ReturnsInHanded {} Try.checked os 5 .any (Rows.bitsPiecesSpec.pre6 enc Try.prog Try.f5 Rows.bitsPiecesRow.domain false) (Rows.bitsPiecesSpec.post enc Try.prog Try.f5 false true false false) := by
  refine returnsInHanded_of_change_sized (C := Try.checked) own started (by kernel_rfl) Try.func5
    (ChangeSpec.witness6 (enc := enc) (C := Try.checked) false ⟨#[], #[.string ByteArray.empty, .int .i64 0, .int .i64 0, .int .i64 0], []⟩ 8 (by kernel_rfl) (by kernel_rfl) (by kernel_rfl) (by kernel_rfl)) ?_
  intro W base args ds gs before hval0 hW hcnd hsz0 _
  have hval : ∀ (j : Nat) t v, Try.f5.params[j]? = some t → args[j]? = some v → Value.okWide Try.prog W .any base t v := hval0
  have hW' := hW
  obtain ⟨p, q, hA0, hV, rfl, hfz, hnd⟩ := hW
  have hA : DataW.TrodAll enc Try.prog W 0 (fun _ => true) true Try.f5.params.toList args.toList ds p := hA0
  have hsz : (DataW.weightsEach Try.prog (Try.f5.params.toList ++ Rows.bitsPiecesSpec.plain.varTypes Try.prog) (ds ++ gs)).all (· ≤ reachBytes) = true := hsz0
  rw [Try.params5] at hA hval hsz
  obtain ⟨v0, vs0, d0, ds0, p0, q0, hargs, rfl, rfl, h0, r0⟩ := trodAll_cons hA
  obtain ⟨v1, vs1, d1, ds1, p1, q1, rfl, rfl, rfl, h1, r1⟩ := trodAll_cons r0
  obtain ⟨v2, vs2, d2, ds2, p2, q2, rfl, rfl, rfl, h2, r2⟩ := trodAll_cons r1
  obtain ⟨v3, vs3, d3, ds3, p3, q3, rfl, rfl, rfl, h3, r3⟩ := trodAll_cons r2
  obtain ⟨rfl, rfl, rfl⟩ := trodAll_nil r3
  obtain rfl : args = #[v0, v1, v2, v3] := by cases args; simp_all
  obtain ⟨rfl, rfl⟩ := trodVars_none hV
  obtain ⟨a0, rfl, rfl, rfl, w0⟩ := open_string Try.underlying9 (hval 0 9 v0 rfl rfl) h0
  have z0 : a0.size ≤ 140737488351232 := sized_string hsz (j := 0) (t := 9) rfl rfl
  obtain ⟨a1, rfl, rfl, rfl, w1⟩ := open_int Try.underlying3 (hval 1 3 v1 rfl rfl) h1
  obtain ⟨a2, rfl, rfl, rfl, w2⟩ := open_int Try.underlying3 (hval 2 3 v2 rfl rfl) h2
  obtain ⟨a3, rfl, rfl, rfl, w3⟩ := open_int Try.underlying3 (hval 3 3 v3 rfl rfl) h3
  clear hA0 hval0 hsz0 hsz
  simp only [List.append_nil] at hW'
  refine (walk a0 a1 a2 a3 z0 w1 w2 w3 W).mono fun e W' ⟨he, hg⟩ => ?_
  subst he
  exact ⟨_, rfl, _, _, _, [], [], [], hW', (trodAll_cons_mk (shut_bool Try.underlying4 _) trodAll_mk0), (trodAll_cons_mk (shut_string Try.underlying9 w0) (trodAll_cons_mk (shut_int Try.underlying3 w1) (trodAll_cons_mk (shut_int Try.underlying3 w2) (trodAll_cons_mk (shut_int Try.underlying3 w3) trodAll_mk0)))), rfl, hg.frame _, fun h => by cases h⟩

theorem over : Rows.bitsPiecesRow.holds Try.pinned (OpenSpec.ofChange Rows.bitsPiecesSpec) :=
  OpenClaim.holds_of_wide 5 Try.f5 rfl rfl rfl rfl rfl rfl rfl ⟨rfl, rfl, rfl, rfl, rfl⟩ rfl rfl rfl rfl rfl (by kernel_rfl) Try.func5 (by kernel_rfl)
    (of_decide_eq_true (by kernel_rfl)) (by unfold Func.isWrapper; first | (rw [if_pos (by decide +kernel)]; kernel_rfl) | (rw [if_neg (by decide +kernel)]; exact ⟨rfl, rfl⟩))
    (fun os started H enc _ => lifted os started H enc)

end Go.Proofs.Ytfebfnjmehaeiab.bitsPieces
namespace Go.Proofs.Ytfebfnjmehaeiab
/-- The given statement. -/
theorem bitsPieces_holds : Rows.BitsPiecesSaid := bitsPieces.over
#print axioms bitsPieces_holds
end Go.Proofs.Ytfebfnjmehaeiab
