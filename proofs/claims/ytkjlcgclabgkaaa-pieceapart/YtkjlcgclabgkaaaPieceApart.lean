/- What is proved: for every text and every two edits of bytes that lie apart (as PieceApart picks them), both orders come to the same text, which is the document's, and the first text stays what it was. No conditions. -/
import Derived.Test.YtkjlcgclabgkaaaRows
import Derived.WalkKit
import Derived.ProofKit
import Derived.OpenShut
import Derived.SizedLaws
import Derived.Test.YtkjlcgclabgkaaaPc10
import Derived.ShutString
namespace Go.Proofs.Ytkjlcgclabgkaaa.pieceApart
open Go.ChangeShapes Go.WideShapes Go.ChangeAt Go.RowKit
open Go.ChangeMaps (open_string shut_string)
set_option linter.unusedVariables false      -- a walk need not use every 'w<i>' (that an integer argument fits its kind)

theorem own : ownKnob Try.prog.godebug = none := by kernel_rfl

open mem pc
theorem bs_app (a b : ByteArray) : (a ++ b).data.toList = a.data.toList ++ b.data.toList := by simp
/-- Both orders come to these bytes. -/
theorem both (s x y R : ByteArray) (A O B M : Nat) (h1 : A + O ≤ B) (h2 : B + M ≤ s.size) (hR : R = s.extract 0 A ++ x ++ s.extract (A + O) B ++ y ++ s.extract (B + M) s.size) :
    R.data.toList = s.data.toList.take A ++ x.data.toList ++ ((s.data.toList.take B).drop (A + O)) ++ y.data.toList ++ s.data.toList.drop (B + M) := by
  rw [hR, bs_app, bs_app, bs_app, bs_app, ex_bytes, ex_bytes, ex_bytes, List.drop_zero, List.take_of_length_le (l := s.data.toList) (i := s.size) (Nat.le_refl _)]
theorem apart_u (L x y : List UInt8) (A O B M : Nat) (h1 : A + O ≤ B) (h2 : B + M ≤ L.length) :
    (L.take B ++ y ++ L.drop (B + M)).take A ++ x ++ (L.take B ++ y ++ L.drop (B + M)).drop (A + O) = L.take A ++ x ++ ((L.take B).drop (A + O)) ++ y ++ L.drop (B + M) := by
  have e : (L.take B).length = B := by rw [List.length_take]; omega
  rw [List.append_assoc (L.take B), List.take_append_of_le_length (by omega), List.drop_append_of_le_length (by omega), List.take_take, show min A B = A by omega]
  simp
theorem apart_v (L x y : List UInt8) (A O B M K : Nat) (h1 : A + O ≤ B) (h2 : B + M ≤ L.length) (hK : K = B - O + x.length) :
    (L.take A ++ x ++ L.drop (A + O)).take K ++ y ++ (L.take A ++ x ++ L.drop (A + O)).drop (K + M) = L.take A ++ x ++ ((L.take B).drop (A + O)) ++ y ++ L.drop (B + M) := by
  have e : (L.take A ++ x).length = A + x.length := by rw [List.length_append, List.length_take]; omega
  rw [List.take_append, List.drop_append, e, List.take_of_length_le (l := L.take A ++ x) (by rw [e]; omega), List.drop_of_length_le (l := L.take A ++ x) (by rw [e]; omega), List.nil_append, List.drop_drop, show A + O + (K + M - (A + x.length)) = B + M by omega, show K - (A + x.length) = B - (A + O) by omega, List.drop_take]
set_option maxHeartbeats 4000000 in
set_option maxRecDepth 100000 in
theorem walk (a0 : ByteArray) (a1 : Int) (a2 : Int) (a3 : Int) (a4 : Int) (a5 : ByteArray) (a6 : ByteArray) (w0 : a0.size ≤ 140737488351232) (w1 : (Lit.int .i64 a1).wf = true) (w2 : (Lit.int .i64 a2).wf = true) (w3 : (Lit.int .i64 a3).wf = true) (w4 : (Lit.int .i64 a4).wf = true) (w5 : a5.size ≤ 140737488351232) (w6 : a6.size ≤ 140737488351232) (w : World) :
    Calls Try.prog 4 #[.string a0, .int .i64 a1, .int .i64 a2, .int .i64 a3, .int .i64 a4, .string a5, .string a6] w fun e w' => e = .returned (.bool true) ∧ Below w.heap.size w w' := by
  clear w1 w2 w3 w4
  have cF := fun w => pieced_at w
  by_cases hs : a0.size ≤ 200 ∧ a5.size ≤ 60 ∧ a6.size ≤ 60
  · obtain ⟨hs0, hs5, hs6⟩ := hs
    obtain ⟨A, hA⟩ : ∃ A, A = pk a1 (a0.size + 1) := ⟨_, rfl⟩
    have hA1 : A ≤ a0.size := by have := pk_lt a1 (a0.size + 1) (by omega); omega
    have c1 := fun w => pick_at a1 (a0.size + 1) w (by omega) (by omega)
    rw [← hA, show ((a0.size + 1 : Nat) : Int) = (a0.size : Int) + 1 by omega] at c1
    obtain ⟨O, hO⟩ : ∃ O, O = pk a2 (a0.size - A + 1) := ⟨_, rfl⟩
    have hO1 : O ≤ a0.size - A := by have := pk_lt a2 (a0.size - A + 1) (by omega); omega
    have c2 := fun w => pick_at a2 (a0.size - A + 1) w (by omega) (by omega)
    rw [← hO, show ((a0.size - A + 1 : Nat) : Int) = (a0.size : Int) - (A : Int) + 1 by omega] at c2
    obtain ⟨P, hP⟩ : ∃ P, P = pk a3 (a0.size - A - O + 1) := ⟨_, rfl⟩
    have hP1 : P ≤ a0.size - A - O := by have := pk_lt a3 (a0.size - A - O + 1) (by omega); omega
    have c3 := fun w => pick_at a3 (a0.size - A - O + 1) w (by omega) (by omega)
    rw [← hP, show ((a0.size - A - O + 1 : Nat) : Int) = (a0.size : Int) - (A : Int) - (O : Int) + 1 by omega] at c3
    obtain ⟨B, hB⟩ : ∃ B, B = A + O + P := ⟨_, rfl⟩
    obtain ⟨M, hM⟩ : ∃ M, M = pk a4 (a0.size - B + 1) := ⟨_, rfl⟩
    have hM1 : M ≤ a0.size - B := by have := pk_lt a4 (a0.size - B + 1) (by omega); omega
    have c4 := fun w => pick_at a4 (a0.size - B + 1) w (by omega) (by omega)
    rw [← hM, show ((a0.size - B + 1 : Nat) : Int) = (a0.size : Int) - (B : Int) + 1 by omega] at c4
    have hBI : (A : Int) + (O : Int) + (P : Int) = (B : Int) := by omega
    have HB : Hid (B = A + O + P) := hB
    clear hA hO hP hM hB
    have cO := fun w => Of_at a0 w (by omega)
    obtain ⟨K, hK⟩ : ∃ K : Nat, K = B - O + a5.size := ⟨_, rfl⟩
    have hKI : (B : Int) - (O : Int) + (a5.size : Int) = (K : Int) := by have := HB.out; omega
    have hlen : a0.data.toList.length = a0.size := rfl
    have hl5 : a5.data.toList.length = a5.size := rfl
    have hl6 : a6.data.toList.length = a6.size := rfl
    obtain ⟨R, hR⟩ : ∃ R, R = a0.extract 0 A ++ a5 ++ a0.extract (A + O) B ++ a6 ++ a0.extract (B + M) a0.size := ⟨_, rfl⟩
    have hRb := both a0 a5 a6 R A O B M (by have := HB.out; omega) (by have := HB.out; omega) hR
    have hU := apart_u a0.data.toList a5.data.toList a6.data.toList A O B M (by have := HB.out; omega) (by have := HB.out; omega)
    have hV := apart_v a0.data.toList a5.data.toList a6.data.toList A O B M K (by have := HB.out; omega) (by have := HB.out; omega) hK
    rw [← hRb] at hU hV
    obtain ⟨L1, hL1⟩ : ∃ L1, L1 = a0.data.toList.take B ++ a6.data.toList ++ a0.data.toList.drop (B + M) := ⟨_, rfl⟩
    obtain ⟨L2, hL2⟩ : ∃ L2, L2 = a0.data.toList.take A ++ a5.data.toList ++ a0.data.toList.drop (A + O) := ⟨_, rfl⟩
    have n1 : L1.length = a0.size + a6.size - M := by rw [hL1, List.length_append, List.length_append, List.length_take, List.length_drop, hlen, hl6]; have := HB.out; omega
    have n2 : L2.length = a0.size + a5.size - O := by rw [hL2, List.length_append, List.length_append, List.length_take, List.length_drop, hlen, hl5]; omega
    have cE1 := fun w p t (h : Is w p t) k => Edit_tx p t a0.data.toList B M a6 w h k (by have := HB.out; omega) (by omega)
    have cE2 := fun w p t (h : Is w p t) k => Edit_tx p t a0.data.toList A O a5 w h k (by omega) (by omega)
    have cE3 := fun w p t (h : Is w p t) k => Edit_tx p t L1 A O a5 w h k (by have := HB.out; omega) (by omega)
    have cE4 := fun w p t (h : Is w p t) k => Edit_tx p t L2 K M a6 w h k (by have := HB.out; omega) (by omega)
    rw [← hL1] at cE1 hU
    rw [← hL2] at cE2 hV
    rw [hU] at cE3
    rw [hV] at cE4
    have cS0 := fun w p t (h : Is w p t) k => String_tx p t a0 w h k
    have cSR := fun w p t (h : Is w p t) k => String_tx p t R w h k
    obtain ⟨AO, hAO⟩ : ∃ AO, AO = A + O := ⟨_, rfl⟩
    obtain ⟨BM, hBM⟩ : ∃ BM, BM = B + M := ⟨_, rfl⟩
    rw [← hAO, ← hBM] at hR
    have i1 : (A : Int) ≤ (a0.size : Int) := by omega
    have i2 : (A : Int) + (O : Int) = (AO : Int) := by omega
    have i3 : (AO : Int) ≤ (B : Int) := by have := HB.out; omega
    have i4 : (B : Int) ≤ (a0.size : Int) := by have := HB.out; omega
    have i5 : (B : Int) + (M : Int) = (BM : Int) := by omega
    have i6 : (BM : Int) ≤ (a0.size : Int) := by have := HB.out; omega
    have i7 : IntKind.i64.wrap (AO : Int) = (AO : Int) := by rw [IntKind.wrap_i64]; omega
    have i8 : IntKind.i64.wrap (BM : Int) = (BM : Int) := by rw [IntKind.wrap_i64]; omega
    have HR : Hid (R = a0.extract 0 A ++ a5 ++ a0.extract AO B ++ a6 ++ a0.extract BM a0.size) := hR
    have i9 : (AO : Int) + (P : Int) = (B : Int) := by omega
    have HAO : Hid _ := hAO
    have HBM : Hid _ := hBM
    clear hL1 hL2 hU hV hRb n1 n2 hlen hl5 hl6 hK hR hAO hBM
    go_enter Try.func4, Try.ntmps4
    go_wp2_with (first
      | (go_at_call 5; refine (cF _).mono ?_; clear cF; rintro e v0 ⟨rfl, hb0⟩)
      | (go_at_call_of 8 (Value.int IntKind.i64 a1); refine (c1 _).mono ?_; clear c1; rintro e v1 ⟨rfl, rfl⟩)
      | (go_at_call_of 8 (Value.int IntKind.i64 a2); refine (c2 _).mono ?_; clear c2; rintro e v1 ⟨rfl, rfl⟩)
      | (go_at_call_of 8 (Value.int IntKind.i64 a3); refine (c3 _).mono ?_; clear c3; rintro e v1 ⟨rfl, rfl⟩)
      | (go_at_call_of 8 (Value.int IntKind.i64 a4); refine (c4 _).mono ?_; clear c4; rintro e v1 ⟨rfl, rfl⟩)
      | (go_at_call 6; refine (cO _).mono ?_; clear cO; rintro e v1 ⟨p, t, rfl, hi, hx, hb1⟩)
      | (go_at_call 10; refine (cE1 _ _ _ (hi.bl ((Bl.refl _).alloc _)) hx).mono ?_; clear cE1; rintro e v2 ⟨p2, t2, rfl, hi2, hx2, _, hb2⟩; have y1 := (Bx.new v1 (.pointer p) 26).bl hb2; have z1 := (y1.bl ((Bl.refl v2).alloc (.cells #[.pointer p2] 26))).cell)
      | (go_at_call 10; refine (cE2 _ _ _ (hi.bl ((((Bl.refl _).alloc _).trans hb2).alloc _)) hx).mono ?_; clear cE2; rintro e v3 ⟨p3, t3, rfl, hi3, hx3, _, hb3⟩; have y2 := (Bx.new v2 (.pointer p2) 26).bl hb3; have z2 := (y2.bl ((Bl.refl v3).alloc (.cells #[.pointer p3] 26))).cell)
      | (go_at_call 10; refine (cE3 _ _ _ (hi2.bl ((((Bl.refl _).alloc _).trans hb3).alloc _)) hx2).mono ?_; clear cE3; rintro e v4 ⟨p4, t4, rfl, hi4, hx4, _, hb4⟩; have y3 := (Bx.new v3 (.pointer p3) 26).bl hb4; have z3 := (y3.bl ((Bl.refl v4).alloc (.cells #[.pointer p4] 26))).cell)
      | (go_at_call 10; refine (cE4 _ _ _ (hi3.bl ((((Bl.refl _).alloc _).trans hb4).alloc _)) hx3).mono ?_; clear cE4; rintro e v5 ⟨p5, t5, rfl, hi5, hx5, _, hb5⟩))
    obtain ⟨V5, hV5⟩ : ∃ V5, V5 = v5.alloc (.cells #[.pointer p5] 26) := ⟨_, rfl⟩
    have HV5 : Bl v5 V5 := by rw [hV5]; exact (Bl.refl v5).alloc _
    have k5 : Bx V5 v5.heap.size (.pointer p5) 26 := by rw [hV5]; exact Bx.new _ _ _
    have k4 : Bx V5 v4.heap.size (.pointer p4) 26 := ((Bx.new v4 (.pointer p4) 26).bl hb5).bl HV5
    have q4 : Bl v4 V5 := (((Bl.refl v4).alloc _).trans hb5).trans HV5
    have q3 : Bl v3 V5 := (((Bl.refl v3).alloc _).trans hb4).trans q4
    have q2 : Bl v2 V5 := (((Bl.refl v2).alloc _).trans hb3).trans q3
    have k1 : Bx V5 v1.heap.size (.pointer p) 26 := y1.bl q2
    have q1 : Bl v1 V5 := (((Bl.refl v1).alloc _).trans hb2).trans q2
    have u4 := hi4.bl q4
    have u5 := hi5.bl HV5
    have u1 := hi.bl q1
    have QW : Bl w V5 := (hb0.trans hb1).trans q1
    rw [← hV5]
    clear hV5 y1 y2 y3 z1 z2 z3 hi hi2 hi3 hi4 hi5 hx2 hx3 HV5 q4 q3 q2 q1 hb0 hb1 hb2 hb3 hb4 hb5
    have hR' := HR.out
    clear HR
    subst hR'
    have HB6 : Bl V5 V5.drew := (Bl.refl V5).drew
    have s0 : (fun w' : World => w'.cell? ⟨v1.heap.size, 0, none⟩ = some (.pointer p) ∧ w'.cell? ⟨v4.heap.size, 0, none⟩ = some (.pointer p4) ∧ w'.cell? ⟨v5.heap.size, 0, none⟩ = some (.pointer p5)) V5.drew := ⟨(k1.bl HB6).cell, (k4.bl HB6).cell, (k5.bl HB6).cell⟩
    have j1 : ¬ 9223372036854775807 < A + a5.size := by omega
    have j2 : ¬ 9223372036854775807 < A + a5.size + (min B a0.size - AO) := by omega
    have j3 : ¬ 9223372036854775807 < A + a5.size + (min B a0.size - AO) + a6.size := by omega
    have j4 : ¬ 9223372036854775807 < A + a5.size + (min B a0.size - AO) + a6.size + (a0.size - BM) := by omega
    have m1 : Hid True := trivial
    go_region_held3 (fun w' => w'.cell? ⟨v1.heap.size, 0, none⟩ = some (.pointer p) ∧ w'.cell? ⟨v4.heap.size, 0, none⟩ = some (.pointer p4) ∧ w'.cell? ⟨v5.heap.size, 0, none⟩ = some (.pointer p5)) (assumption) (first
      | (go_at_call 13; clear m1; refine (cSR _ _ _ (u4.bl HB6) hx4).mono ?_; rintro e v7 ⟨rfl, hb7⟩; have HB7 := HB6.trans hb7; have s7 := (show (fun w' : World => w'.cell? ⟨v1.heap.size, 0, none⟩ = some (.pointer p) ∧ w'.cell? ⟨v4.heap.size, 0, none⟩ = some (.pointer p4) ∧ w'.cell? ⟨v5.heap.size, 0, none⟩ = some (.pointer p5)) v7 from ⟨(k1.bl HB7).cell, (k4.bl HB7).cell, (k5.bl HB7).cell⟩); have m2 : Hid True := trivial)
      | (go_at_call 13; clear m2; refine (cSR _ _ _ (u5.bl HB7) hx5).mono ?_; rintro e v8 ⟨rfl, hb8⟩; have HB8 := HB7.trans hb8; have s8 := (show (fun w' : World => w'.cell? ⟨v1.heap.size, 0, none⟩ = some (.pointer p) ∧ w'.cell? ⟨v4.heap.size, 0, none⟩ = some (.pointer p4) ∧ w'.cell? ⟨v5.heap.size, 0, none⟩ = some (.pointer p5)) v8 from ⟨(k1.bl HB8).cell, (k4.bl HB8).cell, (k5.bl HB8).cell⟩); have m3 : Hid True := trivial)
      | (go_at_call 13; clear m3; refine (cS0 _ _ _ (u1.bl HB8) hx).mono ?_; rintro e v9 ⟨rfl, hb9⟩; have HB9 := HB8.trans hb9; have s9 := (show (fun w' : World => w'.cell? ⟨v1.heap.size, 0, none⟩ = some (.pointer p) ∧ w'.cell? ⟨v4.heap.size, 0, none⟩ = some (.pointer p4) ∧ w'.cell? ⟨v5.heap.size, 0, none⟩ = some (.pointer p5)) v9 from ⟨(k1.bl HB9).cell, (k4.bl HB9).cell, (k5.bl HB9).cell⟩); have m4 : Hid True := trivial)
      | (go_at_call 13; clear m4; refine (cSR _ _ _ (u4.bl HB9) hx4).mono ?_; rintro e va ⟨rfl, hba⟩; have HBa := HB9.trans hba; have sa := (show (fun w' : World => w'.cell? ⟨v1.heap.size, 0, none⟩ = some (.pointer p) ∧ w'.cell? ⟨v4.heap.size, 0, none⟩ = some (.pointer p4) ∧ w'.cell? ⟨v5.heap.size, 0, none⟩ = some (.pointer p5)) va from ⟨(k1.bl HBa).cell, (k4.bl HBa).cell, (k5.bl HBa).cell⟩)))
    go_wp2
    go_ret
    exact ⟨rfl, QW.trans HBa⟩
  · have hs' : (200 : Int) < (a0.size : Int) ∨ (a0.size : Int) ≤ 200 ∧ ((60 : Int) < (a5.size : Int) ∨ (a5.size : Int) ≤ 60 ∧ (60 : Int) < (a6.size : Int)) := by omega
    clear hs
    rcases hs' with h1 | ⟨h1, h2 | ⟨h2, h3⟩⟩
    · go_enter Try.func4, Try.ntmps4
      go_wp2_with (go_at_call 5; refine (cF _).mono ?_; clear cF; rintro e v0 ⟨rfl, hb0⟩)
      go_ret
      exact ⟨rfl, hb0⟩
    · go_enter Try.func4, Try.ntmps4
      go_wp2_with (go_at_call 5; refine (cF _).mono ?_; clear cF; rintro e v0 ⟨rfl, hb0⟩)
      go_ret
      exact ⟨rfl, hb0⟩
    · go_enter Try.func4, Try.ntmps4
      go_wp2_with (go_at_call 5; refine (cF _).mono ?_; clear cF; rintro e v0 ⟨rfl, hb0⟩)
      go_ret
      exact ⟨rfl, hb0⟩

set_option maxRecDepth 100000 in
theorem lifted (os : Os) (started : os.Started) (H : Type) (enc : TypeId × Value → H) :
    ReturnsInHanded {} Try.checked os 4 .any (Rows.pieceApartSpec.pre6 enc Try.prog Try.f4 Rows.pieceApartRow.domain false) (Rows.pieceApartSpec.post enc Try.prog Try.f4 false true false false) := by
  refine returnsInHanded_of_change_sized (C := Try.checked) own started (by kernel_rfl) Try.func4
    (ChangeSpec.witness6 (enc := enc) (C := Try.checked) false ⟨#[], #[.string ByteArray.empty, .int .i64 0, .int .i64 0, .int .i64 0, .int .i64 0, .string ByteArray.empty, .string ByteArray.empty], []⟩ 8 (by kernel_rfl) (by kernel_rfl) (by kernel_rfl) (by kernel_rfl)) ?_
  intro W base args ds gs before hval0 hW hcnd hsz0 _
  have hval : ∀ (j : Nat) t v, Try.f4.params[j]? = some t → args[j]? = some v → Value.okWide Try.prog W .any base t v := hval0
  have hW' := hW
  obtain ⟨p, q, hA0, hV, rfl, hfz, hnd⟩ := hW
  have hA : DataW.TrodAll enc Try.prog W 0 (fun _ => true) true Try.f4.params.toList args.toList ds p := hA0
  have hsz : (DataW.weightsEach Try.prog (Try.f4.params.toList ++ Rows.pieceApartSpec.plain.varTypes Try.prog) (ds ++ gs)).all (· ≤ reachBytes) = true := hsz0
  rw [Try.params4] at hA hval hsz
  obtain ⟨v0, vs0, d0, ds0, p0, q0, hargs, rfl, rfl, h0, r0⟩ := trodAll_cons hA
  obtain ⟨v1, vs1, d1, ds1, p1, q1, rfl, rfl, rfl, h1, r1⟩ := trodAll_cons r0
  obtain ⟨v2, vs2, d2, ds2, p2, q2, rfl, rfl, rfl, h2, r2⟩ := trodAll_cons r1
  obtain ⟨v3, vs3, d3, ds3, p3, q3, rfl, rfl, rfl, h3, r3⟩ := trodAll_cons r2
  obtain ⟨v4, vs4, d4, ds4, p4, q4, rfl, rfl, rfl, h4, r4⟩ := trodAll_cons r3
  obtain ⟨v5, vs5, d5, ds5, p5, q5, rfl, rfl, rfl, h5, r5⟩ := trodAll_cons r4
  obtain ⟨v6, vs6, d6, ds6, p6, q6, rfl, rfl, rfl, h6, r6⟩ := trodAll_cons r5
  obtain ⟨rfl, rfl, rfl⟩ := trodAll_nil r6
  obtain rfl : args = #[v0, v1, v2, v3, v4, v5, v6] := by cases args; simp_all
  obtain ⟨rfl, rfl⟩ := trodVars_none hV
  obtain ⟨a0, rfl, rfl, rfl, w0⟩ := open_string Try.underlying9 (hval 0 9 v0 rfl rfl) h0
  have z0 : a0.size ≤ 140737488351232 := sized_string hsz (j := 0) (t := 9) rfl rfl
  obtain ⟨a1, rfl, rfl, rfl, w1⟩ := open_int Try.underlying3 (hval 1 3 v1 rfl rfl) h1
  obtain ⟨a2, rfl, rfl, rfl, w2⟩ := open_int Try.underlying3 (hval 2 3 v2 rfl rfl) h2
  obtain ⟨a3, rfl, rfl, rfl, w3⟩ := open_int Try.underlying3 (hval 3 3 v3 rfl rfl) h3
  obtain ⟨a4, rfl, rfl, rfl, w4⟩ := open_int Try.underlying3 (hval 4 3 v4 rfl rfl) h4
  obtain ⟨a5, rfl, rfl, rfl, w5⟩ := open_string Try.underlying9 (hval 5 9 v5 rfl rfl) h5
  have z5 : a5.size ≤ 140737488351232 := sized_string hsz (j := 5) (t := 9) rfl rfl
  obtain ⟨a6, rfl, rfl, rfl, w6⟩ := open_string Try.underlying9 (hval 6 9 v6 rfl rfl) h6
  have z6 : a6.size ≤ 140737488351232 := sized_string hsz (j := 6) (t := 9) rfl rfl
  clear hA0 hval0 hsz0 hsz
  simp only [List.append_nil] at hW'
  refine (walk a0 a1 a2 a3 a4 a5 a6 z0 w1 w2 w3 w4 z5 z6 W).mono fun e W' ⟨he, hg⟩ => ?_
  subst he
  exact ⟨_, rfl, _, _, _, [], [], [], hW', (trodAll_cons_mk (shut_bool Try.underlying4 _) trodAll_mk0), (trodAll_cons_mk (shut_string Try.underlying9 w0) (trodAll_cons_mk (shut_int Try.underlying3 w1) (trodAll_cons_mk (shut_int Try.underlying3 w2) (trodAll_cons_mk (shut_int Try.underlying3 w3) (trodAll_cons_mk (shut_int Try.underlying3 w4) (trodAll_cons_mk (shut_string Try.underlying9 w5) (trodAll_cons_mk (shut_string Try.underlying9 w6) trodAll_mk0))))))), rfl, hg.frame _, fun h => by cases h⟩

theorem over : Rows.pieceApartRow.holds Try.pinned (OpenSpec.ofChange Rows.pieceApartSpec) :=
  OpenClaim.holds_of_wide 4 Try.f4 rfl rfl rfl rfl rfl rfl rfl ⟨rfl, rfl, rfl, rfl, rfl⟩ rfl rfl rfl rfl rfl (by kernel_rfl) Try.func4 (by kernel_rfl)
    (of_decide_eq_true (by kernel_rfl)) (by unfold Func.isWrapper; first | (rw [if_pos (by decide +kernel)]; kernel_rfl) | (rw [if_neg (by decide +kernel)]; exact ⟨rfl, rfl⟩))
    (fun os started H enc _ => lifted os started H enc)

end Go.Proofs.Ytkjlcgclabgkaaa.pieceApart
namespace Go.Proofs.Ytkjlcgclabgkaaa
/-- The given statement. -/
theorem pieceApart_holds : Rows.PieceApartSaid := pieceApart.over
#print axioms pieceApart_holds
end Go.Proofs.Ytkjlcgclabgkaaa
