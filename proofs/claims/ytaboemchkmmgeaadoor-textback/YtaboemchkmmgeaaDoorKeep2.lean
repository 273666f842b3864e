/- The fact 'signed' of the laws: package text at three texts. -/
import Derived.Test.YtaboemchkmmgeaaDoorKeep1
import Derived.Test.YtaboemchkmmgeaaDoorUtf3
import Derived.Test.YtaboemchkmmgeaaDoorEnc4
namespace Go.Proofs.YtaboemchkmmgeaaDoor.keep
set_option linter.unusedVariables false
open Go.ChangeShapes Go.WideShapes Go.ChangeAt Go.RowKit
open mem rows enc utf
open narrow (NL Narrow_at)

theorem in_lit (w : World) (l : List Int) (t : TypeId) : In (w.alloc (.cells (l.map (Value.int .i64)).toArray t)) (some ⟨w.heap.size, 0, none⟩) l := by
  refine Or.inr ⟨_, rfl, fun k hk => ?_⟩
  rw [Addr.add_lit, Nat.zero_add]
  unfold World.cell?
  rw [heap_alloc_new]
  simp [hk]
def s1 : ByteArray := ⟨#[97, 226, 130, 172, 98, 226, 130]⟩
def s2 : ByteArray := ⟨#[216, 1, 220, 55]⟩
theorem fD : D 7 s1 = [(97, 1), (8364, 3), (98, 1), (65533, 2)] := by decide +kernel
theorem fW : strOfNums (wb [66615] true 1) = s2 := by decide +kernel
theorem fN : NL s2 true 4 0 = [66615] := by decide +kernel
set_option maxHeartbeats 2000000 in
set_option maxRecDepth 100000 in
theorem signed_at (w : World) (hT : Tabs w) : Calls Tryd.prog 20 #[] w fun e w' => e = .returned (.bool true) ∧ Bl w w' := by
  have cA := fun w hT => Decode_at s1 w (by decide) hT
  have hz1 : s1.size = 7 := rfl
  rw [hz1, fD] at cA
  have e1 : sg [(97, 1), (8364, 3), (98, 1), (65533, 2)] = [97, 8364, 98, 65533] := rfl
  have e2 : sz [(97, 1), (8364, 3), (98, 1), (65533, 2)] = [1, 3, 1, 2] := rfl
  rw [e1, e2] at cA
  have cB0 := fun p w hi => Wide_at p 1 [66615] true 1 w rfl (by decide) hi (fun k hk => by
    obtain rfl : k = 0 := by simpa using hk
    exact Or.inr (by decide))
  have cB : ∀ p w, In w p [66615] → Calls Tryd.prog 14 #[.slice p 1 1, .int .i64 1] w fun e w' => e = .returned (.tuple #[.string s2, .nilIface]) ∧ Bl w w' := fun p w hi => by rw [← fW]; exact cB0 p w hi
  have cC := fun w => Narrow_at s2 true 1 w rfl (by decide)
  have hz2 : s2.size = 4 := rfl
  rw [hz2, fN] at cC
  unfold s1 at cA
  unfold s2 at cB cC
  have HT : Hid (Tabs w) := hT
  clear hT hz1 hz2 e1 e2 cB0
  go_enter Tryd.func20, Tryd.ntmps20
  go_wp2_with (first
    | (go_at_call 9; refine (cA _ HT.out).mono ?_; rintro e w1 ⟨v1, v2, rfl, ho1, hb1⟩)
    | (go_at_call 14; refine (cB _ _ (in_lit w1 [66615] 3)).mono ?_; rintro e w2 ⟨rfl, hb2⟩; have ho2 := ho1.step (((Bl.refl w1).alloc _).trans hb2))
    | (go_at_call 17; refine (cC _).mono ?_; rintro e w3 ⟨v3, rfl, hn3, hb3⟩; have ho3 := ho2.step hb3)
    | (go_at_call_of 23 v1; refine (equal_at v1 _ [97, 8364, 98, 65533] _ (view_own (ho3.alloc _).a) (view_in (in_lit w3 [97, 8364, 98, 65533] 3)) (by decide)).mono ?_; rintro e w4 ⟨rfl, hb4⟩; have hq4 := ((Bl.refl w3).alloc (.cells #[.int .i64 97, .int .i64 8364, .int .i64 98, .int .i64 65533] 3)).trans hb4; have ho4 := ho3.step hq4)
    | (go_at_call_of 23 v2; refine (equal_at v2 _ [1, 3, 1, 2] _ (view_own (ho4.alloc _).b) (view_in (in_lit w4 [1, 3, 1, 2] 3)) (by decide)).mono ?_; rintro e w5 ⟨rfl, hb5⟩; have hq5 := ((Bl.refl w4).alloc (.cells #[.int .i64 1, .int .i64 3, .int .i64 1, .int .i64 2] 3)).trans hb5; have hn5 := hn3.step (hq4.trans hq5))
    | (go_at_call_of 23 v3; refine (equal_at v3 _ [66615] _ (view_own (hn5.step ((Bl.refl w5).alloc _))) (view_in (in_lit w5 [66615] 3)) (by decide)).mono ?_; rintro e w6 ⟨rfl, hb6⟩))
  go_ret
  exact ⟨by simp, ((((hb1.trans ((Bl.refl w1).alloc _)).trans hb2).trans hb3).trans (hq4.trans hq5)).trans (((Bl.refl w5).alloc _).trans hb6)⟩
end Go.Proofs.YtaboemchkmmgeaaDoor.keep
