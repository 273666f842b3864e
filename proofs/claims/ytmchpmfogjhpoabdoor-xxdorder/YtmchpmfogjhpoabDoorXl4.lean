/- strings.Cut at one byte; the lines of a text, gone through by a function that is ranged over. -/
import Derived.Test.YtmchpmfogjhpoabDoorBld
import Derived.Test.YtmchpmfogjhpoabDoorLayC
import Derived.Lib.IndexLaws
import Derived.Shelf.Abstract
import Derived.OwnWalkIn
import Derived.TacticsInMore
import Derived.LoopNIn
import Derived.LoopIn
namespace Go.Proofs.YtmchpmfogjhpoabDoor.xl
set_option linter.unusedVariables false
open Go.ChangeShapes Go.WideShapes Go.ChangeAt Go.RowKit Go.Shelf
open mem rows bld

theorem at_some (s : ByteArray) (k : Nat) (c : UInt8) : s.data.toList[k]? = some c ↔ (k < s.size ∧ sb s k = (c.toNat : Int)) := by
  have hs : s.size = s.data.toList.length := rfl
  constructor
  · intro h
    obtain ⟨h1, h2⟩ := List.getElem?_eq_some_iff.1 h
    refine ⟨by rw [hs]; exact h1, ?_⟩
    unfold sb
    rw [List.getD_eq_getElem?_getD, h]
    rfl
  · rintro ⟨h1, h2⟩
    rw [hs] at h1
    unfold sb at h2
    rw [List.getD_eq_getElem?_getD, List.getElem?_eq_getElem h1] at h2
    rw [List.getElem?_eq_getElem h1]
    congr 1
    apply UInt8.toNat_inj.1
    simp only [Option.getD_some] at h2
    exact_mod_cast h2
theorem index_yes (s : ByteArray) (c : UInt8) (k : Nat) (hk : k < s.size) (h : sb s k = (c.toNat : Int)) (hn : ∀ j, j < k → sb s j ≠ (c.toNat : Int)) : Lib.indexByte s.data.toList c = (k : Int) := by
  have hg := Lib.indexByte_ge s.data.toList c
  by_cases hm : Lib.indexByte s.data.toList c = -1
  · exact absurd ((at_some s k c).2 ⟨hk, h⟩) (Lib.indexByte_none hm k)
  · obtain ⟨o, ho⟩ : ∃ o : Nat, Lib.indexByte s.data.toList c = (o : Int) := ⟨(Lib.indexByte s.data.toList c).toNat, by omega⟩
    obtain ⟨h1, h2⟩ := Lib.indexByte_some ho
    rw [ho]
    rcases Nat.lt_trichotomy o k with h3 | h3 | h3
    · exact absurd ((at_some s o c).1 h1).2 (hn o h3)
    · rw [h3]
    · exact absurd ((at_some s k c).2 ⟨hk, h⟩) (h2 k h3)
theorem index_no (s : ByteArray) (c : UInt8) (hn : ∀ j, j < s.size → sb s j ≠ (c.toNat : Int)) : Lib.indexByte s.data.toList c = -1 := by
  have hg := Lib.indexByte_ge s.data.toList c
  by_cases hm : Lib.indexByte s.data.toList c = -1
  · exact hm
  · obtain ⟨o, ho⟩ : ∃ o : Nat, Lib.indexByte s.data.toList c = (o : Int) := ⟨(Lib.indexByte s.data.toList c).toNat, by omega⟩
    obtain ⟨h1, _⟩ := Lib.indexByte_some ho
    obtain ⟨h3, h4⟩ := (at_some s o c).1 h1
    exact absurd h4 (hn o h3)
set_option maxRecDepth 10000 in
theorem cut_yes (s : ByteArray) (c : UInt8) (k : Nat) (w : World) (hs : s.size ≤ 3000000) (hk : k < s.size) (h : sb s k = (c.toNat : Int)) (hn : ∀ j, j < k → sb s j ≠ (c.toNat : Int)) :
    Calls Tryd.prog 24 #[.string s, .string ⟨#[c]⟩] w fun e w' => e = .returned (.tuple #[.string (s.extract 0 k), .string (s.extract (k + 1) s.size), .bool true]) ∧ Dr w w' := by
  have cI : ∀ w, Calls Tryd.prog 22 #[.string s, .string ⟨#[c]⟩] w fun e w' => e = .returned (.int .i64 (k : Int)) ∧ w' = w := fun w => by
    have := Any.stringslite_Index_one layC.laid s c w
    rw [index_yes s c k hk h hn] at this
    exact this
  have hc1 : (⟨#[c]⟩ : ByteArray).size = 1 := rfl
  obtain ⟨d, hd⟩ : ∃ d, d = k + 1 := ⟨_, rfl⟩
  have hdz : (k : Int) + 1 = (d : Int) := by omega
  have hdw : IntKind.i64.wrap (d : Int) = (d : Int) := by rw [IntKind.wrap_i64]; omega
  have g1 : (k : Int) ≤ (s.size : Int) := by omega
  have g2 : (d : Int) ≤ (s.size : Int) := by omega
  have g3 : k ≤ s.size := by omega
  have g4 : d ≤ s.size := by omega
  rw [← hd]
  clear hn h hd
  have cC : ∀ w, Calls Tryd.prog 40 #[.string s, .string ⟨#[c]⟩] w fun e w' => e = .returned (.tuple #[.string (s.extract 0 k), .string (s.extract d s.size), .bool true]) ∧ Dr w w' := fun w => by
    go_enter Tryd.func40, Tryd.ntmps40
    go_wp2_with fail
    refine (cI _).mono ?_
    rintro e w1 ⟨rfl, rfl⟩
    go_wp2
    go_quiet (fail)
    go_wp2
    refine bodyPost_ret (v := .tuple #[.string (s.extract 0 k), .string (s.extract d s.size), .bool true]) ?_ rfl ⟨rfl, Dr.drewN _ (Dr.refl _)⟩
    simp [results, Tryd.f40, go_sem]
  go_enter Tryd.func24, Tryd.ntmps24
  go_wp2_with fail
  refine (cC _).mono ?_
  rintro e w1 ⟨rfl, hd1⟩
  go_wp2
  refine bodyPost_ret (v := .tuple #[.string (s.extract 0 k), .string (s.extract d s.size), .bool true]) ?_ rfl ⟨rfl, hd1⟩
  simp [results, Tryd.f24, go_sem]
set_option maxRecDepth 10000 in
theorem cut_no (s : ByteArray) (c : UInt8) (w : World) (hn : ∀ j, j < s.size → sb s j ≠ (c.toNat : Int)) :
    Calls Tryd.prog 24 #[.string s, .string ⟨#[c]⟩] w fun e w' => e = .returned (.tuple #[.string s, .string ⟨#[]⟩, .bool false]) ∧ Dr w w' := by
  have cI : ∀ w, Calls Tryd.prog 22 #[.string s, .string ⟨#[c]⟩] w fun e w' => e = .returned (.int .i64 (-1)) ∧ w' = w := fun w => by
    have := Any.stringslite_Index_one layC.laid s c w
    rw [index_no s c hn] at this
    exact this
  clear hn
  have cC : ∀ w, Calls Tryd.prog 40 #[.string s, .string ⟨#[c]⟩] w fun e w' => e = .returned (.tuple #[.string s, .string ⟨#[]⟩, .bool false]) ∧ Dr w w' := fun w => by
    go_enter Tryd.func40, Tryd.ntmps40
    go_wp2_with fail
    refine (cI _).mono ?_
    rintro e w1 ⟨rfl, rfl⟩
    go_wp2
    refine bodyPost_ret (v := .tuple #[.string s, .string ⟨#[]⟩, .bool false]) ?_ rfl ⟨rfl, Dr.refl _⟩
    simp [results, Tryd.f40, go_sem]
  go_enter Tryd.func24, Tryd.ntmps24
  go_wp2_with fail
  refine (cC _).mono ?_
  rintro e w1 ⟨rfl, hd1⟩
  go_wp2
  refine bodyPost_ret (v := .tuple #[.string s, .string ⟨#[]⟩, .bool false]) ?_ rfl ⟨rfl, hd1⟩
  simp [results, Tryd.f24, go_sem]
end Go.Proofs.YtmchpmfogjhpoabDoor.xl
