/- Which bytes some sign begins with, as the document has it. -/
import Derived.Test.YtaboemchkmmgeaaDoorRefT1
namespace Go.Proofs.YtaboemchkmmgeaaDoor.utf
set_option linter.unusedVariables false
open Go.ChangeShapes Go.WideShapes Go.ChangeAt Go.RowKit
open mem rows

/-- Some sign's bytes begin with (or are) these k. -/
def bgN (k b0 b1 b2 b3 : Nat) : Prop :=
  (b0 < 128 ∧ k = 1) ∨ (194 ≤ b0 ∧ b0 ≤ 244 ∧ (k = 1 ∨ (2 ≤ k ∧ lo b0 ≤ b1 ∧ b1 ≤ hi b0 ∧ (k = 2 ∨ (3 ≤ k ∧ 224 ≤ b0 ∧ 128 ≤ b2 ∧ b2 ≤ 191 ∧ (k = 3 ∨ (k = 4 ∧ 240 ≤ b0 ∧ 128 ≤ b3 ∧ b3 ≤ 191)))))))
/-- How many bytes a sign has that begins so. -/
def lenN (b0 : Nat) : Nat := if b0 < 128 then 1 else if b0 < 224 then 2 else if b0 < 240 then 3 else 4
/-- What is told of some bytes: whether a sign begins so, and which one they are. -/
def told (k b0 b1 b2 b3 : Nat) (sm : Bool) (r : Int) : Prop := (sm = true ↔ bgN k b0 b1 b2 b3) ∧ (sm = true → r = if k = lenN b0 then ((stN k b0 b1 b2 b3).1 : Int) else -1)
theorem told_no (k b0 b1 b2 b3 : Nat) (h : ¬ bgN k b0 b1 b2 b3) (r : Int) : told k b0 b1 b2 b3 false r := ⟨⟨fun e => Bool.noConfusion e, fun e => absurd e h⟩, fun e => Bool.noConfusion e⟩
theorem lohi (b0 : Nat) : 128 ≤ lo b0 ∧ hi b0 ≤ 191 := by
  unfold lo hi
  constructor
  · split
    · omega
    · split <;> omega
  · split
    · omega
    · split <;> omega
/-- What has been seen, of a sign of 2 bytes, behind k of them: it lies from l to h. -/
def seen2 (b0 b1 k : Nat) (l h : Int) : Prop :=
  (k = 1 ∧ l = max (((b0 : Int) - 192) * 64) 128 ∧ h = ((b0 : Int) - 192) * 64 + 64 - 1) ∨
  (k = 2 ∧ 128 ≤ b1 ∧ b1 ≤ 191 ∧ l = max ((((b0 : Int) - 192) * 64 + ((b1 : Int) - 128)) * 1) 128 ∧ h = (((b0 : Int) - 192) * 64 + ((b1 : Int) - 128)) * 1 + 1 - 1)
set_option maxHeartbeats 2000000 in
theorem tri2 (b0 b1 b2 b3 k : Nat) (l h : Int) (hS : seen2 b0 b1 k l h) (ha : 192 ≤ b0) (hb : b0 < 224) : ¬ (l ≤ h) ∨ sign l ∨ (55296 ≤ l ∧ h ≤ 57343) := by
  unfold seen2 at hS
  unfold sign
  rcases hS with hS | hS
  all_goals omega
set_option maxHeartbeats 2000000 in
theorem no2 (b0 b1 b2 b3 k : Nat) (l h : Int) (hS : seen2 b0 b1 k l h) (ha : 192 ≤ b0) (hb : b0 < 224) (hn : ¬ (l ≤ h) ∨ (55296 ≤ l ∧ h ≤ 57343)) : ¬ bgN k b0 b1 b2 b3 := by
  unfold seen2 at hS
  unfold bgN
  intro hB
  rcases (show (b0 = 192 ∧ lo b0 = 128 ∧ hi b0 = 191) ∨ (b0 = 193 ∧ lo b0 = 128 ∧ hi b0 = 191) ∨ (b0 ≠ 192 ∧ b0 ≠ 193 ∧ lo b0 = 128 ∧ hi b0 = 191) by unfold lo hi; split <;> (try split) <;> (try split) <;> (try split) <;> omega) with ⟨c1, c2, c3⟩ | ⟨c1, c2, c3⟩ | ⟨c1, c4, c2, c3⟩
  all_goals
    rw [c2, c3] at hB
    rcases hS with hS | hS
    all_goals omega
set_option maxHeartbeats 2000000 in
theorem yes2 (b0 b1 b2 b3 k : Nat) (l h : Int) (hS : seen2 b0 b1 k l h) (ha : 192 ≤ b0) (hb : b0 < 224) (hl : l ≤ h) (hn : sign l) : bgN k b0 b1 b2 b3 ∧ (k = 2 → ((stN k b0 b1 b2 b3).1 : Int) = l) := by
  unfold seen2 at hS
  unfold bgN sign at *
  rcases (show (b0 = 192 ∧ lo b0 = 128 ∧ hi b0 = 191) ∨ (b0 = 193 ∧ lo b0 = 128 ∧ hi b0 = 191) ∨ (b0 ≠ 192 ∧ b0 ≠ 193 ∧ lo b0 = 128 ∧ hi b0 = 191) by unfold lo hi; split <;> (try split) <;> (try split) <;> (try split) <;> omega) with ⟨c1, c2, c3⟩ | ⟨c1, c2, c3⟩ | ⟨c1, c4, c2, c3⟩
  all_goals
    rw [c2, c3]
    rcases hS with hS | hS
    all_goals (refine ⟨by omega, fun hk => ?_⟩)
    all_goals first | omega | skip
    all_goals (unfold stN; rw [c2, c3]; repeat' split)
    all_goals first | omega | (simp only; omega)
/-- What has been seen, of a sign of 3 bytes, behind k of them: it lies from l to h. -/
def seen3 (b0 b1 b2 k : Nat) (l h : Int) : Prop :=
  (k = 1 ∧ l = max (((b0 : Int) - 224) * 4096) 2048 ∧ h = ((b0 : Int) - 224) * 4096 + 4096 - 1) ∨
  (k = 2 ∧ 128 ≤ b1 ∧ b1 ≤ 191 ∧ l = max ((((b0 : Int) - 224) * 64 + ((b1 : Int) - 128)) * 64) 2048 ∧ h = (((b0 : Int) - 224) * 64 + ((b1 : Int) - 128)) * 64 + 64 - 1) ∨
  (k = 3 ∧ 128 ≤ b1 ∧ b1 ≤ 191 ∧ 128 ≤ b2 ∧ b2 ≤ 191 ∧ l = max (((((b0 : Int) - 224) * 64 + ((b1 : Int) - 128)) * 64 + ((b2 : Int) - 128)) * 1) 2048 ∧ h = ((((b0 : Int) - 224) * 64 + ((b1 : Int) - 128)) * 64 + ((b2 : Int) - 128)) * 1 + 1 - 1)
set_option maxHeartbeats 2000000 in
theorem tri3 (b0 b1 b2 b3 k : Nat) (l h : Int) (hS : seen3 b0 b1 b2 k l h) (ha : 224 ≤ b0) (hb : b0 < 240) : ¬ (l ≤ h) ∨ sign l ∨ (55296 ≤ l ∧ h ≤ 57343) := by
  unfold seen3 at hS
  unfold sign
  rcases hS with hS | hS | hS
  all_goals omega
set_option maxHeartbeats 2000000 in
theorem no3 (b0 b1 b2 b3 k : Nat) (l h : Int) (hS : seen3 b0 b1 b2 k l h) (ha : 224 ≤ b0) (hb : b0 < 240) (hn : ¬ (l ≤ h) ∨ (55296 ≤ l ∧ h ≤ 57343)) : ¬ bgN k b0 b1 b2 b3 := by
  unfold seen3 at hS
  unfold bgN
  intro hB
  rcases (show (b0 = 224 ∧ lo b0 = 160 ∧ hi b0 = 191) ∨ (b0 = 237 ∧ lo b0 = 128 ∧ hi b0 = 159) ∨ (b0 ≠ 224 ∧ b0 ≠ 237 ∧ lo b0 = 128 ∧ hi b0 = 191) by unfold lo hi; split <;> (try split) <;> (try split) <;> (try split) <;> omega) with ⟨c1, c2, c3⟩ | ⟨c1, c2, c3⟩ | ⟨c1, c4, c2, c3⟩
  all_goals
    rw [c2, c3] at hB
    rcases hS with hS | hS | hS
    all_goals omega
set_option maxHeartbeats 2000000 in
theorem yes3 (b0 b1 b2 b3 k : Nat) (l h : Int) (hS : seen3 b0 b1 b2 k l h) (ha : 224 ≤ b0) (hb : b0 < 240) (hl : l ≤ h) (hn : sign l) : bgN k b0 b1 b2 b3 ∧ (k = 3 → ((stN k b0 b1 b2 b3).1 : Int) = l) := by
  unfold seen3 at hS
  unfold bgN sign at *
  rcases (show (b0 = 224 ∧ lo b0 = 160 ∧ hi b0 = 191) ∨ (b0 = 237 ∧ lo b0 = 128 ∧ hi b0 = 159) ∨ (b0 ≠ 224 ∧ b0 ≠ 237 ∧ lo b0 = 128 ∧ hi b0 = 191) by unfold lo hi; split <;> (try split) <;> (try split) <;> (try split) <;> omega) with ⟨c1, c2, c3⟩ | ⟨c1, c2, c3⟩ | ⟨c1, c4, c2, c3⟩
  all_goals
    rw [c2, c3]
    rcases hS with hS | hS | hS
    all_goals (refine ⟨by omega, fun hk => ?_⟩)
    all_goals first | omega | skip
    all_goals (unfold stN; rw [c2, c3]; repeat' split)
    all_goals first | omega | (simp only; omega)
/-- What has been seen, of a sign of 4 bytes, behind k of them: it lies from l to h. -/
def seen4 (b0 b1 b2 b3 k : Nat) (l h : Int) : Prop :=
  (k = 1 ∧ l = max (((b0 : Int) - 240) * 262144) 65536 ∧ h = min (((b0 : Int) - 240) * 262144 + 262144 - 1) 1114111) ∨
  (k = 2 ∧ 128 ≤ b1 ∧ b1 ≤ 191 ∧ l = max ((((b0 : Int) - 240) * 64 + ((b1 : Int) - 128)) * 4096) 65536 ∧ h = min ((((b0 : Int) - 240) * 64 + ((b1 : Int) - 128)) * 4096 + 4096 - 1) 1114111) ∨
  (k = 3 ∧ 128 ≤ b1 ∧ b1 ≤ 191 ∧ 128 ≤ b2 ∧ b2 ≤ 191 ∧ l = max (((((b0 : Int) - 240) * 64 + ((b1 : Int) - 128)) * 64 + ((b2 : Int) - 128)) * 64) 65536 ∧ h = min (((((b0 : Int) - 240) * 64 + ((b1 : Int) - 128)) * 64 + ((b2 : Int) - 128)) * 64 + 64 - 1) 1114111) ∨
  (k = 4 ∧ 128 ≤ b1 ∧ b1 ≤ 191 ∧ 128 ≤ b2 ∧ b2 ≤ 191 ∧ 128 ≤ b3 ∧ b3 ≤ 191 ∧ l = max ((((((b0 : Int) - 240) * 64 + ((b1 : Int) - 128)) * 64 + ((b2 : Int) - 128)) * 64 + ((b3 : Int) - 128)) * 1) 65536 ∧ h = min ((((((b0 : Int) - 240) * 64 + ((b1 : Int) - 128)) * 64 + ((b2 : Int) - 128)) * 64 + ((b3 : Int) - 128)) * 1 + 1 - 1) 1114111)
set_option maxHeartbeats 2000000 in
theorem tri4 (b0 b1 b2 b3 k : Nat) (l h : Int) (hS : seen4 b0 b1 b2 b3 k l h) (ha : 240 ≤ b0) (hb : b0 < 256) : ¬ (l ≤ h) ∨ sign l ∨ (55296 ≤ l ∧ h ≤ 57343) := by
  unfold seen4 at hS
  unfold sign
  rcases hS with hS | hS | hS | hS
  all_goals omega
set_option maxHeartbeats 2000000 in
theorem no4 (b0 b1 b2 b3 k : Nat) (l h : Int) (hS : seen4 b0 b1 b2 b3 k l h) (ha : 240 ≤ b0) (hb : b0 < 256) (hn : ¬ (l ≤ h) ∨ (55296 ≤ l ∧ h ≤ 57343)) : ¬ bgN k b0 b1 b2 b3 := by
  unfold seen4 at hS
  unfold bgN
  intro hB
  rcases (show (b0 = 240 ∧ lo b0 = 144 ∧ hi b0 = 191) ∨ (b0 = 244 ∧ lo b0 = 128 ∧ hi b0 = 143) ∨ (b0 ≠ 240 ∧ b0 ≠ 244 ∧ lo b0 = 128 ∧ hi b0 = 191) by unfold lo hi; split <;> (try split) <;> (try split) <;> (try split) <;> omega) with ⟨c1, c2, c3⟩ | ⟨c1, c2, c3⟩ | ⟨c1, c4, c2, c3⟩
  all_goals
    rw [c2, c3] at hB
    rcases hS with hS | hS | hS | hS
    all_goals omega
set_option maxHeartbeats 2000000 in
theorem yes4 (b0 b1 b2 b3 k : Nat) (l h : Int) (hS : seen4 b0 b1 b2 b3 k l h) (ha : 240 ≤ b0) (hb : b0 < 256) (hl : l ≤ h) (hn : sign l) : bgN k b0 b1 b2 b3 ∧ (k = 4 → ((stN k b0 b1 b2 b3).1 : Int) = l) := by
  unfold seen4 at hS
  unfold bgN sign at *
  rcases (show (b0 = 240 ∧ lo b0 = 144 ∧ hi b0 = 191) ∨ (b0 = 244 ∧ lo b0 = 128 ∧ hi b0 = 143) ∨ (b0 ≠ 240 ∧ b0 ≠ 244 ∧ lo b0 = 128 ∧ hi b0 = 191) by unfold lo hi; split <;> (try split) <;> (try split) <;> (try split) <;> omega) with ⟨c1, c2, c3⟩ | ⟨c1, c2, c3⟩ | ⟨c1, c4, c2, c3⟩
  all_goals
    rw [c2, c3]
    rcases hS with hS | hS | hS | hS
    all_goals (refine ⟨by omega, fun hk => ?_⟩)
    all_goals first | omega | skip
    all_goals (unfold stN; rw [c2, c3]; repeat' split)
    all_goals first | omega | (simp only; omega)
/-- What begins answers. -/
def begAns (k b0 b1 b2 b3 : Nat) (w : World) (e : Ending) (w' : World) : Prop := ∃ sm r, e = .returned (.tuple #[.bool sm, .int .i64 r]) ∧ told k b0 b1 b2 b3 sm r ∧ Bl w w'
theorem pow2_0 (w : World) : Calls Tryd.prog 43 #[.int .i64 0] w fun e w' => e = .returned (.int .u64 1) ∧ w' = w := pow2_at 0 1 (by omega) (by decide) w
theorem pow2_6 (w : World) : Calls Tryd.prog 43 #[.int .i64 6] w fun e w' => e = .returned (.int .u64 64) ∧ w' = w := pow2_at 6 64 (by omega) (by decide) w
theorem pow2_12 (w : World) : Calls Tryd.prog 43 #[.int .i64 12] w fun e w' => e = .returned (.int .u64 4096) ∧ w' = w := pow2_at 12 4096 (by omega) (by decide) w
end Go.Proofs.YtaboemchkmmgeaaDoor.utf
