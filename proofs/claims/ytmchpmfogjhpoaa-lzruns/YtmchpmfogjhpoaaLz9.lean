/- What is told of a text is bytes, and tells the text; a fact. -/
import Derived.Test.YtmchpmfogjhpoaaLz5
import Derived.Test.YtmchpmfogjhpoaaLz8
namespace Go.Proofs.Ytmchpmfogjhpoaa.lz
set_option linter.unusedVariables false
open Go.ChangeShapes Go.WideShapes Go.ChangeAt Go.RowKit
open mem rows

theorem told_bd (g : Nat → Int) (hg : ∀ i, 0 ≤ g i ∧ g i < 256) (a b : Nat) : ∀ z ∈ told g a b, 0 ≤ z ∧ z < 256 := by
  generalize hm : b - a = m
  induction m using Nat.strongRecOn generalizing a with
  | _ m ih =>
    rw [told]
    by_cases h : a < b
    · rw [dif_pos h]
      intro z hz
      rcases List.mem_cons.1 hz with rfl | hz
      · omega
      · rcases List.mem_append.1 hz with hz | hz
        · obtain ⟨i, _, rfl⟩ := List.mem_map.1 hz
          exact hg _
        · exact ih (b - (a + min (b - a) 128)) (by omega) (a + min (b - a) 128) rfl z hz
    · rw [dif_neg h]
      intro z hz
      cases hz
theorem pkT_bd (g : Nat → Int) (hg : ∀ i, 0 ≤ g i ∧ g i < 256) (n a fr : Nat) (h2 : a ≤ n) : ∀ z ∈ pkT g n a fr, 0 ≤ z ∧ z < 256 := by
  generalize hm : n - a = m
  induction m using Nat.strongRecOn generalizing a fr with
  | _ m ih =>
    rw [pkT]
    by_cases h : a < n
    · rw [dif_pos h]
      by_cases h3 : (ag g n a).2 = 0
      · rw [dif_pos h3]
        exact ih (n - (a + 1)) (by omega) (a + 1) fr (by omega) rfl
      · rw [dif_neg h3]
        rcases ag_spec g n a h2 with ⟨h4, _⟩ | ⟨k1, k2, k3, k4, k5, k6, k7, k8⟩
        · rw [h4] at h3; exact absurd rfl h3
        · intro z hz
          rcases List.mem_append.1 hz with hz | hz
          · exact told_bd g hg fr a z hz
          · rcases List.mem_append.1 hz with hz | hz
            · simp only [List.mem_cons, List.not_mem_nil, or_false] at hz
              omega
            · exact ih (n - (a + (ag g n a).2)) (by omega) (a + (ag g n a).2) (a + (ag g n a).2) k6 rfl z hz
    · rw [dif_neg h]
      exact told_bd g hg fr n
theorem packL_bs (s : ByteArray) : bs (strOfNums (packL s)) = packL s := bs_str (pkT_bd (sb s) (fun i => sb_bd s i) s.size 0 0 (Nat.zero_le _))
theorem packL_size (s : ByteArray) : (strOfNums (packL s)).size = (packL s).length := by rw [← bs_len, packL_bs]
theorem hd_all (s : ByteArray) : strOfNums (hd (sb s) s.size) = s := by
  have e : hd (sb s) s.size = bs s := (bs_all s).symm
  rw [e, str_bs]
theorem back_is (s : ByteArray) (hs : s.size ≤ 4000) : unAns (strOfNums (packL s)) = .tuple #[.string s, .nilIface] := by
  have h := un_pk (sb s) s.size 0 0 (Nat.le_refl _) (Nat.zero_le _) hs
  have e : un (bs (strOfNums (packL s))) [] = (hd (sb s) s.size, 0) := by rw [packL_bs]; exact h
  unfold unAns
  rw [e, if_pos rfl, hd_all]
/-- The fact's texts. -/
def abc : ByteArray := ⟨#[97, 98, 99, 97, 98, 99, 97, 98, 99, 120]⟩
theorem told_one (g : Nat → Int) (a b : Nat) (h : a < b) (h2 : b ≤ a + 128) : told g a b = (((b - a : Nat) : Int) - 1) :: ((List.range (b - a)).map fun i => g (a + i)) := by
  rw [told, dif_pos h, show min (b - a) 128 = b - a by omega, show a + (b - a) = b by omega, told_none, List.append_nil]
theorem abc_pack : packL abc = [2, 97, 98, 99, 131, 0, 3, 0, 120] := by
  have h0 : ag (sb abc) abc.size 0 = (0, 0) := by decide +kernel
  have h1 : ag (sb abc) abc.size 1 = (0, 0) := by decide +kernel
  have h2 : ag (sb abc) abc.size 2 = (0, 0) := by decide +kernel
  have h3 : ag (sb abc) abc.size 3 = (3, 6) := by decide +kernel
  have h9 : ag (sb abc) abc.size 9 = (0, 0) := by decide +kernel
  have hz : abc.size = 10 := by decide +kernel
  have e9 : pkT (sb abc) abc.size 9 9 = told (sb abc) 9 10 := by
    rw [pkT_plain (by rw [hz]; omega) (by rw [h9])]
    have := pkT_end (g := sb abc) (n := abc.size) (fr := 9)
    rw [hz] at this ⊢
    exact this
  have e3 : pkT (sb abc) abc.size 3 0 = told (sb abc) 0 3 ++ ([131, 0, 3] ++ pkT (sb abc) abc.size 9 9) := by
    rw [pkT_match (by rw [hz]; omega) (by rw [h3]; decide), h3]
    rfl
  unfold packL
  rw [pkT_plain (by rw [hz]; omega) (by rw [h0]), pkT_plain (by rw [hz]; omega) (by rw [h1]), pkT_plain (by rw [hz]; omega) (by rw [h2])]
  show pkT (sb abc) abc.size 3 0 = _
  rw [e3, e9, told_one _ 0 3 (by omega) (by omega), told_one _ 9 10 (by omega) (by omega)]
  decide +kernel
theorem aaa_un : un [0, 97, 132, 0, 1] [] = ([97, 97, 97, 97, 97, 97, 97, 97], 0) := by
  rw [un, dif_neg (by decide), if_pos (by decide), if_neg (by decide), if_neg (by decide)]
  show un [132, 0, 1] [97] = _
  rw [un, dif_neg (by decide), if_neg (by decide), if_neg (by decide), if_neg (by decide), if_neg (by decide)]
  show un [] (cp [97] 1 7) = _
  rw [un, dif_pos List.length_nil]
  rfl
theorem packed_at (w : World) : Calls Try.prog 6 #[] w fun e w' => e = .returned (.bool true) ∧ Bl w w' := by
  have c1 := fun w => Pack_at abc w (by decide +kernel)
  have e1 : strOfNums (packL abc) = ⟨#[2, 97, 98, 99, 131, 0, 3, 0, 120]⟩ := by rw [abc_pack]; rfl
  rw [e1] at c1
  have c2 := fun w => Unpack_at ⟨#[0, 97, 132, 0, 1]⟩ w (by decide)
  have e2 : unAns ⟨#[0, 97, 132, 0, 1]⟩ = .tuple #[.string ⟨#[97, 97, 97, 97, 97, 97, 97, 97]⟩, .nilIface] := by
    have e3 : un (bs ⟨#[0, 97, 132, 0, 1]⟩) [] = ([97, 97, 97, 97, 97, 97, 97, 97], 0) := aaa_un
    unfold unAns
    rw [e3, if_pos rfl]
    rfl
  rw [e2] at c2
  unfold abc at c1
  go_enter Try.func6, Try.ntmps6
  go_wp2_with fail
  refine (c1 _).mono ?_
  rintro e w1 ⟨rfl, hb1⟩
  go_wp2_with fail
  refine (c2 _).mono ?_
  rintro e w2 ⟨rfl, hb2⟩
  clear c1 c2 e1 e2
  go_wp2
  go_ret
  exact ⟨rfl, hb1.trans hb2⟩
end Go.Proofs.Ytmchpmfogjhpoaa.lz
