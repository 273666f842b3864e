/- The document's own: the pattern of half bytes that a text is, and where one stands. -/
import Derived.Test.YtehmjffbfgnijaaDoorFd5
import Derived.Test.YtehmjffbfgnijaaDoorFd6
namespace Go.Proofs.YtehmjffbfgnijaaDoor.find
set_option linter.unusedVariables false
open Go.ChangeShapes Go.WideShapes Go.ChangeAt Go.RowKit
open mem rows fd

/-- What a sign is, ? being 16, or -1. -/
def d17 (c : Int) : Int := Lib.indexByte [48, 49, 50, 51, 52, 53, 54, 55, 56, 57, 97, 98, 99, 100, 101, 102, 63] c.toNat.toUInt8
theorem d17_is (c : Int) (h0 : 0 ≤ c) (h1 : c < 256) : (c = 63 → d17 c = 16) ∧ (c ≠ 63 → d17 c = dg c) ∧ -1 ≤ dg c ∧ dg c ≤ 15 := by
  have key : ∀ n : Fin 256, (((n.1 : Nat) : Int) = 63 → d17 ((n.1 : Nat) : Int) = 16) ∧ (((n.1 : Nat) : Int) ≠ 63 → d17 ((n.1 : Nat) : Int) = dg ((n.1 : Nat) : Int)) ∧ -1 ≤ dg ((n.1 : Nat) : Int) ∧ dg ((n.1 : Nat) : Int) ≤ 15 := by decide +kernel
  obtain ⟨n, rfl⟩ := Int.eq_ofNat_of_zero_le h0
  exact key ⟨n, by omega⟩
/-- What the document's own answers. -/
def rdRef (e : Ending) (w' : World) (base : Nat) : Option (List Int) → Prop
  | some m => ∃ v, e = .returned (.tuple #[v, .int .i64 0]) ∧ Own w' base v m
  | none => e = .returned (.tuple #[.slice none 0 0, .int .i64 3])
set_option maxRecDepth 10000 in
set_option maxHeartbeats 1000000 in
theorem refRead_at (s : ByteArray) (w : World) (hs : s.size ≤ 4000) :
    Calls Tryd.prog 15 #[.string s] w fun e w' => rdRef e w' w.heap.size (rd (sb s) s.size 0 []) ∧ Bl w w' := by
  obtain ⟨B, hB⟩ : ∃ B, B = w.heap.size := ⟨_, rfl⟩
  rw [← hB]
  have HB : Hid (B = w.heap.size) := hB
  clear hB
  go_enter Tryd.func15, Tryd.ntmps15
  go_wp2
  go_loopw [4, 9] (fun mv i wr => ∃ (k : Nat) (M : List Int), k ≤ s.size ∧ M.length ≤ k ∧ i = .int .i64 (k : Int) ∧ Hid (rd (sb s) (s.size - k) k M = rd (sb s) s.size 0 []) ∧ Own wr B mv M ∧ Bl w wr) (fun _ i _ => s.size - (intOf i).toNat)
  case atStart => exact ⟨0, [], Nat.zero_le _, Nat.le_refl _, rfl, rfl, Own.nil _ _, Bl.refl _⟩
  case round =>
    obtain ⟨k, M, hk, hMk, rfl, HR, hown, hbl⟩ := hrel
    obtain ⟨q, cp, hve, -⟩ := view_own hown
    obtain ⟨L, hL⟩ : ∃ L, L = M.length := ⟨_, rfl⟩
    rw [← hL] at hve hMk
    have HL : Hid (L = M.length) := hL
    subst hve
    have hmod : (L : Int).tmod 2 = ((L % 2 : Nat) : Int) := by rw [Int.tmod_eq_emod_of_nonneg (by omega)]; omega
    have hm2 : L % 2 < 2 := Nat.mod_lt _ (by decide)
    by_cases hlt : k < s.size
    · have hlz : (k : Int) < (s.size : Int) := by omega
      have hgk : (((s[k]'hlt).toNat : Nat) : Int) = sb s k := (sb_get s k hlt).symm
      have hbd := sb_bd s k
      obtain ⟨r, hr⟩ : ∃ r, s.size - k = r + 1 := ⟨s.size - k - 1, by omega⟩
      rw [hr] at HR
      have hr' : s.size - (k + 1) = r := by omega
      have HS : Hid (s.size - (k + 1) = r) := hr'
      clear hr hr' hL
      obtain ⟨c, hc⟩ : ∃ c, c = sb s k := ⟨_, rfl⟩
      have HC : Hid (c = sb s k) := hc
      rw [← hc] at hgk hbd
      clear hc
      obtain ⟨x1, x2, x3, x4⟩ := d17_is c hbd.1 hbd.2
      have cI := fun w => idx_at ⟨#[48, 49, 50, 51, 52, 53, 54, 55, 56, 57, 97, 98, 99, 100, 101, 102, 63]⟩ c w
      have e0 : Lib.indexByte (ByteArray.mk #[48, 49, 50, 51, 52, 53, 54, 55, 56, 57, 97, 98, 99, 100, 101, 102, 63]).data.toList c.toNat.toUInt8 = d17 c := rfl
      simp only [e0] at cI
      clear e0
      by_cases h63 : c = 63
      · rw [x1 h63] at cI
        have HN : Hid _ := rd_any (sb s) r k M (by rw [← HC.out]; exact h63)
        clear h63 x1 x2 x3 x4
        go_wp2_with (first
          | (go_at_call 26; refine (cI _).mono ?_; rintro e w2 ⟨rfl, rfl⟩)
          | (at_builtin; refine wpL_app rfl (.tmp 19) (.tmp 20) rfl rfl _ _ (-1) w2.heap.size rfl rfl B (hown.step ((Bl.refl _).alloc _)) (by go_simp) (by rw [← HL.out]; omega) (by have := hbl.size; have := HB.out; simp; omega) ?_; intro v' w3 ho3 hg3 hv3; have hb3 : Bl w w3 := bl_grown (hbl.alloc _) hg3 (fun j e => by rw [← HB.out]; exact (hown.block j e).1); clear hg3 hv3))
        go_roundw
        case rel => exact ⟨k + 1, M ++ [-1], by omega, by rw [List.length_append, ← HL.out]; simp; omega, by go_num, by rw [HS.out, ← HN.out]; exact HR, ho3, hb3⟩
        case measure => simp [intOf]; omega
      · rw [x2 h63] at cI
        by_cases hdg : 0 ≤ dg c
        · have h32 : c ≠ 32 := by rintro rfl; revert hdg; decide
          have HN : Hid _ := rd_half (sb s) r k M (by rw [← HC.out]; omega) (by rw [← HC.out]; exact h63) (by rw [← HC.out]; exact hdg)
          rw [← HC.out] at HN
          have d16 : (dg c == 16) = false := by rw [beq_eq_false_iff_ne]; omega
          generalize dg c = d at cI hdg HN d16
          clear h63 h32 x1 x2 x3 x4
          go_wp2_with (first
            | (go_at_call 26; refine (cI _).mono ?_; rintro e w2 ⟨rfl, rfl⟩)
            | (at_builtin; refine wpL_app rfl (.tmp 25) (.tmp 27) rfl rfl _ _ d w2.heap.size rfl rfl B (hown.step ((Bl.refl _).alloc _)) (by go_simp) (by rw [← HL.out]; omega) (by have := hbl.size; have := HB.out; simp; omega) ?_; intro v' w3 ho3 hg3 hv3; have hb3 : Bl w w3 := bl_grown (hbl.alloc _) hg3 (fun j e => by rw [← HB.out]; exact (hown.block j e).1); clear hg3 hv3))
          go_roundw
          case rel => exact ⟨k + 1, M ++ [d], by omega, by rw [List.length_append, ← HL.out]; simp; omega, by go_num, by rw [HS.out, ← HN.out]; exact HR, ho3, hb3⟩
          case measure => simp [intOf]; omega
        · have hdm : dg c = -1 := by omega
          have d16 : (dg c == 16) = false := by rw [beq_eq_false_iff_ne]; omega
          by_cases h32 : c = 32 ∧ L % 2 = 0
          · have HN : Hid _ := rd_blank (sb s) r k M (by rw [← HC.out]; exact h32.1) (by rw [← HL.out]; exact h32.2)
            have dn : (c != 32) = false := by rw [h32.1]; rfl
            rw [h32.2] at hmod
            generalize dg c = d at cI hdg d16
            clear h63 h32 x1 x2 x3 x4 hdm
            go_wp2_with (go_at_call 26; refine (cI _).mono ?_; rintro e w2 ⟨rfl, rfl⟩)
            go_roundw
            case rel => exact ⟨k + 1, M, by omega, by rw [← HL.out]; omega, by go_num, by rw [HS.out, ← HN.out]; exact HR, hown, hbl⟩
            case measure => simp [intOf]; omega
          · have HN : Hid (rd (sb s) (r + 1) k M = none) := rd_bad (sb s) r k M (by rw [← HC.out, ← HL.out]; exact h32) (by rw [← HC.out]; exact h63) (by rw [← HC.out]; exact hdg)
            generalize dg c = d at cI hdg d16
            by_cases hc32 : c = 32
            · have dn : (c != 32) = false := by rw [hc32]; rfl
              have ho : L % 2 = 1 := by omega
              rw [ho] at hmod
              clear h63 h32 x1 x2 x3 x4 hdm hc32
              go_wp2_with (go_at_call 26; refine (cI _).mono ?_; rintro e w2 ⟨rfl, rfl⟩)
              go_ret2
              exact ⟨by rw [← HR.out, HN.out]; rfl, hbl⟩
            · have dn : (c != 32) = true := by rw [bne_iff_ne]; exact hc32
              clear h63 h32 x1 x2 x3 x4 hdm hc32
              go_wp2_with (go_at_call 26; refine (cI _).mono ?_; rintro e w2 ⟨rfl, rfl⟩)
              go_ret2
              exact ⟨by rw [← HR.out, HN.out]; rfl, hbl⟩
    · have hnl : ¬ ((k : Int) < (s.size : Int)) := by omega
      have hz : s.size - k = 0 := by omega
      rw [hz] at HR
      have HM : Hid ((if M.length = 0 ∨ M.length % 2 = 1 then none else some M) = rd (sb s) s.size 0 []) := HR
      clear HR hz hL
      by_cases h0 : L = 0
      · have HN : Hid (none = rd (sb s) s.size 0 []) := by
          have h := HM.out
          rwa [if_pos (by rw [← HL.out]; exact Or.inl h0)] at h
        have d0 : ((L : Int) == 0) = true := by rw [beq_iff_eq]; omega
        clear h0
        go_wp2
        go_ret2
        exact ⟨by rw [← HN.out]; rfl, hbl⟩
      · have d0 : ((L : Int) == 0) = false := by rw [beq_eq_false_iff_ne]; omega
        by_cases hev : L % 2 = 0
        · have HN : Hid (some M = rd (sb s) s.size 0 []) := by
            have h := HM.out
            rwa [if_neg (by rw [← HL.out]; omega)] at h
          rw [hev] at hmod
          clear h0 hev
          go_wp2
          go_ret2
          exact ⟨by rw [← HN.out]; exact ⟨_, rfl, hown⟩, hbl⟩
        · have HN : Hid (none = rd (sb s) s.size 0 []) := by
            have h := HM.out
            rwa [if_pos (by rw [← HL.out]; omega)] at h
          have ho : L % 2 = 1 := by omega
          rw [ho] at hmod
          clear h0 hev
          go_wp2
          go_ret2
          exact ⟨by rw [← HN.out]; rfl, hbl⟩
end Go.Proofs.YtehmjffbfgnijaaDoor.find
