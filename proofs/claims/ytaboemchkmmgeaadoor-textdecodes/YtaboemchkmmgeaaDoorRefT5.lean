/- What TextDecode, of the document's own, answers: the very signs that package text's Decode answers. -/
import Derived.Test.YtaboemchkmmgeaaDoorRefT4
namespace Go.Proofs.YtaboemchkmmgeaaDoor.utf
set_option linter.unusedVariables false
open Go.ChangeShapes Go.WideShapes Go.ChangeAt Go.RowKit
open mem rows

theorem begins_no (s : ByteArray) (k : Nat) (w : World) (h1 : 1 ≤ k) (hk : k ≤ s.size) (hs : s.size ≤ 1000) (h : ¬ bgN k (nb s 0) (nb s 1) (nb s 2) (nb s 3)) :
    Calls Tryd.prog 24 #[.string (s.extract 0 k)] w fun e w' => ∃ r : Int, e = .returned (.tuple #[.bool false, .int .i64 r]) ∧ Bl w w' := by
  refine (begins_at (s.extract 0 k) w (by rw [ByteArray.size_extract]; omega) (by rw [ByteArray.size_extract]; omega)).mono ?_
  rintro e w' ⟨sm, r, rfl, ht, hb⟩
  have ht := bgN_cut s k h1 hk sm r ht
  cases sm with
  | false => exact ⟨r, rfl, hb⟩
  | true => exact absurd (ht.1.1 rfl) h
theorem begins_yes (s : ByteArray) (k : Nat) (w : World) (h1 : 1 ≤ k) (hk : k ≤ s.size) (hs : s.size ≤ 1000) (h : bgN k (nb s 0) (nb s 1) (nb s 2) (nb s 3)) (r : Int) (hr : r = if k = lenN (nb s 0) then ((stN k (nb s 0) (nb s 1) (nb s 2) (nb s 3)).1 : Int) else -1) :
    Calls Tryd.prog 24 #[.string (s.extract 0 k)] w fun e w' => e = .returned (.tuple #[.bool true, .int .i64 r]) ∧ Bl w w' := by
  refine (begins_at (s.extract 0 k) w (by rw [ByteArray.size_extract]; omega) (by rw [ByteArray.size_extract]; omega)).mono ?_
  rintro e w' ⟨sm, r', rfl, ht, hb⟩
  have ht := bgN_cut s k h1 hk sm r' ht
  have hsm := ht.1.2 h
  subst hsm
  exact ⟨by rw [ht.2 rfl, hr], hb⟩
set_option maxRecDepth 100000 in
set_option maxHeartbeats 2000000 in
theorem refDecode_at (s : ByteArray) (w : World) (hs : s.size ≤ 1000) :
    Calls Tryd.prog 8 #[.string s] w fun e w' => ∃ v1 v2, e = .returned (.tuple #[v1, v2]) ∧ Own2 w' w.heap.size v1 (sg (D s.size s)) v2 (sz (D s.size s)) ∧ Bl w w' := by
  obtain ⟨base, hbase⟩ : ∃ b, b = w.heap.size := ⟨_, rfl⟩
  rw [← hbase]
  have HB : Hid (base = w.heap.size) := hbase
  clear hbase
  go_enter Tryd.func8, Tryd.ntmps8
  go_wp2
  go_loopw [0, 2, 3] (fun sv v1 v2 wr => ∃ (t : ByteArray) (L : List (Nat × Nat)) (f : Nat), sv = .string t ∧ t.size ≤ f ∧ L.length + f = s.size ∧ Hid (L ++ D f t = D s.size s) ∧ Own2 wr base v1 (sg L) v2 (sz L) ∧ Bl w wr) (fun sv _ _ _ => strLen sv)
  case atStart => exact ⟨s, [], s.size, rfl, Nat.le_refl _, by simp, rfl, own2_nil _ _ (by rw [HB.out]; exact Nat.le_refl _), Bl.refl _⟩
  case round =>
    obtain ⟨t, L, f, rfl, htf, hLf, HA, hown, hbl⟩ := hrel
    by_cases ht : 1 ≤ t.size
    · have hz : (0 : Int) < (t.size : Int) := by omega
      have hzn : 0 < t.size := by omega
      have hsb := st_bd t ht
      obtain ⟨f', hf'⟩ : ∃ f', f = f' + 1 := ⟨f - 1, by omega⟩
      have HE0 : Hid ((L ++ [st t]) ++ D f' (t.extract (st t).2 t.size) = D s.size s) := by
        have := HA.out
        rw [hf', D_some f' t ht] at this
        simpa [Hid] using this
      clear HA
      go_wp2
      rename Own2 _ base _ (sg L) _ (sz L) => hown
      go_loopw [4, 5, 6] (fun nv iv kv wx => ∃ m : Nat, nv = .int .i64 (m : Int) ∧ iv = .int .i64 (-1) ∧ kv = .int .i64 ((m + 1 : Nat) : Int) ∧ m ≤ t.size ∧ Hid (yet t.size (nb t 0) (nb t 1) (nb t 2) (nb t 3) (m + 1)) ∧ Own2 wx base _ (sg L) _ (sz L) ∧ Bl w wx) (fun _ _ kv _ => t.size + 1 - (intOf kv).toNat)
      case atStart => exact ⟨0, rfl, rfl, rfl, Nat.zero_le _, ⟨by omega, fun j h1 h2 => by omega⟩, hown, hbl⟩
      case round =>
        clear hown hbl
        obtain ⟨m, rfl, rfl, rfl, hm, HY, hown, hbl⟩ := hrel
        by_cases hmt : m = t.size
        · have hst : st t = (65533, max m 1) := st_stop t.size (nb t 0) (nb t 1) (nb t 2) (nb t 3) (m + 1) ht (nb_lt t 0) (by omega) HY.out (Or.inl (by omega))
          obtain ⟨K, hK⟩ : ∃ K, K = max m 1 := ⟨_, rfl⟩
          rw [← hK] at hst
          have HRK : Hid (st t = (65533, K)) := hst
          rw [hst] at hsb HE0
          simp only at hsb HE0
          have HE : Hid ((L ++ [st t]) ++ D f' (t.extract K t.size) = D s.size s) := by rw [hst]; exact HE0
          have hmx : max (m : Int) 1 = (K : Int) := by omega
          have hKz : (K : Int) ≤ (t.size : Int) := by omega
          clear hst HE0 hK HY
          have hlz : ¬ ((m : Int) + 1 ≤ (t.size : Int)) := by omega
          clear hmt
          go_wp2_with (first
            | (at_builtin; refine wpL_app rfl (.tmp 35) (.tmp 37) rfl rfl _ _ 65533 wr.heap.size rfl rfl _ (hown.alloc _).a (by go_simp) (by rw [sg_len]; omega) (hown.alloc _).le ?_; intro v1' w3 hw3 hg3 hv3; have ho3 := (hown.alloc _).first hw3 hg3 hv3; have hb3 : Bl w w3 := bl_grown (hbl.alloc _) hg3 (fun k e => by rw [← HB.out]; exact (hown.a.block k e).1); clear hw3 hg3 hv3)
            | (at_builtin; refine wpL_app rfl (.tmp 39) (.tmp 41) rfl rfl _ _ (K : Int) w3.heap.size rfl rfl _ (ho3.alloc _).b (by go_simp) (by rw [sz_len]; omega) (ho3.alloc _).le ?_; intro v2' w4 hw4 hg4 hv4; have ho4 := (ho3.alloc _).second hw4 hg4 hv4; have hb4 : Bl w w4 := bl_grown (hb3.alloc _) hg4 (fun k e => by rw [← HB.out]; exact (ho3.b.block k e).1); clear hw4 hg4 hv4))
          go_roundw
          case rel => exact ⟨_, L ++ [st t], f', rfl, by rw [ByteArray.size_extract]; omega, by rw [List.length_append]; simp; omega, HE, by rw [sg_snoc, sz_snoc, HRK.out]; exact ho4, hb4⟩
          case measure => simp only [strLen, ByteArray.size_extract]; omega
        · have hlt : m < t.size := by omega
          have hlz : ((m : Nat) : Int) + 1 ≤ (t.size : Int) := by omega
          by_cases hB : bgN (m + 1) (nb t 0) (nb t 1) (nb t 2) (nb t 3)
          · by_cases hL : m + 1 = lenN (nb t 0)
            · obtain ⟨hst, hk2⟩ := st_is t.size (nb t 0) (nb t 1) (nb t 2) (nb t 3) (m + 1) (by omega) hB hL
              obtain ⟨R, hR⟩ : ∃ R, (stN (m + 1) (nb t 0) (nb t 1) (nb t 2) (nb t 3)).1 = R := ⟨_, rfl⟩
              have cB := fun w => begins_yes t (m + 1) w (by omega) (by omega) (by omega) hB (R : Int) (by rw [if_pos hL, hR])
              have hst : st t = (R, m + 1) := by
                show stN t.size (nb t 0) (nb t 1) (nb t 2) (nb t 3) = _
                rw [hst, ← hR, ← hk2, hk2]
                exact Prod.ext rfl hk2
              obtain ⟨K, hK⟩ : ∃ K, K = m + 1 := ⟨_, rfl⟩
              rw [← hK] at hst
              have HRK : Hid (st t = (R, K)) := hst
              rw [hst] at hsb HE0
              simp only at hsb HE0
              have HE : Hid ((L ++ [st t]) ++ D f' (t.extract K t.size) = D s.size s) := by rw [hst]; exact HE0
              have hmx : max ((m : Int) + 1) 1 = (K : Int) := by omega
              have hKz : (K : Int) ≤ (t.size : Int) := by omega
              clear hst HE0 HY hB hL hR hk2 hK
              go_wp2_with (first
                | (go_at_call 24; refine (cB _).mono ?_; rintro e w2 ⟨rfl, hb2⟩; have ho2 := hown.step hb2; have hbl2 := hbl.trans hb2)
                | (at_builtin; refine wpL_app rfl (.tmp 35) (.tmp 37) rfl rfl _ _ (R : Int) w2.heap.size rfl rfl _ (ho2.alloc _).a (by go_simp) (by rw [sg_len]; omega) (ho2.alloc _).le ?_; intro v1' w3 hw3 hg3 hv3; have ho3 := (ho2.alloc _).first hw3 hg3 hv3; have hb3 : Bl w w3 := bl_grown (hbl2.alloc _) hg3 (fun k e => by rw [← HB.out]; exact (ho2.a.block k e).1); clear hw3 hg3 hv3)
                | (at_builtin; refine wpL_app rfl (.tmp 39) (.tmp 41) rfl rfl _ _ (K : Int) w3.heap.size rfl rfl _ (ho3.alloc _).b (by go_simp) (by rw [sz_len]; omega) (ho3.alloc _).le ?_; intro v2' w4 hw4 hg4 hv4; have ho4 := (ho3.alloc _).second hw4 hg4 hv4; have hb4 : Bl w w4 := bl_grown (hb3.alloc _) hg4 (fun k e => by rw [← HB.out]; exact (ho3.b.block k e).1); clear hw4 hg4 hv4))
              go_roundw
              case rel => exact ⟨_, L ++ [st t], f', rfl, by rw [ByteArray.size_extract]; omega, by rw [List.length_append]; simp; omega, HE, by rw [sg_snoc, sz_snoc, HRK.out]; exact ho4, hb4⟩
              case measure => simp only [strLen, ByteArray.size_extract]; omega
            · have cB := fun w => begins_yes t (m + 1) w (by omega) (by omega) (by omega) hB (-1) (by rw [if_neg hL])
              have HY' : Hid (yet t.size (nb t 0) (nb t 1) (nb t 2) (nb t 3) (m + 1 + 1)) := ⟨by omega, fun j h1 h2 => by
                rcases Nat.lt_or_ge j (m + 1) with h | h
                · exact HY.out.2 j h1 h
                · obtain rfl : j = m + 1 := by omega
                  exact ⟨hB, hL⟩⟩
              clear HY hB hL
              go_wp2_with (go_at_call 24; refine (cB _).mono ?_; rintro e w2 ⟨rfl, hb2⟩; have ho2 := hown.step hb2; have hbl2 := hbl.trans hb2)
              go_roundw
              case rel => exact ⟨m + 1, by go_num, rfl, by go_num, by omega, HY', ho2, hbl2⟩
              case measure => simp [intOf]; omega
          · have cB := fun w => begins_no t (m + 1) w (by omega) (by omega) (by omega) hB
            have hst : st t = (65533, max m 1) := st_stop t.size (nb t 0) (nb t 1) (nb t 2) (nb t 3) (m + 1) ht (nb_lt t 0) (by omega) HY.out (Or.inr hB)
            obtain ⟨K, hK⟩ : ∃ K, K = max m 1 := ⟨_, rfl⟩
            rw [← hK] at hst
            have HRK : Hid (st t = (65533, K)) := hst
            rw [hst] at hsb HE0
            simp only at hsb HE0
            have HE : Hid ((L ++ [st t]) ++ D f' (t.extract K t.size) = D s.size s) := by rw [hst]; exact HE0
            have hmx : max (m : Int) 1 = (K : Int) := by omega
            have hKz : (K : Int) ≤ (t.size : Int) := by omega
            clear hst HE0 hK HY
            clear hB
            go_wp2_with (first
              | (go_at_call 24; refine (cB _).mono ?_; rintro e w2 ⟨r, rfl, hb2⟩; have ho2 := hown.step hb2; have hbl2 := hbl.trans hb2)
              | (at_builtin; refine wpL_app rfl (.tmp 35) (.tmp 37) rfl rfl _ _ 65533 w2.heap.size rfl rfl _ (ho2.alloc _).a (by go_simp) (by rw [sg_len]; omega) (ho2.alloc _).le ?_; intro v1' w3 hw3 hg3 hv3; have ho3 := (ho2.alloc _).first hw3 hg3 hv3; have hb3 : Bl w w3 := bl_grown (hbl2.alloc _) hg3 (fun k e => by rw [← HB.out]; exact (ho2.a.block k e).1); clear hw3 hg3 hv3)
              | (at_builtin; refine wpL_app rfl (.tmp 39) (.tmp 41) rfl rfl _ _ (K : Int) w3.heap.size rfl rfl _ (ho3.alloc _).b (by go_simp) (by rw [sz_len]; omega) (ho3.alloc _).le ?_; intro v2' w4 hw4 hg4 hv4; have ho4 := (ho3.alloc _).second hw4 hg4 hv4; have hb4 : Bl w w4 := bl_grown (hb3.alloc _) hg4 (fun k e => by rw [← HB.out]; exact (ho3.b.block k e).1); clear hw4 hg4 hv4))
            go_roundw
            case rel => exact ⟨_, L ++ [st t], f', rfl, by rw [ByteArray.size_extract]; omega, by rw [List.length_append]; simp; omega, HE, by rw [sg_snoc, sz_snoc, HRK.out]; exact ho4, hb4⟩
            case measure => simp only [strLen, ByteArray.size_extract]; omega
    · have hz : t.size = 0 := by omega
      have hzz : ¬ ((0 : Int) < (t.size : Int)) := by omega
      have hL : L = D s.size s := by
        have := HA.out
        rwa [D_none f t hz, List.append_nil] at this
      have HL : Hid (L = D s.size s) := hL
      clear hL HA
      go_wp2
      go_ret2
      exact ⟨_, _, rfl, by rw [← HL.out]; exact hown, hbl⟩
end Go.Proofs.YtaboemchkmmgeaaDoor.utf
