/- What the document's own Number answers. -/
import Derived.Test.YtncmpjdapngmpaaDoorDigs3
import Derived.Test.YtncmpjdapngmpaaDoorRefDig3
namespace Go.Proofs.YtncmpjdapngmpaaDoor.digs
open Go.ChangeShapes Go.WideShapes Go.ChangeAt Go.RowKit
open mem dig

theorem pow63 (w : World) : Calls Tryd.prog 34 #[.int .i64 63] w fun e w' => e = .returned (.int .u64 9223372036854775808) ∧ w' = w := by
  go_enter Tryd.func34, Tryd.ntmps34
  go_wp2
  go_loop [0, 3] (fun i o => ∃ k y : Nat, k ≤ 63 ∧ i = .int .i64 (k : Int) ∧ o = .int .u64 (y : Int) ∧ Hid (y = 2 ^ (63 - k))) (fun i _ => (intOf i).toNat)
  case atStart => exact ⟨63, 1, Nat.le_refl _, rfl, rfl, by simp [Hid]⟩
  case round =>
    obtain ⟨k, y, hk, rfl, rfl, HY⟩ := hrel
    by_cases h0 : 0 < k
    · have t1 : (0 : Int) < (k : Int) := by omega
      obtain ⟨k', hk'⟩ : ∃ k', k = k' + 1 := ⟨k - 1, by omega⟩
      obtain ⟨y', hy'⟩ : ∃ y', y' = y * 2 := ⟨_, rfl⟩
      have hyl : y ≤ 2 ^ 62 := by rw [HY.out]; exact Nat.pow_le_pow_right (by omega) (by omega)
      have t2 : IntKind.u64.wrap ((y : Int) * 2) = (y' : Int) := by rw [IntKind.wrap_u64]; omega
      have t3 : IntKind.i64.wrap ((k : Int) - 1) = (k' : Int) := by rw [IntKind.wrap_i64]; omega
      have HY' : Hid (y' = 2 ^ (63 - k')) := by
        have e : 63 - k' = (63 - k) + 1 := by omega
        rw [hy', e, Nat.pow_succ, ← HY.out]; rfl
      have HK : Hid (k = k' + 1) := hk'
      clear hk' hy'
      go_wp2
      go_round
      case rel => exact ⟨k', y', by have := HK.out; omega, by simp [*], by simp [*], HY'⟩
      case measure => have := HK.out; simp [intOf]; omega
    · obtain rfl : k = 0 := by omega
      have hyr : y = 9223372036854775808 := HY.out
      clear HY
      subst hyr
      go_wp2
      go_ret
      exact ⟨rfl, rfl⟩
theorem pre_m (s : ByteArray) (hp : 0 < s.size) : pre s pm = ((((s[0]'hp).toNat : Nat) : Int) == 45) := by
  have h1 : pm.size = 1 := rfl
  have h3 : s.data.toList.length = s.size := rfl
  have h2 : (s.extract 0 1).toList = [s[0]'hp] := by
    rw [ByteArray.toList_eq, ByteArray.data_extract, Array.toList_extract, List.extract_eq_take_drop]
    have hl : 0 < s.data.toList.length := by omega
    rw [List.drop_zero, show 1 - 0 = 0 + 1 from rfl, List.take_succ_eq_append_getElem hl]
    rfl
  unfold pre
  rw [h1, h2, decide_eq_true (show 1 ≤ s.size from hp), Bool.true_and]
  have e : pm.toList = [45] := by rw [ByteArray.toList_eq]; rfl
  rw [e, Bool.eq_iff_iff]
  simp
  constructor
  · intro h
    rw [h]; rfl
  · intro h
    have h' : (s[0]'hp).toNat = 45 := by omega
    exact UInt8.toNat_inj.1 h'
theorem pre_m0 (s : ByteArray) (hp : ¬ 0 < s.size) : pre s pm = false := by
  unfold pre
  rw [show pm.size = 1 from rfl, decide_eq_false (by omega), Bool.false_and]
/-- The document's own reading of a base. -/
theorem pre_2 (s p : ByteArray) (b : Bool) (hp : p.size = 2) (h : pre s p = b) : (2 ≤ s.size ∧ ((s.extract 0 2).toList == p.toList) = b) ∨ (¬ 2 ≤ s.size ∧ b = false) := by
  unfold pre at h
  rw [hp] at h
  by_cases h2 : 2 ≤ s.size
  · rw [decide_eq_true h2, Bool.true_and] at h
    exact Or.inl ⟨h2, h⟩
  · rw [decide_eq_false h2, Bool.false_and] at h
    exact Or.inr ⟨h2, h.symm⟩
set_option maxHeartbeats 8000000 in
set_option maxRecDepth 4000 in
theorem refNumber_at (s : ByteArray) (m e : Int) (w : World) (hs : s.size ≤ 140737488351232) (h : Numbered s m e) :
    Calls Tryd.prog 16 #[.string s] w fun e' w' => e' = .returned (.tuple #[.int .i64 m, .int .i64 e]) ∧ Gb w w' := by
  obtain ⟨n, t, b, v, f, h1, h2, h3, h4⟩ := h
  have hv := h3.bd
  have hr := rest_size s pm n
  have ht := h2.size
  have cp := fun w => refParse_at b t v f w (by omega) h3
  have H2 := hide h2
  have H4 := hide h4
  clear h3 h2 h4
  by_cases hp : 0 < s.size
  · have e1 := pre_m s hp
    rw [h1] at e1
    cases n
    · have e1' : ((((s[0]'hp).toNat : Nat) : Int) == 45) = false := e1.symm
      have hu : rest s pm false = s := rfl
      rw [hu] at H2 hr
      clear e1 h1 hu
      rcases H2.out with ⟨b1, rfl, rfl⟩ | ⟨b1, b2, rfl, rfl⟩ | ⟨b1, b2, hq, rfl⟩
      · obtain ⟨z, c1⟩ : 2 ≤ s.size ∧ ((s.extract 0 2).toList == px.toList) = true := by
          rcases pre_2 s px true rfl b1 with h | ⟨_, h⟩
          · exact h
          · cases h
        have c1' : ((s.extract 0 2).toList == [48, 120]) = true := by rw [← c1, show px.toList = [48, 120] from by rw [ByteArray.toList_eq]; rfl]
        have hx : rest s px true = s.extract 2 s.size := rfl
        rw [hx] at cp
        clear H2 b1 c1 hx
        rcases H4.out with ⟨hf, rfl, rfl⟩ | ⟨rfl, h5, rfl, rfl⟩ | ⟨rfl, h5, h6, rfl, rfl⟩
        · have hf' : (e == 0) = false := by simpa using hf
          clear hf H4
          go_enter Tryd.func16, Tryd.ntmps16
          go_wp2_with (first | (go_at_call 14; refine (cp _).mono ?_; rintro e w1 ⟨rfl, g1⟩) | (go_at_call 34; refine (pow63 _).mono ?_; rintro e w1 ⟨rfl, rfl⟩))
          go_region
          all_goals go_wp2_with (first | (go_at_call 14; refine (cp _).mono ?_; rintro e w1 ⟨rfl, g1⟩) | (go_at_call 34; refine (pow63 _).mono ?_; rintro e w1 ⟨rfl, rfl⟩))
          all_goals go_ret2
          all_goals exact ⟨rfl, by first | exact g1 | exact (Gb.drew (Gb.refl _)).trans g1⟩
        · have hl : (9223372036854775808 : Int) ≤ (v : Int) := by omega
          clear h5 H4
          go_enter Tryd.func16, Tryd.ntmps16
          go_wp2_with (first | (go_at_call 14; refine (cp _).mono ?_; rintro e w1 ⟨rfl, g1⟩) | (go_at_call 34; refine (pow63 _).mono ?_; rintro e w1 ⟨rfl, rfl⟩))
          go_region
          all_goals go_wp2_with (first | (go_at_call 14; refine (cp _).mono ?_; rintro e w1 ⟨rfl, g1⟩) | (go_at_call 34; refine (pow63 _).mono ?_; rintro e w1 ⟨rfl, rfl⟩))
          all_goals go_ret2
          all_goals exact ⟨rfl, by first | exact g1 | exact (Gb.drew (Gb.refl _)).trans g1⟩
        · have hn2 : v ≠ 9223372036854775808 := fun h => by cases h6 h
          have hl : decide ((9223372036854775808 : Int) ≤ (v : Int)) = false := decide_eq_false (by omega)
          have hl2 : decide ((9223372036854775808 : Int) < (v : Int)) = false := decide_eq_false (by omega)
          have hw : wrap64 (v : Int) = (v : Int) := by unfold wrap64; omega
          clear h5 h6 H4 hn2 hv
          go_enter Tryd.func16, Tryd.ntmps16
          go_wp2_with (first | (go_at_call 14; refine (cp _).mono ?_; rintro e w1 ⟨rfl, g1⟩) | (go_at_call 34; refine (pow63 _).mono ?_; rintro e w1 ⟨rfl, rfl⟩))
          go_region
          all_goals go_wp2_with (first | (go_at_call 14; refine (cp _).mono ?_; rintro e w1 ⟨rfl, g1⟩) | (go_at_call 34; refine (pow63 _).mono ?_; rintro e w1 ⟨rfl, rfl⟩))
          all_goals go_ret2
          all_goals exact ⟨rfl, by first | exact g1 | exact (Gb.drew (Gb.refl _)).trans g1⟩
      · obtain ⟨z, c2⟩ : 2 ≤ s.size ∧ ((s.extract 0 2).toList == pb.toList) = true := by
          rcases pre_2 s pb true rfl b2 with h | ⟨_, h⟩
          · exact h
          · cases h
        have c1 : ((s.extract 0 2).toList == px.toList) = false := by
          rcases pre_2 s px false rfl b1 with h | ⟨h, _⟩
          · exact h.2
          · omega
        have c1' : ((s.extract 0 2).toList == [48, 120]) = false := by rw [← c1, show px.toList = [48, 120] from by rw [ByteArray.toList_eq]; rfl]
        have c2' : ((s.extract 0 2).toList == [48, 98]) = true := by rw [← c2, show pb.toList = [48, 98] from by rw [ByteArray.toList_eq]; rfl]
        have hx : rest s pb true = s.extract 2 s.size := rfl
        rw [hx] at cp
        clear H2 b1 b2 c1 c2 hx
        rcases H4.out with ⟨hf, rfl, rfl⟩ | ⟨rfl, h5, rfl, rfl⟩ | ⟨rfl, h5, h6, rfl, rfl⟩
        · have hf' : (e == 0) = false := by simpa using hf
          clear hf H4
          go_enter Tryd.func16, Tryd.ntmps16
          go_wp2_with (first | (go_at_call 14; refine (cp _).mono ?_; rintro e w1 ⟨rfl, g1⟩) | (go_at_call 34; refine (pow63 _).mono ?_; rintro e w1 ⟨rfl, rfl⟩))
          go_region
          all_goals go_wp2_with (first | (go_at_call 14; refine (cp _).mono ?_; rintro e w1 ⟨rfl, g1⟩) | (go_at_call 34; refine (pow63 _).mono ?_; rintro e w1 ⟨rfl, rfl⟩))
          all_goals go_ret2
          all_goals exact ⟨rfl, by first | exact g1 | exact (Gb.drew (Gb.refl _)).trans g1⟩
        · have hl : (9223372036854775808 : Int) ≤ (v : Int) := by omega
          clear h5 H4
          go_enter Tryd.func16, Tryd.ntmps16
          go_wp2_with (first | (go_at_call 14; refine (cp _).mono ?_; rintro e w1 ⟨rfl, g1⟩) | (go_at_call 34; refine (pow63 _).mono ?_; rintro e w1 ⟨rfl, rfl⟩))
          go_region
          all_goals go_wp2_with (first | (go_at_call 14; refine (cp _).mono ?_; rintro e w1 ⟨rfl, g1⟩) | (go_at_call 34; refine (pow63 _).mono ?_; rintro e w1 ⟨rfl, rfl⟩))
          all_goals go_ret2
          all_goals exact ⟨rfl, by first | exact g1 | exact (Gb.drew (Gb.refl _)).trans g1⟩
        · have hn2 : v ≠ 9223372036854775808 := fun h => by cases h6 h
          have hl : decide ((9223372036854775808 : Int) ≤ (v : Int)) = false := decide_eq_false (by omega)
          have hl2 : decide ((9223372036854775808 : Int) < (v : Int)) = false := decide_eq_false (by omega)
          have hw : wrap64 (v : Int) = (v : Int) := by unfold wrap64; omega
          clear h5 h6 H4 hn2 hv
          go_enter Tryd.func16, Tryd.ntmps16
          go_wp2_with (first | (go_at_call 14; refine (cp _).mono ?_; rintro e w1 ⟨rfl, g1⟩) | (go_at_call 34; refine (pow63 _).mono ?_; rintro e w1 ⟨rfl, rfl⟩))
          go_region
          all_goals go_wp2_with (first | (go_at_call 14; refine (cp _).mono ?_; rintro e w1 ⟨rfl, g1⟩) | (go_at_call 34; refine (pow63 _).mono ?_; rintro e w1 ⟨rfl, rfl⟩))
          all_goals go_ret2
          all_goals exact ⟨rfl, by first | exact g1 | exact (Gb.drew (Gb.refl _)).trans g1⟩
      · rw [hq] at cp ht
        clear hq
        by_cases z : 2 ≤ s.size
        · have c1 : ((s.extract 0 2).toList == px.toList) = false := by
            rcases pre_2 s px false rfl b1 with h | ⟨h, _⟩
            · exact h.2
            · omega
          have c2 : ((s.extract 0 2).toList == pb.toList) = false := by
            rcases pre_2 s pb false rfl b2 with h | ⟨h, _⟩
            · exact h.2
            · omega
          have c1' : ((s.extract 0 2).toList == [48, 120]) = false := by rw [← c1, show px.toList = [48, 120] from by rw [ByteArray.toList_eq]; rfl]
          have c2' : ((s.extract 0 2).toList == [48, 98]) = false := by rw [← c2, show pb.toList = [48, 98] from by rw [ByteArray.toList_eq]; rfl]
          clear H2 b1 b2 c1 c2
          rcases H4.out with ⟨hf, rfl, rfl⟩ | ⟨rfl, h5, rfl, rfl⟩ | ⟨rfl, h5, h6, rfl, rfl⟩
          · have hf' : (e == 0) = false := by simpa using hf
            clear hf H4
            go_enter Tryd.func16, Tryd.ntmps16
            go_wp2_with (first | (go_at_call 14; refine (cp _).mono ?_; rintro e w1 ⟨rfl, g1⟩) | (go_at_call 34; refine (pow63 _).mono ?_; rintro e w1 ⟨rfl, rfl⟩))
            all_goals go_ret2
            all_goals exact ⟨rfl, by first | exact g1 | exact (Gb.drew (Gb.refl _)).trans g1⟩
          · have hl : (9223372036854775808 : Int) ≤ (v : Int) := by omega
            clear h5 H4
            go_enter Tryd.func16, Tryd.ntmps16
            go_wp2_with (first | (go_at_call 14; refine (cp _).mono ?_; rintro e w1 ⟨rfl, g1⟩) | (go_at_call 34; refine (pow63 _).mono ?_; rintro e w1 ⟨rfl, rfl⟩))
            all_goals go_ret2
            all_goals exact ⟨rfl, by first | exact g1 | exact (Gb.drew (Gb.refl _)).trans g1⟩
          · have hn2 : v ≠ 9223372036854775808 := fun h => by cases h6 h
            have hl : decide ((9223372036854775808 : Int) ≤ (v : Int)) = false := decide_eq_false (by omega)
            have hl2 : decide ((9223372036854775808 : Int) < (v : Int)) = false := decide_eq_false (by omega)
            have hw : wrap64 (v : Int) = (v : Int) := by unfold wrap64; omega
            clear h5 h6 H4 hn2 hv
            go_enter Tryd.func16, Tryd.ntmps16
            go_wp2_with (first | (go_at_call 14; refine (cp _).mono ?_; rintro e w1 ⟨rfl, g1⟩) | (go_at_call 34; refine (pow63 _).mono ?_; rintro e w1 ⟨rfl, rfl⟩))
            all_goals go_ret2
            all_goals exact ⟨rfl, by first | exact g1 | exact (Gb.drew (Gb.refl _)).trans g1⟩
        · clear H2 b1 b2
          rcases H4.out with ⟨hf, rfl, rfl⟩ | ⟨rfl, h5, rfl, rfl⟩ | ⟨rfl, h5, h6, rfl, rfl⟩
          · have hf' : (e == 0) = false := by simpa using hf
            clear hf H4
            go_enter Tryd.func16, Tryd.ntmps16
            go_wp2_with (first | (go_at_call 14; refine (cp _).mono ?_; rintro e w1 ⟨rfl, g1⟩) | (go_at_call 34; refine (pow63 _).mono ?_; rintro e w1 ⟨rfl, rfl⟩))
            all_goals go_ret2
            all_goals exact ⟨rfl, by first | exact g1 | exact (Gb.drew (Gb.refl _)).trans g1⟩
          · have hl : (9223372036854775808 : Int) ≤ (v : Int) := by omega
            clear h5 H4
            go_enter Tryd.func16, Tryd.ntmps16
            go_wp2_with (first | (go_at_call 14; refine (cp _).mono ?_; rintro e w1 ⟨rfl, g1⟩) | (go_at_call 34; refine (pow63 _).mono ?_; rintro e w1 ⟨rfl, rfl⟩))
            all_goals go_ret2
            all_goals exact ⟨rfl, by first | exact g1 | exact (Gb.drew (Gb.refl _)).trans g1⟩
          · have hn2 : v ≠ 9223372036854775808 := fun h => by cases h6 h
            have hl : decide ((9223372036854775808 : Int) ≤ (v : Int)) = false := decide_eq_false (by omega)
            have hl2 : decide ((9223372036854775808 : Int) < (v : Int)) = false := decide_eq_false (by omega)
            have hw : wrap64 (v : Int) = (v : Int) := by unfold wrap64; omega
            clear h5 h6 H4 hn2 hv
            go_enter Tryd.func16, Tryd.ntmps16
            go_wp2_with (first | (go_at_call 14; refine (cp _).mono ?_; rintro e w1 ⟨rfl, g1⟩) | (go_at_call 34; refine (pow63 _).mono ?_; rintro e w1 ⟨rfl, rfl⟩))
            all_goals go_ret2
            all_goals exact ⟨rfl, by first | exact g1 | exact (Gb.drew (Gb.refl _)).trans g1⟩
    · have e1' : ((((s[0]'hp).toNat : Nat) : Int) == 45) = true := e1.symm
      have hu : rest s pm true = s.extract 1 s.size := rfl
      rw [hu] at H2 hr ht
      clear e1 h1
      obtain ⟨U, hU⟩ : ∃ U, U = s.extract 1 s.size := ⟨_, rfl⟩
      rw [← hU] at H2 hr ht
      have hU' : s.extract 1 s.size = U := hU.symm
      clear hU hu
      rcases H2.out with ⟨b1, rfl, rfl⟩ | ⟨b1, b2, rfl, rfl⟩ | ⟨b1, b2, hq, rfl⟩
      · obtain ⟨z, c1⟩ : 2 ≤ U.size ∧ ((U.extract 0 2).toList == px.toList) = true := by
          rcases pre_2 U px true rfl b1 with h | ⟨_, h⟩
          · exact h
          · cases h
        have c1' : ((U.extract 0 2).toList == [48, 120]) = true := by rw [← c1, show px.toList = [48, 120] from by rw [ByteArray.toList_eq]; rfl]
        have hx : rest U px true = U.extract 2 U.size := rfl
        rw [hx] at cp
        clear H2 b1 c1 hx
        rcases H4.out with ⟨hf, rfl, rfl⟩ | ⟨rfl, h5, rfl, rfl⟩ | ⟨rfl, h5, h6, rfl, rfl⟩
        · have hf' : (e == 0) = false := by simpa using hf
          clear hf H4
          go_enter Tryd.func16, Tryd.ntmps16
          go_wp2_with (first | (go_at_call 14; refine (cp _).mono ?_; rintro e w1 ⟨rfl, g1⟩) | (go_at_call 34; refine (pow63 _).mono ?_; rintro e w1 ⟨rfl, rfl⟩))
          go_region
          all_goals go_wp2_with (first | (go_at_call 14; refine (cp _).mono ?_; rintro e w1 ⟨rfl, g1⟩) | (go_at_call 34; refine (pow63 _).mono ?_; rintro e w1 ⟨rfl, rfl⟩))
          all_goals go_ret2
          all_goals exact ⟨rfl, by first | exact g1 | exact (Gb.drew (Gb.refl _)).trans g1⟩
        · have hl : (9223372036854775808 : Int) < (v : Int) := by
            rcases h5 with h | ⟨_, h⟩
            · omega
            · cases h
          clear h5 H4
          go_enter Tryd.func16, Tryd.ntmps16
          go_wp2_with (first | (go_at_call 14; refine (cp _).mono ?_; rintro e w1 ⟨rfl, g1⟩) | (go_at_call 34; refine (pow63 _).mono ?_; rintro e w1 ⟨rfl, rfl⟩))
          go_region
          all_goals go_wp2_with (first | (go_at_call 14; refine (cp _).mono ?_; rintro e w1 ⟨rfl, g1⟩) | (go_at_call 34; refine (pow63 _).mono ?_; rintro e w1 ⟨rfl, rfl⟩))
          all_goals go_ret2
          all_goals exact ⟨rfl, by first | exact g1 | exact (Gb.drew (Gb.refl _)).trans g1⟩
        · have hl : ¬ (9223372036854775808 : Int) < (v : Int) := by omega
          have hm : wrap64 (IntKind.u64.wrap (-(v : Int))) = -(v : Int) := by simp only [IntKind.wrap_u64, wrap64]; omega
          clear h5 h6 H4
          go_enter Tryd.func16, Tryd.ntmps16
          go_wp2_with (first | (go_at_call 14; refine (cp _).mono ?_; rintro e w1 ⟨rfl, g1⟩) | (go_at_call 34; refine (pow63 _).mono ?_; rintro e w1 ⟨rfl, rfl⟩))
          go_region
          all_goals go_wp2_with (first | (go_at_call 14; refine (cp _).mono ?_; rintro e w1 ⟨rfl, g1⟩) | (go_at_call 34; refine (pow63 _).mono ?_; rintro e w1 ⟨rfl, rfl⟩))
          all_goals go_ret2
          all_goals exact ⟨by simp, by first | exact g1 | exact (Gb.drew (Gb.refl _)).trans g1⟩
      · obtain ⟨z, c2⟩ : 2 ≤ U.size ∧ ((U.extract 0 2).toList == pb.toList) = true := by
          rcases pre_2 U pb true rfl b2 with h | ⟨_, h⟩
          · exact h
          · cases h
        have c1 : ((U.extract 0 2).toList == px.toList) = false := by
          rcases pre_2 U px false rfl b1 with h | ⟨h, _⟩
          · exact h.2
          · omega
        have c1' : ((U.extract 0 2).toList == [48, 120]) = false := by rw [← c1, show px.toList = [48, 120] from by rw [ByteArray.toList_eq]; rfl]
        have c2' : ((U.extract 0 2).toList == [48, 98]) = true := by rw [← c2, show pb.toList = [48, 98] from by rw [ByteArray.toList_eq]; rfl]
        have hx : rest U pb true = U.extract 2 U.size := rfl
        rw [hx] at cp
        clear H2 b1 b2 c1 c2 hx
        rcases H4.out with ⟨hf, rfl, rfl⟩ | ⟨rfl, h5, rfl, rfl⟩ | ⟨rfl, h5, h6, rfl, rfl⟩
        · have hf' : (e == 0) = false := by simpa using hf
          clear hf H4
          go_enter Tryd.func16, Tryd.ntmps16
          go_wp2_with (first | (go_at_call 14; refine (cp _).mono ?_; rintro e w1 ⟨rfl, g1⟩) | (go_at_call 34; refine (pow63 _).mono ?_; rintro e w1 ⟨rfl, rfl⟩))
          go_region
          all_goals go_wp2_with (first | (go_at_call 14; refine (cp _).mono ?_; rintro e w1 ⟨rfl, g1⟩) | (go_at_call 34; refine (pow63 _).mono ?_; rintro e w1 ⟨rfl, rfl⟩))
          all_goals go_ret2
          all_goals exact ⟨rfl, by first | exact g1 | exact (Gb.drew (Gb.refl _)).trans g1⟩
        · have hl : (9223372036854775808 : Int) < (v : Int) := by
            rcases h5 with h | ⟨_, h⟩
            · omega
            · cases h
          clear h5 H4
          go_enter Tryd.func16, Tryd.ntmps16
          go_wp2_with (first | (go_at_call 14; refine (cp _).mono ?_; rintro e w1 ⟨rfl, g1⟩) | (go_at_call 34; refine (pow63 _).mono ?_; rintro e w1 ⟨rfl, rfl⟩))
          go_region
          all_goals go_wp2_with (first | (go_at_call 14; refine (cp _).mono ?_; rintro e w1 ⟨rfl, g1⟩) | (go_at_call 34; refine (pow63 _).mono ?_; rintro e w1 ⟨rfl, rfl⟩))
          all_goals go_ret2
          all_goals exact ⟨rfl, by first | exact g1 | exact (Gb.drew (Gb.refl _)).trans g1⟩
        · have hl : ¬ (9223372036854775808 : Int) < (v : Int) := by omega
          have hm : wrap64 (IntKind.u64.wrap (-(v : Int))) = -(v : Int) := by simp only [IntKind.wrap_u64, wrap64]; omega
          clear h5 h6 H4
          go_enter Tryd.func16, Tryd.ntmps16
          go_wp2_with (first | (go_at_call 14; refine (cp _).mono ?_; rintro e w1 ⟨rfl, g1⟩) | (go_at_call 34; refine (pow63 _).mono ?_; rintro e w1 ⟨rfl, rfl⟩))
          go_region
          all_goals go_wp2_with (first | (go_at_call 14; refine (cp _).mono ?_; rintro e w1 ⟨rfl, g1⟩) | (go_at_call 34; refine (pow63 _).mono ?_; rintro e w1 ⟨rfl, rfl⟩))
          all_goals go_ret2
          all_goals exact ⟨by simp, by first | exact g1 | exact (Gb.drew (Gb.refl _)).trans g1⟩
      · rw [hq] at cp ht
        clear hq
        by_cases z : 2 ≤ U.size
        · have c1 : ((U.extract 0 2).toList == px.toList) = false := by
            rcases pre_2 U px false rfl b1 with h | ⟨h, _⟩
            · exact h.2
            · omega
          have c2 : ((U.extract 0 2).toList == pb.toList) = false := by
            rcases pre_2 U pb false rfl b2 with h | ⟨h, _⟩
            · exact h.2
            · omega
          have c1' : ((U.extract 0 2).toList == [48, 120]) = false := by rw [← c1, show px.toList = [48, 120] from by rw [ByteArray.toList_eq]; rfl]
          have c2' : ((U.extract 0 2).toList == [48, 98]) = false := by rw [← c2, show pb.toList = [48, 98] from by rw [ByteArray.toList_eq]; rfl]
          clear H2 b1 b2 c1 c2
          rcases H4.out with ⟨hf, rfl, rfl⟩ | ⟨rfl, h5, rfl, rfl⟩ | ⟨rfl, h5, h6, rfl, rfl⟩
          · have hf' : (e == 0) = false := by simpa using hf
            clear hf H4
            go_enter Tryd.func16, Tryd.ntmps16
            go_wp2_with (first | (go_at_call 14; refine (cp _).mono ?_; rintro e w1 ⟨rfl, g1⟩) | (go_at_call 34; refine (pow63 _).mono ?_; rintro e w1 ⟨rfl, rfl⟩))
            all_goals go_ret2
            all_goals exact ⟨rfl, by first | exact g1 | exact (Gb.drew (Gb.refl _)).trans g1⟩
          · have hl : (9223372036854775808 : Int) < (v : Int) := by
              rcases h5 with h | ⟨_, h⟩
              · omega
              · cases h
            clear h5 H4
            go_enter Tryd.func16, Tryd.ntmps16
            go_wp2_with (first | (go_at_call 14; refine (cp _).mono ?_; rintro e w1 ⟨rfl, g1⟩) | (go_at_call 34; refine (pow63 _).mono ?_; rintro e w1 ⟨rfl, rfl⟩))
            all_goals go_ret2
            all_goals exact ⟨rfl, by first | exact g1 | exact (Gb.drew (Gb.refl _)).trans g1⟩
          · have hl : ¬ (9223372036854775808 : Int) < (v : Int) := by omega
            have hm : wrap64 (IntKind.u64.wrap (-(v : Int))) = -(v : Int) := by simp only [IntKind.wrap_u64, wrap64]; omega
            clear h5 h6 H4
            go_enter Tryd.func16, Tryd.ntmps16
            go_wp2_with (first | (go_at_call 14; refine (cp _).mono ?_; rintro e w1 ⟨rfl, g1⟩) | (go_at_call 34; refine (pow63 _).mono ?_; rintro e w1 ⟨rfl, rfl⟩))
            all_goals go_ret2
            all_goals exact ⟨by simp, by first | exact g1 | exact (Gb.drew (Gb.refl _)).trans g1⟩
        · clear H2 b1 b2
          rcases H4.out with ⟨hf, rfl, rfl⟩ | ⟨rfl, h5, rfl, rfl⟩ | ⟨rfl, h5, h6, rfl, rfl⟩
          · have hf' : (e == 0) = false := by simpa using hf
            clear hf H4
            go_enter Tryd.func16, Tryd.ntmps16
            go_wp2_with (first | (go_at_call 14; refine (cp _).mono ?_; rintro e w1 ⟨rfl, g1⟩) | (go_at_call 34; refine (pow63 _).mono ?_; rintro e w1 ⟨rfl, rfl⟩))
            all_goals go_ret2
            all_goals exact ⟨rfl, by first | exact g1 | exact (Gb.drew (Gb.refl _)).trans g1⟩
          · have hl : (9223372036854775808 : Int) < (v : Int) := by
              rcases h5 with h | ⟨_, h⟩
              · omega
              · cases h
            clear h5 H4
            go_enter Tryd.func16, Tryd.ntmps16
            go_wp2_with (first | (go_at_call 14; refine (cp _).mono ?_; rintro e w1 ⟨rfl, g1⟩) | (go_at_call 34; refine (pow63 _).mono ?_; rintro e w1 ⟨rfl, rfl⟩))
            all_goals go_ret2
            all_goals exact ⟨rfl, by first | exact g1 | exact (Gb.drew (Gb.refl _)).trans g1⟩
          · have hl : ¬ (9223372036854775808 : Int) < (v : Int) := by omega
            have hm : wrap64 (IntKind.u64.wrap (-(v : Int))) = -(v : Int) := by simp only [IntKind.wrap_u64, wrap64]; omega
            clear h5 h6 H4
            go_enter Tryd.func16, Tryd.ntmps16
            go_wp2_with (first | (go_at_call 14; refine (cp _).mono ?_; rintro e w1 ⟨rfl, g1⟩) | (go_at_call 34; refine (pow63 _).mono ?_; rintro e w1 ⟨rfl, rfl⟩))
            all_goals go_ret2
            all_goals exact ⟨by simp, by first | exact g1 | exact (Gb.drew (Gb.refl _)).trans g1⟩
  · have e1 := pre_m0 s hp
    obtain rfl : n = false := h1.symm.trans e1
    have hu : rest s pm false = s := rfl
    rw [hu] at H2 hr
    clear e1 h1 hu
    rcases H2.out with ⟨b1, rfl, rfl⟩ | ⟨b1, b2, rfl, rfl⟩ | ⟨b1, b2, hq, rfl⟩
    · obtain ⟨z, c1⟩ : 2 ≤ s.size ∧ ((s.extract 0 2).toList == px.toList) = true := by
        rcases pre_2 s px true rfl b1 with h | ⟨_, h⟩
        · exact h
        · cases h
      have c1' : ((s.extract 0 2).toList == [48, 120]) = true := by rw [← c1, show px.toList = [48, 120] from by rw [ByteArray.toList_eq]; rfl]
      have hx : rest s px true = s.extract 2 s.size := rfl
      rw [hx] at cp
      clear H2 b1 c1 hx
      exact absurd z (by omega)
    · obtain ⟨z, c2⟩ : 2 ≤ s.size ∧ ((s.extract 0 2).toList == pb.toList) = true := by
        rcases pre_2 s pb true rfl b2 with h | ⟨_, h⟩
        · exact h
        · cases h
      have c1 : ((s.extract 0 2).toList == px.toList) = false := by
        rcases pre_2 s px false rfl b1 with h | ⟨h, _⟩
        · exact h.2
        · omega
      have c1' : ((s.extract 0 2).toList == [48, 120]) = false := by rw [← c1, show px.toList = [48, 120] from by rw [ByteArray.toList_eq]; rfl]
      have c2' : ((s.extract 0 2).toList == [48, 98]) = true := by rw [← c2, show pb.toList = [48, 98] from by rw [ByteArray.toList_eq]; rfl]
      have hx : rest s pb true = s.extract 2 s.size := rfl
      rw [hx] at cp
      clear H2 b1 b2 c1 c2 hx
      exact absurd z (by omega)
    · rw [hq] at cp ht
      clear hq
      by_cases z : 2 ≤ s.size
      · have c1 : ((s.extract 0 2).toList == px.toList) = false := by
          rcases pre_2 s px false rfl b1 with h | ⟨h, _⟩
          · exact h.2
          · omega
        have c2 : ((s.extract 0 2).toList == pb.toList) = false := by
          rcases pre_2 s pb false rfl b2 with h | ⟨h, _⟩
          · exact h.2
          · omega
        have c1' : ((s.extract 0 2).toList == [48, 120]) = false := by rw [← c1, show px.toList = [48, 120] from by rw [ByteArray.toList_eq]; rfl]
        have c2' : ((s.extract 0 2).toList == [48, 98]) = false := by rw [← c2, show pb.toList = [48, 98] from by rw [ByteArray.toList_eq]; rfl]
        clear H2 b1 b2 c1 c2
        exact absurd z (by omega)
      · clear H2 b1 b2
        rcases H4.out with ⟨hf, rfl, rfl⟩ | ⟨rfl, h5, rfl, rfl⟩ | ⟨rfl, h5, h6, rfl, rfl⟩
        · have hf' : (e == 0) = false := by simpa using hf
          clear hf H4
          go_enter Tryd.func16, Tryd.ntmps16
          go_wp2_with (first | (go_at_call 14; refine (cp _).mono ?_; rintro e w1 ⟨rfl, g1⟩) | (go_at_call 34; refine (pow63 _).mono ?_; rintro e w1 ⟨rfl, rfl⟩))
          all_goals go_ret2
          all_goals exact ⟨rfl, by first | exact g1 | exact (Gb.drew (Gb.refl _)).trans g1⟩
        · have hl : (9223372036854775808 : Int) ≤ (v : Int) := by omega
          clear h5 H4
          go_enter Tryd.func16, Tryd.ntmps16
          go_wp2_with (first | (go_at_call 14; refine (cp _).mono ?_; rintro e w1 ⟨rfl, g1⟩) | (go_at_call 34; refine (pow63 _).mono ?_; rintro e w1 ⟨rfl, rfl⟩))
          all_goals go_ret2
          all_goals exact ⟨rfl, by first | exact g1 | exact (Gb.drew (Gb.refl _)).trans g1⟩
        · have hn2 : v ≠ 9223372036854775808 := fun h => by cases h6 h
          have hl : decide ((9223372036854775808 : Int) ≤ (v : Int)) = false := decide_eq_false (by omega)
          have hl2 : decide ((9223372036854775808 : Int) < (v : Int)) = false := decide_eq_false (by omega)
          have hw : wrap64 (v : Int) = (v : Int) := by unfold wrap64; omega
          clear h5 h6 H4 hn2 hv
          go_enter Tryd.func16, Tryd.ntmps16
          go_wp2_with (first | (go_at_call 14; refine (cp _).mono ?_; rintro e w1 ⟨rfl, g1⟩) | (go_at_call 34; refine (pow63 _).mono ?_; rintro e w1 ⟨rfl, rfl⟩))
          all_goals go_ret2
          all_goals exact ⟨rfl, by first | exact g1 | exact (Gb.drew (Gb.refl _)).trans g1⟩
end Go.Proofs.YtncmpjdapngmpaaDoor.digs
