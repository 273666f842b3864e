/- Texts laid together: RefDig4, Er2, Er3, Er4, Lr2. -/
import Derived.Test.YtpanodaecjlgaaaGreatDoorXTypesFinds6
import Derived.Test.YtpanodaecjlgaaaGreatDoorXTypesFinds20
import Derived.Test.YtpanodaecjlgaaaGreatDoorXTypesFinds7
/- What the document's own Number answers. -/
namespace Go.Proofs.YtpanodaecjlgaaaGreatDoor.digs
open Go.ChangeShapes Go.WideShapes Go.ChangeAt Go.RowKit
open mem dig

theorem pow63 (w : World) : Calls Tryz.prog 141 #[.int .i64 63] w fun e w' => e = .returned (.int .u64 9223372036854775808) ∧ w' = w := by
  go_enter Tryz.func141, Tryz.ntmps141
  go_wp2
  go_loop [0, 3] (fun i o => ∃ k y : Nat, k ≤ 63 ∧ i = .int .i64 (k : Int) ∧ o = .int .u64 (y : Int) ∧ Hid (y = 2 ^ (63 - k))) (fun i _ => (intOf i).toNat)
  case atStart => exact ⟨63, 1, Nat.le_refl _, rfl, rfl, by simp [Hid]⟩
  case round =>
    obtain ⟨k, y, hk, rfl, rfl, HY⟩ := hrel
    by_cases h0 : 0 < k
    · have t1 : (0 : Int) < (k : Int) := by omega
      obtain ⟨k', hk'⟩ : ∃ k', k = k' + 1 := ⟨k - 1, by omega⟩
      obtain ⟨y', hy'⟩ : ∃ y', y' = y * 2 := ⟨_, rfl⟩
      have hyl : y ≤ 2 ^ 62 := by rw [HY.out]; exact Nat.pow_le_pow_right (by omega) (by omega)
      have t2 : IntKind.u64.wrap ((y : Int) * 2) = (y' : Int) := by rw [IntKind.wrap_u64]; omega
      have t3 : IntKind.i64.wrap ((k : Int) - 1) = (k' : Int) := by rw [IntKind.wrap_i64]; omega
      have HY' : Hid (y' = 2 ^ (63 - k')) := by
        have e : 63 - k' = (63 - k) + 1 := by omega
        rw [hy', e, Nat.pow_succ, ← HY.out]; rfl
      have HK : Hid (k = k' + 1) := hk'
      clear hk' hy'
      go_wp2
      go_round
      case rel => exact ⟨k', y', by have := HK.out; omega, by simp [*], by simp [*], HY'⟩
      case measure => have := HK.out; simp [intOf]; omega
    · obtain rfl : k = 0 := by omega
      have hyr : y = 9223372036854775808 := HY.out
      clear HY
      subst hyr
      go_wp2
      go_ret
      exact ⟨rfl, rfl⟩
theorem pre_m (s : ByteArray) (hp : 0 < s.size) : pre s pm = ((((s[0]'hp).toNat : Nat) : Int) == 45) := by
  have h1 : pm.size = 1 := rfl
  have h3 : s.data.toList.length = s.size := rfl
  have h2 : (s.extract 0 1).toList = [s[0]'hp] := by
    rw [ByteArray.toList_eq, ByteArray.data_extract, Array.toList_extract, List.extract_eq_take_drop]
    have hl : 0 < s.data.toList.length := by omega
    rw [List.drop_zero, show 1 - 0 = 0 + 1 from rfl, List.take_succ_eq_append_getElem hl]
    rfl
  unfold pre
  rw [h1, h2, decide_eq_true (show 1 ≤ s.size from hp), Bool.true_and]
  have e : pm.toList = [45] := by rw [ByteArray.toList_eq]; rfl
  rw [e, Bool.eq_iff_iff]
  simp
  constructor
  · intro h
    rw [h]; rfl
  · intro h
    have h' : (s[0]'hp).toNat = 45 := by omega
    exact UInt8.toNat_inj.1 h'
theorem pre_m0 (s : ByteArray) (hp : ¬ 0 < s.size) : pre s pm = false := by
  unfold pre
  rw [show pm.size = 1 from rfl, decide_eq_false (by omega), Bool.false_and]
/-- The document's own reading of a base. -/
theorem pre_2 (s p : ByteArray) (b : Bool) (hp : p.size = 2) (h : pre s p = b) : (2 ≤ s.size ∧ ((s.extract 0 2).toList == p.toList) = b) ∨ (¬ 2 ≤ s.size ∧ b = false) := by
  unfold pre at h
  rw [hp] at h
  by_cases h2 : 2 ≤ s.size
  · rw [decide_eq_true h2, Bool.true_and] at h
    exact Or.inl ⟨h2, h⟩
  · rw [decide_eq_false h2, Bool.false_and] at h
    exact Or.inr ⟨h2, h.symm⟩
set_option maxHeartbeats 8000000 in
set_option maxRecDepth 4000 in
theorem refNumber_at (s : ByteArray) (m e : Int) (w : World) (hs : s.size ≤ 140737488351232) (h : Numbered s m e) :
    Calls Tryz.prog 125 #[.string s] w fun e' w' => e' = .returned (.tuple #[.int .i64 m, .int .i64 e]) ∧ Gb w w' := by
  obtain ⟨n, t, b, v, f, h1, h2, h3, h4⟩ := h
  have hv := h3.bd
  have hr := rest_size s pm n
  have ht := h2.size
  have cp := fun w => refParse_at b t v f w (by omega) h3
  have H2 := hide h2
  have H4 := hide h4
  clear h3 h2 h4
  by_cases hp : 0 < s.size
  · have e1 := pre_m s hp
    rw [h1] at e1
    cases n
    · have e1' : ((((s[0]'hp).toNat : Nat) : Int) == 45) = false := e1.symm
      have hu : rest s pm false = s := rfl
      rw [hu] at H2 hr
      clear e1 h1 hu
      rcases H2.out with ⟨b1, rfl, rfl⟩ | ⟨b1, b2, rfl, rfl⟩ | ⟨b1, b2, hq, rfl⟩
      · obtain ⟨z, c1⟩ : 2 ≤ s.size ∧ ((s.extract 0 2).toList == px.toList) = true := by
          rcases pre_2 s px true rfl b1 with h | ⟨_, h⟩
          · exact h
          · cases h
        have c1' : ((s.extract 0 2).toList == [48, 120]) = true := by rw [← c1, show px.toList = [48, 120] from by rw [ByteArray.toList_eq]; rfl]
        have hx : rest s px true = s.extract 2 s.size := rfl
        rw [hx] at cp
        clear H2 b1 c1 hx
        rcases H4.out with ⟨hf, rfl, rfl⟩ | ⟨rfl, h5, rfl, rfl⟩ | ⟨rfl, h5, h6, rfl, rfl⟩
        · have hf' : (e == 0) = false := by simpa using hf
          clear hf H4
          go_enter Tryz.func125, Tryz.ntmps125
          go_wp2_with (first | (go_at_call 140; refine (cp _).mono ?_; rintro e w1 ⟨rfl, g1⟩) | (go_at_call 141; refine (pow63 _).mono ?_; rintro e w1 ⟨rfl, rfl⟩))
          go_region
          all_goals go_wp2_with (first | (go_at_call 140; refine (cp _).mono ?_; rintro e w1 ⟨rfl, g1⟩) | (go_at_call 141; refine (pow63 _).mono ?_; rintro e w1 ⟨rfl, rfl⟩))
          all_goals go_ret2
          all_goals exact ⟨rfl, by first | exact g1 | exact (Gb.drew (Gb.refl _)).trans g1⟩
        · have hl : (9223372036854775808 : Int) ≤ (v : Int) := by omega
          clear h5 H4
          go_enter Tryz.func125, Tryz.ntmps125
          go_wp2_with (first | (go_at_call 140; refine (cp _).mono ?_; rintro e w1 ⟨rfl, g1⟩) | (go_at_call 141; refine (pow63 _).mono ?_; rintro e w1 ⟨rfl, rfl⟩))
          go_region
          all_goals go_wp2_with (first | (go_at_call 140; refine (cp _).mono ?_; rintro e w1 ⟨rfl, g1⟩) | (go_at_call 141; refine (pow63 _).mono ?_; rintro e w1 ⟨rfl, rfl⟩))
          all_goals go_ret2
          all_goals exact ⟨rfl, by first | exact g1 | exact (Gb.drew (Gb.refl _)).trans g1⟩
        · have hn2 : v ≠ 9223372036854775808 := fun h => by cases h6 h
          have hl : decide ((9223372036854775808 : Int) ≤ (v : Int)) = false := decide_eq_false (by omega)
          have hl2 : decide ((9223372036854775808 : Int) < (v : Int)) = false := decide_eq_false (by omega)
          have hw : wrap64 (v : Int) = (v : Int) := by unfold wrap64; omega
          clear h5 h6 H4 hn2 hv
          go_enter Tryz.func125, Tryz.ntmps125
          go_wp2_with (first | (go_at_call 140; refine (cp _).mono ?_; rintro e w1 ⟨rfl, g1⟩) | (go_at_call 141; refine (pow63 _).mono ?_; rintro e w1 ⟨rfl, rfl⟩))
          go_region
          all_goals go_wp2_with (first | (go_at_call 140; refine (cp _).mono ?_; rintro e w1 ⟨rfl, g1⟩) | (go_at_call 141; refine (pow63 _).mono ?_; rintro e w1 ⟨rfl, rfl⟩))
          all_goals go_ret2
          all_goals exact ⟨rfl, by first | exact g1 | exact (Gb.drew (Gb.refl _)).trans g1⟩
      · obtain ⟨z, c2⟩ : 2 ≤ s.size ∧ ((s.extract 0 2).toList == pb.toList) = true := by
          rcases pre_2 s pb true rfl b2 with h | ⟨_, h⟩
          · exact h
          · cases h
        have c1 : ((s.extract 0 2).toList == px.toList) = false := by
          rcases pre_2 s px false rfl b1 with h | ⟨h, _⟩
          · exact h.2
          · omega
        have c1' : ((s.extract 0 2).toList == [48, 120]) = false := by rw [← c1, show px.toList = [48, 120] from by rw [ByteArray.toList_eq]; rfl]
        have c2' : ((s.extract 0 2).toList == [48, 98]) = true := by rw [← c2, show pb.toList = [48, 98] from by rw [ByteArray.toList_eq]; rfl]
        have hx : rest s pb true = s.extract 2 s.size := rfl
        rw [hx] at cp
        clear H2 b1 b2 c1 c2 hx
        rcases H4.out with ⟨hf, rfl, rfl⟩ | ⟨rfl, h5, rfl, rfl⟩ | ⟨rfl, h5, h6, rfl, rfl⟩
        · have hf' : (e == 0) = false := by simpa using hf
          clear hf H4
          go_enter Tryz.func125, Tryz.ntmps125
          go_wp2_with (first | (go_at_call 140; refine (cp _).mono ?_; rintro e w1 ⟨rfl, g1⟩) | (go_at_call 141; refine (pow63 _).mono ?_; rintro e w1 ⟨rfl, rfl⟩))
          go_region
          all_goals go_wp2_with (first | (go_at_call 140; refine (cp _).mono ?_; rintro e w1 ⟨rfl, g1⟩) | (go_at_call 141; refine (pow63 _).mono ?_; rintro e w1 ⟨rfl, rfl⟩))
          all_goals go_ret2
          all_goals exact ⟨rfl, by first | exact g1 | exact (Gb.drew (Gb.refl _)).trans g1⟩
        · have hl : (9223372036854775808 : Int) ≤ (v : Int) := by omega
          clear h5 H4
          go_enter Tryz.func125, Tryz.ntmps125
          go_wp2_with (first | (go_at_call 140; refine (cp _).mono ?_; rintro e w1 ⟨rfl, g1⟩) | (go_at_call 141; refine (pow63 _).mono ?_; rintro e w1 ⟨rfl, rfl⟩))
          go_region
          all_goals go_wp2_with (first | (go_at_call 140; refine (cp _).mono ?_; rintro e w1 ⟨rfl, g1⟩) | (go_at_call 141; refine (pow63 _).mono ?_; rintro e w1 ⟨rfl, rfl⟩))
          all_goals go_ret2
          all_goals exact ⟨rfl, by first | exact g1 | exact (Gb.drew (Gb.refl _)).trans g1⟩
        · have hn2 : v ≠ 9223372036854775808 := fun h => by cases h6 h
          have hl : decide ((9223372036854775808 : Int) ≤ (v : Int)) = false := decide_eq_false (by omega)
          have hl2 : decide ((9223372036854775808 : Int) < (v : Int)) = false := decide_eq_false (by omega)
          have hw : wrap64 (v : Int) = (v : Int) := by unfold wrap64; omega
          clear h5 h6 H4 hn2 hv
          go_enter Tryz.func125, Tryz.ntmps125
          go_wp2_with (first | (go_at_call 140; refine (cp _).mono ?_; rintro e w1 ⟨rfl, g1⟩) | (go_at_call 141; refine (pow63 _).mono ?_; rintro e w1 ⟨rfl, rfl⟩))
          go_region
          all_goals go_wp2_with (first | (go_at_call 140; refine (cp _).mono ?_; rintro e w1 ⟨rfl, g1⟩) | (go_at_call 141; refine (pow63 _).mono ?_; rintro e w1 ⟨rfl, rfl⟩))
          all_goals go_ret2
          all_goals exact ⟨rfl, by first | exact g1 | exact (Gb.drew (Gb.refl _)).trans g1⟩
      · rw [hq] at cp ht
        clear hq
        by_cases z : 2 ≤ s.size
        · have c1 : ((s.extract 0 2).toList == px.toList) = false := by
            rcases pre_2 s px false rfl b1 with h | ⟨h, _⟩
            · exact h.2
            · omega
          have c2 : ((s.extract 0 2).toList == pb.toList) = false := by
            rcases pre_2 s pb false rfl b2 with h | ⟨h, _⟩
            · exact h.2
            · omega
          have c1' : ((s.extract 0 2).toList == [48, 120]) = false := by rw [← c1, show px.toList = [48, 120] from by rw [ByteArray.toList_eq]; rfl]
          have c2' : ((s.extract 0 2).toList == [48, 98]) = false := by rw [← c2, show pb.toList = [48, 98] from by rw [ByteArray.toList_eq]; rfl]
          clear H2 b1 b2 c1 c2
          rcases H4.out with ⟨hf, rfl, rfl⟩ | ⟨rfl, h5, rfl, rfl⟩ | ⟨rfl, h5, h6, rfl, rfl⟩
          · have hf' : (e == 0) = false := by simpa using hf
            clear hf H4
            go_enter Tryz.func125, Tryz.ntmps125
            go_wp2_with (first | (go_at_call 140; refine (cp _).mono ?_; rintro e w1 ⟨rfl, g1⟩) | (go_at_call 141; refine (pow63 _).mono ?_; rintro e w1 ⟨rfl, rfl⟩))
            all_goals go_ret2
            all_goals exact ⟨rfl, by first | exact g1 | exact (Gb.drew (Gb.refl _)).trans g1⟩
          · have hl : (9223372036854775808 : Int) ≤ (v : Int) := by omega
            clear h5 H4
            go_enter Tryz.func125, Tryz.ntmps125
            go_wp2_with (first | (go_at_call 140; refine (cp _).mono ?_; rintro e w1 ⟨rfl, g1⟩) | (go_at_call 141; refine (pow63 _).mono ?_; rintro e w1 ⟨rfl, rfl⟩))
            all_goals go_ret2
            all_goals exact ⟨rfl, by first | exact g1 | exact (Gb.drew (Gb.refl _)).trans g1⟩
          · have hn2 : v ≠ 9223372036854775808 := fun h => by cases h6 h
            have hl : decide ((9223372036854775808 : Int) ≤ (v : Int)) = false := decide_eq_false (by omega)
            have hl2 : decide ((9223372036854775808 : Int) < (v : Int)) = false := decide_eq_false (by omega)
            have hw : wrap64 (v : Int) = (v : Int) := by unfold wrap64; omega
            clear h5 h6 H4 hn2 hv
            go_enter Tryz.func125, Tryz.ntmps125
            go_wp2_with (first | (go_at_call 140; refine (cp _).mono ?_; rintro e w1 ⟨rfl, g1⟩) | (go_at_call 141; refine (pow63 _).mono ?_; rintro e w1 ⟨rfl, rfl⟩))
            all_goals go_ret2
            all_goals exact ⟨rfl, by first | exact g1 | exact (Gb.drew (Gb.refl _)).trans g1⟩
        · clear H2 b1 b2
          rcases H4.out with ⟨hf, rfl, rfl⟩ | ⟨rfl, h5, rfl, rfl⟩ | ⟨rfl, h5, h6, rfl, rfl⟩
          · have hf' : (e == 0) = false := by simpa using hf
            clear hf H4
            go_enter Tryz.func125, Tryz.ntmps125
            go_wp2_with (first | (go_at_call 140; refine (cp _).mono ?_; rintro e w1 ⟨rfl, g1⟩) | (go_at_call 141; refine (pow63 _).mono ?_; rintro e w1 ⟨rfl, rfl⟩))
            all_goals go_ret2
            all_goals exact ⟨rfl, by first | exact g1 | exact (Gb.drew (Gb.refl _)).trans g1⟩
          · have hl : (9223372036854775808 : Int) ≤ (v : Int) := by omega
            clear h5 H4
            go_enter Tryz.func125, Tryz.ntmps125
            go_wp2_with (first | (go_at_call 140; refine (cp _).mono ?_; rintro e w1 ⟨rfl, g1⟩) | (go_at_call 141; refine (pow63 _).mono ?_; rintro e w1 ⟨rfl, rfl⟩))
            all_goals go_ret2
            all_goals exact ⟨rfl, by first | exact g1 | exact (Gb.drew (Gb.refl _)).trans g1⟩
          · have hn2 : v ≠ 9223372036854775808 := fun h => by cases h6 h
            have hl : decide ((9223372036854775808 : Int) ≤ (v : Int)) = false := decide_eq_false (by omega)
            have hl2 : decide ((9223372036854775808 : Int) < (v : Int)) = false := decide_eq_false (by omega)
            have hw : wrap64 (v : Int) = (v : Int) := by unfold wrap64; omega
            clear h5 h6 H4 hn2 hv
            go_enter Tryz.func125, Tryz.ntmps125
            go_wp2_with (first | (go_at_call 140; refine (cp _).mono ?_; rintro e w1 ⟨rfl, g1⟩) | (go_at_call 141; refine (pow63 _).mono ?_; rintro e w1 ⟨rfl, rfl⟩))
            all_goals go_ret2
            all_goals exact ⟨rfl, by first | exact g1 | exact (Gb.drew (Gb.refl _)).trans g1⟩
    · have e1' : ((((s[0]'hp).toNat : Nat) : Int) == 45) = true := e1.symm
      have hu : rest s pm true = s.extract 1 s.size := rfl
      rw [hu] at H2 hr ht
      clear e1 h1
      obtain ⟨U, hU⟩ : ∃ U, U = s.extract 1 s.size := ⟨_, rfl⟩
      rw [← hU] at H2 hr ht
      have hU' : s.extract 1 s.size = U := hU.symm
      clear hU hu
      rcases H2.out with ⟨b1, rfl, rfl⟩ | ⟨b1, b2, rfl, rfl⟩ | ⟨b1, b2, hq, rfl⟩
      · obtain ⟨z, c1⟩ : 2 ≤ U.size ∧ ((U.extract 0 2).toList == px.toList) = true := by
          rcases pre_2 U px true rfl b1 with h | ⟨_, h⟩
          · exact h
          · cases h
        have c1' : ((U.extract 0 2).toList == [48, 120]) = true := by rw [← c1, show px.toList = [48, 120] from by rw [ByteArray.toList_eq]; rfl]
        have hx : rest U px true = U.extract 2 U.size := rfl
        rw [hx] at cp
        clear H2 b1 c1 hx
        rcases H4.out with ⟨hf, rfl, rfl⟩ | ⟨rfl, h5, rfl, rfl⟩ | ⟨rfl, h5, h6, rfl, rfl⟩
        · have hf' : (e == 0) = false := by simpa using hf
          clear hf H4
          go_enter Tryz.func125, Tryz.ntmps125
          go_wp2_with (first | (go_at_call 140; refine (cp _).mono ?_; rintro e w1 ⟨rfl, g1⟩) | (go_at_call 141; refine (pow63 _).mono ?_; rintro e w1 ⟨rfl, rfl⟩))
          go_region
          all_goals go_wp2_with (first | (go_at_call 140; refine (cp _).mono ?_; rintro e w1 ⟨rfl, g1⟩) | (go_at_call 141; refine (pow63 _).mono ?_; rintro e w1 ⟨rfl, rfl⟩))
          all_goals go_ret2
          all_goals exact ⟨rfl, by first | exact g1 | exact (Gb.drew (Gb.refl _)).trans g1⟩
        · have hl : (9223372036854775808 : Int) < (v : Int) := by
            rcases h5 with h | ⟨_, h⟩
            · omega
            · cases h
          clear h5 H4
          go_enter Tryz.func125, Tryz.ntmps125
          go_wp2_with (first | (go_at_call 140; refine (cp _).mono ?_; rintro e w1 ⟨rfl, g1⟩) | (go_at_call 141; refine (pow63 _).mono ?_; rintro e w1 ⟨rfl, rfl⟩))
          go_region
          all_goals go_wp2_with (first | (go_at_call 140; refine (cp _).mono ?_; rintro e w1 ⟨rfl, g1⟩) | (go_at_call 141; refine (pow63 _).mono ?_; rintro e w1 ⟨rfl, rfl⟩))
          all_goals go_ret2
          all_goals exact ⟨rfl, by first | exact g1 | exact (Gb.drew (Gb.refl _)).trans g1⟩
        · have hl : ¬ (9223372036854775808 : Int) < (v : Int) := by omega
          have hm : wrap64 (IntKind.u64.wrap (-(v : Int))) = -(v : Int) := by simp only [IntKind.wrap_u64, wrap64]; omega
          clear h5 h6 H4
          go_enter Tryz.func125, Tryz.ntmps125
          go_wp2_with (first | (go_at_call 140; refine (cp _).mono ?_; rintro e w1 ⟨rfl, g1⟩) | (go_at_call 141; refine (pow63 _).mono ?_; rintro e w1 ⟨rfl, rfl⟩))
          go_region
          all_goals go_wp2_with (first | (go_at_call 140; refine (cp _).mono ?_; rintro e w1 ⟨rfl, g1⟩) | (go_at_call 141; refine (pow63 _).mono ?_; rintro e w1 ⟨rfl, rfl⟩))
          all_goals go_ret2
          all_goals exact ⟨by simp, by first | exact g1 | exact (Gb.drew (Gb.refl _)).trans g1⟩
      · obtain ⟨z, c2⟩ : 2 ≤ U.size ∧ ((U.extract 0 2).toList == pb.toList) = true := by
          rcases pre_2 U pb true rfl b2 with h | ⟨_, h⟩
          · exact h
          · cases h
        have c1 : ((U.extract 0 2).toList == px.toList) = false := by
          rcases pre_2 U px false rfl b1 with h | ⟨h, _⟩
          · exact h.2
          · omega
        have c1' : ((U.extract 0 2).toList == [48, 120]) = false := by rw [← c1, show px.toList = [48, 120] from by rw [ByteArray.toList_eq]; rfl]
        have c2' : ((U.extract 0 2).toList == [48, 98]) = true := by rw [← c2, show pb.toList = [48, 98] from by rw [ByteArray.toList_eq]; rfl]
        have hx : rest U pb true = U.extract 2 U.size := rfl
        rw [hx] at cp
        clear H2 b1 b2 c1 c2 hx
        rcases H4.out with ⟨hf, rfl, rfl⟩ | ⟨rfl, h5, rfl, rfl⟩ | ⟨rfl, h5, h6, rfl, rfl⟩
        · have hf' : (e == 0) = false := by simpa using hf
          clear hf H4
          go_enter Tryz.func125, Tryz.ntmps125
          go_wp2_with (first | (go_at_call 140; refine (cp _).mono ?_; rintro e w1 ⟨rfl, g1⟩) | (go_at_call 141; refine (pow63 _).mono ?_; rintro e w1 ⟨rfl, rfl⟩))
          go_region
          all_goals go_wp2_with (first | (go_at_call 140; refine (cp _).mono ?_; rintro e w1 ⟨rfl, g1⟩) | (go_at_call 141; refine (pow63 _).mono ?_; rintro e w1 ⟨rfl, rfl⟩))
          all_goals go_ret2
          all_goals exact ⟨rfl, by first | exact g1 | exact (Gb.drew (Gb.refl _)).trans g1⟩
        · have hl : (9223372036854775808 : Int) < (v : Int) := by
            rcases h5 with h | ⟨_, h⟩
            · omega
            · cases h
          clear h5 H4
          go_enter Tryz.func125, Tryz.ntmps125
          go_wp2_with (first | (go_at_call 140; refine (cp _).mono ?_; rintro e w1 ⟨rfl, g1⟩) | (go_at_call 141; refine (pow63 _).mono ?_; rintro e w1 ⟨rfl, rfl⟩))
          go_region
          all_goals go_wp2_with (first | (go_at_call 140; refine (cp _).mono ?_; rintro e w1 ⟨rfl, g1⟩) | (go_at_call 141; refine (pow63 _).mono ?_; rintro e w1 ⟨rfl, rfl⟩))
          all_goals go_ret2
          all_goals exact ⟨rfl, by first | exact g1 | exact (Gb.drew (Gb.refl _)).trans g1⟩
        · have hl : ¬ (9223372036854775808 : Int) < (v : Int) := by omega
          have hm : wrap64 (IntKind.u64.wrap (-(v : Int))) = -(v : Int) := by simp only [IntKind.wrap_u64, wrap64]; omega
          clear h5 h6 H4
          go_enter Tryz.func125, Tryz.ntmps125
          go_wp2_with (first | (go_at_call 140; refine (cp _).mono ?_; rintro e w1 ⟨rfl, g1⟩) | (go_at_call 141; refine (pow63 _).mono ?_; rintro e w1 ⟨rfl, rfl⟩))
          go_region
          all_goals go_wp2_with (first | (go_at_call 140; refine (cp _).mono ?_; rintro e w1 ⟨rfl, g1⟩) | (go_at_call 141; refine (pow63 _).mono ?_; rintro e w1 ⟨rfl, rfl⟩))
          all_goals go_ret2
          all_goals exact ⟨by simp, by first | exact g1 | exact (Gb.drew (Gb.refl _)).trans g1⟩
      · rw [hq] at cp ht
        clear hq
        by_cases z : 2 ≤ U.size
        · have c1 : ((U.extract 0 2).toList == px.toList) = false := by
            rcases pre_2 U px false rfl b1 with h | ⟨h, _⟩
            · exact h.2
            · omega
          have c2 : ((U.extract 0 2).toList == pb.toList) = false := by
            rcases pre_2 U pb false rfl b2 with h | ⟨h, _⟩
            · exact h.2
            · omega
          have c1' : ((U.extract 0 2).toList == [48, 120]) = false := by rw [← c1, show px.toList = [48, 120] from by rw [ByteArray.toList_eq]; rfl]
          have c2' : ((U.extract 0 2).toList == [48, 98]) = false := by rw [← c2, show pb.toList = [48, 98] from by rw [ByteArray.toList_eq]; rfl]
          clear H2 b1 b2 c1 c2
          rcases H4.out with ⟨hf, rfl, rfl⟩ | ⟨rfl, h5, rfl, rfl⟩ | ⟨rfl, h5, h6, rfl, rfl⟩
          · have hf' : (e == 0) = false := by simpa using hf
            clear hf H4
            go_enter Tryz.func125, Tryz.ntmps125
            go_wp2_with (first | (go_at_call 140; refine (cp _).mono ?_; rintro e w1 ⟨rfl, g1⟩) | (go_at_call 141; refine (pow63 _).mono ?_; rintro e w1 ⟨rfl, rfl⟩))
            all_goals go_ret2
            all_goals exact ⟨rfl, by first | exact g1 | exact (Gb.drew (Gb.refl _)).trans g1⟩
          · have hl : (9223372036854775808 : Int) < (v : Int) := by
              rcases h5 with h | ⟨_, h⟩
              · omega
              · cases h
            clear h5 H4
            go_enter Tryz.func125, Tryz.ntmps125
            go_wp2_with (first | (go_at_call 140; refine (cp _).mono ?_; rintro e w1 ⟨rfl, g1⟩) | (go_at_call 141; refine (pow63 _).mono ?_; rintro e w1 ⟨rfl, rfl⟩))
            all_goals go_ret2
            all_goals exact ⟨rfl, by first | exact g1 | exact (Gb.drew (Gb.refl _)).trans g1⟩
          · have hl : ¬ (9223372036854775808 : Int) < (v : Int) := by omega
            have hm : wrap64 (IntKind.u64.wrap (-(v : Int))) = -(v : Int) := by simp only [IntKind.wrap_u64, wrap64]; omega
            clear h5 h6 H4
            go_enter Tryz.func125, Tryz.ntmps125
            go_wp2_with (first | (go_at_call 140; refine (cp _).mono ?_; rintro e w1 ⟨rfl, g1⟩) | (go_at_call 141; refine (pow63 _).mono ?_; rintro e w1 ⟨rfl, rfl⟩))
            all_goals go_ret2
            all_goals exact ⟨by simp, by first | exact g1 | exact (Gb.drew (Gb.refl _)).trans g1⟩
        · clear H2 b1 b2
          rcases H4.out with ⟨hf, rfl, rfl⟩ | ⟨rfl, h5, rfl, rfl⟩ | ⟨rfl, h5, h6, rfl, rfl⟩
          · have hf' : (e == 0) = false := by simpa using hf
            clear hf H4
            go_enter Tryz.func125, Tryz.ntmps125
            go_wp2_with (first | (go_at_call 140; refine (cp _).mono ?_; rintro e w1 ⟨rfl, g1⟩) | (go_at_call 141; refine (pow63 _).mono ?_; rintro e w1 ⟨rfl, rfl⟩))
            all_goals go_ret2
            all_goals exact ⟨rfl, by first | exact g1 | exact (Gb.drew (Gb.refl _)).trans g1⟩
          · have hl : (9223372036854775808 : Int) < (v : Int) := by
              rcases h5 with h | ⟨_, h⟩
              · omega
              · cases h
            clear h5 H4
            go_enter Tryz.func125, Tryz.ntmps125
            go_wp2_with (first | (go_at_call 140; refine (cp _).mono ?_; rintro e w1 ⟨rfl, g1⟩) | (go_at_call 141; refine (pow63 _).mono ?_; rintro e w1 ⟨rfl, rfl⟩))
            all_goals go_ret2
            all_goals exact ⟨rfl, by first | exact g1 | exact (Gb.drew (Gb.refl _)).trans g1⟩
          · have hl : ¬ (9223372036854775808 : Int) < (v : Int) := by omega
            have hm : wrap64 (IntKind.u64.wrap (-(v : Int))) = -(v : Int) := by simp only [IntKind.wrap_u64, wrap64]; omega
            clear h5 h6 H4
            go_enter Tryz.func125, Tryz.ntmps125
            go_wp2_with (first | (go_at_call 140; refine (cp _).mono ?_; rintro e w1 ⟨rfl, g1⟩) | (go_at_call 141; refine (pow63 _).mono ?_; rintro e w1 ⟨rfl, rfl⟩))
            all_goals go_ret2
            all_goals exact ⟨by simp, by first | exact g1 | exact (Gb.drew (Gb.refl _)).trans g1⟩
  · have e1 := pre_m0 s hp
    obtain rfl : n = false := h1.symm.trans e1
    have hu : rest s pm false = s := rfl
    rw [hu] at H2 hr
    clear e1 h1 hu
    rcases H2.out with ⟨b1, rfl, rfl⟩ | ⟨b1, b2, rfl, rfl⟩ | ⟨b1, b2, hq, rfl⟩
    · obtain ⟨z, c1⟩ : 2 ≤ s.size ∧ ((s.extract 0 2).toList == px.toList) = true := by
        rcases pre_2 s px true rfl b1 with h | ⟨_, h⟩
        · exact h
        · cases h
      have c1' : ((s.extract 0 2).toList == [48, 120]) = true := by rw [← c1, show px.toList = [48, 120] from by rw [ByteArray.toList_eq]; rfl]
      have hx : rest s px true = s.extract 2 s.size := rfl
      rw [hx] at cp
      clear H2 b1 c1 hx
      exact absurd z (by omega)
    · obtain ⟨z, c2⟩ : 2 ≤ s.size ∧ ((s.extract 0 2).toList == pb.toList) = true := by
        rcases pre_2 s pb true rfl b2 with h | ⟨_, h⟩
        · exact h
        · cases h
      have c1 : ((s.extract 0 2).toList == px.toList) = false := by
        rcases pre_2 s px false rfl b1 with h | ⟨h, _⟩
        · exact h.2
        · omega
      have c1' : ((s.extract 0 2).toList == [48, 120]) = false := by rw [← c1, show px.toList = [48, 120] from by rw [ByteArray.toList_eq]; rfl]
      have c2' : ((s.extract 0 2).toList == [48, 98]) = true := by rw [← c2, show pb.toList = [48, 98] from by rw [ByteArray.toList_eq]; rfl]
      have hx : rest s pb true = s.extract 2 s.size := rfl
      rw [hx] at cp
      clear H2 b1 b2 c1 c2 hx
      exact absurd z (by omega)
    · rw [hq] at cp ht
      clear hq
      by_cases z : 2 ≤ s.size
      · have c1 : ((s.extract 0 2).toList == px.toList) = false := by
          rcases pre_2 s px false rfl b1 with h | ⟨h, _⟩
          · exact h.2
          · omega
        have c2 : ((s.extract 0 2).toList == pb.toList) = false := by
          rcases pre_2 s pb false rfl b2 with h | ⟨h, _⟩
          · exact h.2
          · omega
        have c1' : ((s.extract 0 2).toList == [48, 120]) = false := by rw [← c1, show px.toList = [48, 120] from by rw [ByteArray.toList_eq]; rfl]
        have c2' : ((s.extract 0 2).toList == [48, 98]) = false := by rw [← c2, show pb.toList = [48, 98] from by rw [ByteArray.toList_eq]; rfl]
        clear H2 b1 b2 c1 c2
        exact absurd z (by omega)
      · clear H2 b1 b2
        rcases H4.out with ⟨hf, rfl, rfl⟩ | ⟨rfl, h5, rfl, rfl⟩ | ⟨rfl, h5, h6, rfl, rfl⟩
        · have hf' : (e == 0) = false := by simpa using hf
          clear hf H4
          go_enter Tryz.func125, Tryz.ntmps125
          go_wp2_with (first | (go_at_call 140; refine (cp _).mono ?_; rintro e w1 ⟨rfl, g1⟩) | (go_at_call 141; refine (pow63 _).mono ?_; rintro e w1 ⟨rfl, rfl⟩))
          all_goals go_ret2
          all_goals exact ⟨rfl, by first | exact g1 | exact (Gb.drew (Gb.refl _)).trans g1⟩
        · have hl : (9223372036854775808 : Int) ≤ (v : Int) := by omega
          clear h5 H4
          go_enter Tryz.func125, Tryz.ntmps125
          go_wp2_with (first | (go_at_call 140; refine (cp _).mono ?_; rintro e w1 ⟨rfl, g1⟩) | (go_at_call 141; refine (pow63 _).mono ?_; rintro e w1 ⟨rfl, rfl⟩))
          all_goals go_ret2
          all_goals exact ⟨rfl, by first | exact g1 | exact (Gb.drew (Gb.refl _)).trans g1⟩
        · have hn2 : v ≠ 9223372036854775808 := fun h => by cases h6 h
          have hl : decide ((9223372036854775808 : Int) ≤ (v : Int)) = false := decide_eq_false (by omega)
          have hl2 : decide ((9223372036854775808 : Int) < (v : Int)) = false := decide_eq_false (by omega)
          have hw : wrap64 (v : Int) = (v : Int) := by unfold wrap64; omega
          clear h5 h6 H4 hn2 hv
          go_enter Tryz.func125, Tryz.ntmps125
          go_wp2_with (first | (go_at_call 140; refine (cp _).mono ?_; rintro e w1 ⟨rfl, g1⟩) | (go_at_call 141; refine (pow63 _).mono ?_; rintro e w1 ⟨rfl, rfl⟩))
          all_goals go_ret2
          all_goals exact ⟨rfl, by first | exact g1 | exact (Gb.drew (Gb.refl _)).trans g1⟩
end Go.Proofs.YtpanodaecjlgaaaGreatDoor.digs
/- The document's reader: must; what has stopped stays; one thing alone. -/
namespace Go.Proofs.YtpanodaecjlgaaaGreatDoor.ex
set_option linter.unusedVariables false
open Go.ChangeShapes Go.WideShapes Go.ChangeAt Go.RowKit
open mem lx

theorem must_yes (w : World) (P : Nat) (t : Tk) (ts : List Tk) (en : Nat) (p : Int) (h : Ey w P (t :: ts) en 0 p) :
    Calls Tryz.prog 29 #[.pointer (some ⟨P, 0, none⟩), .string (tx t.t)] w fun e w' => e = .returned (.tuple #[]) ∧ Ey w' P ts en 0 p ∧ Gp P w w' := by
  have cT := take_yes w P t ts en p h
  clear h
  generalize tx t.t = S at *
  go_enter Tryz.func29, Tryz.ntmps29
  go_wp2_with fail
  refine cT.mono ?_
  rintro e w2 ⟨rfl, hE, hg⟩
  go_wp2
  exact bodyPost_end (results_none rfl _ _ _) rfl ⟨rfl, hE, hg⟩
theorem must_no (w : World) (P : Nat) (ts : List Tk) (en : Nat) (p : Int) (s : List UInt8) (h : Ey w P ts en 0 p) (hs : (hd en ts).t ≠ s) :
    Calls Tryz.prog 29 #[.pointer (some ⟨P, 0, none⟩), .string (tx s)] w fun e w' => e = .returned (.tuple #[]) ∧ Ey w' P ts en 3 ((hd en ts).a : Int) ∧ Gp P w w' := by
  have cT := take_no w P ts en 0 p s h (by show (if (0 : Int) = 0 then (hd en ts).t else []) ≠ s; rw [if_pos rfl]; exact hs)
  have cP := fun wx (hb : Bl w wx) => place_at wx P ts en 0 p (h.step hb)
  have cW := fun wx (hb : Bl w wx) a b => wrong_yes wx P ts en p a b (h.step hb)
  clear h hs
  generalize tx s = S at *
  go_enter Tryz.func29, Tryz.ntmps29
  go_wp2_with fail
  refine cT.mono ?_
  rintro e w2 ⟨rfl, hb⟩
  go_wp2_with fail
  refine (cP _ hb).mono ?_
  rintro e w3 ⟨rfl, rfl⟩
  go_wp2_with fail
  refine (cW _ hb _ _).mono ?_
  rintro e w4 ⟨rfl, hE, hg⟩
  go_wp2
  exact bodyPost_end (results_none rfl _ _ _) rfl ⟨rfl, hE, (Gp.bl hb).trans hg⟩
theorem must_off (w : World) (P : Nat) (ts : List Tk) (en : Nat) (c p : Int) (s : List UInt8) (h : Ey w P ts en c p) (hc : c ≠ 0) (hs : s ≠ []) :
    Calls Tryz.prog 29 #[.pointer (some ⟨P, 0, none⟩), .string (tx s)] w fun e w' => e = .returned (.tuple #[]) ∧ Bl w w' := by
  have cT := take_no w P ts en c p s h (by show (if c = 0 then (hd en ts).t else []) ≠ s; rw [if_neg hc]; exact fun e => hs e.symm)
  have cP := fun wx (hb : Bl w wx) => place_at wx P ts en c p (h.step hb)
  have cW := fun wx (hb : Bl w wx) a b => wrong_no wx P ts en c p a b (h.step hb) hc
  clear h hs hc
  generalize tx s = S at *
  go_enter Tryz.func29, Tryz.ntmps29
  go_wp2_with fail
  refine cT.mono ?_
  rintro e w2 ⟨rfl, hb⟩
  go_wp2_with fail
  refine (cP _ hb).mono ?_
  rintro e w3 ⟨rfl, rfl⟩
  go_wp2_with fail
  refine (cW _ hb _ _).mono ?_
  rintro e w4 ⟨rfl, hb4⟩
  go_wp2
  exact bodyPost_end (results_none rfl _ _ _) rfl ⟨rfl, hb.trans hb4⟩
set_option maxRecDepth 10000 in
theorem single_off (w : World) (P : Nat) (ts : List Tk) (en : Nat) (c p d : Int) (h : Ey w P ts en c p) (hc : c ≠ 0) :
    Calls Tryz.prog 108 #[.pointer (some ⟨P, 0, none⟩), .int .i64 d] w fun e w' => e = .returned (.pointer none) ∧ Bl w w' := by
  have cP := place_at w P ts en c p h
  have cT := text_at w P ts en c p h
  have cS := fun wx (hb : Bl w wx) => stop_at wx P ts en c p (h.step hb)
  have hc' : (c == 0) = false := by rw [beq_eq_false_iff_ne]; exact hc
  rw [hc', show (!false) = true from rfl] at cS
  clear h hc hc'
  generalize tx (see c en ts) = S at *
  go_enter Tryz.func108, Tryz.ntmps108
  go_wp2_with fail
  refine cP.mono ?_
  rintro e w2 ⟨rfl, rfl⟩
  go_wp2_with fail
  refine cT.mono ?_
  rintro e w3 ⟨rfl, hb3⟩
  go_wp2_with fail
  refine (cS _ hb3).mono ?_
  rintro e w4 ⟨rfl, hb4⟩
  go_wp2
  go_ret
  exact ⟨rfl, hb3.trans hb4⟩
set_option maxRecDepth 10000 in
theorem expr_off (w : World) (P : Nat) (ts : List Tk) (en : Nat) (c p m d : Int) (h : Ey w P ts en c p) (hc : c ≠ 0) :
    Calls Tryz.prog 85 #[.pointer (some ⟨P, 0, none⟩), .int .i64 m, .int .i64 d] w fun e w' => e = .returned (.pointer none) ∧ Bl w w' := by
  have cP := single_off w P ts en c p d h hc
  have cS := fun wx (hb : Bl w wx) => stop_at wx P ts en c p (h.step hb)
  have hc' : (c == 0) = false := by rw [beq_eq_false_iff_ne]; exact hc
  rw [hc', show (!false) = true from rfl] at cS
  clear h hc hc'
  go_enter Tryz.func85, Tryz.ntmps85
  go_wp2_with fail
  refine cP.mono ?_
  rintro e w2 ⟨rfl, hb2⟩
  go_wp2
  go_loopw [7] (fun v7 wr => v7 = .pointer none ∧ Hid (Bl w wr)) (fun _ _ => 0)
  case atStart => exact ⟨rfl, hb2⟩
  case round =>
    obtain ⟨rfl, HB⟩ := hrel
    go_wp2_with fail
    refine (cS _ HB.out).mono ?_
    rintro e w3 ⟨rfl, hb3⟩
    go_wp2
    go_ret
    exact ⟨rfl, HB.out.trans hb3⟩
end Go.Proofs.YtpanodaecjlgaaaGreatDoor.ex
/- The document's reader: one thing alone. -/
namespace Go.Proofs.YtpanodaecjlgaaaGreatDoor.ex
set_option linter.unusedVariables false
open Go.ChangeShapes Go.WideShapes Go.ChangeAt Go.RowKit
open mem lx

/-- What the document's reader answers. -/
def Xans (P en : Nat) (ts : List Tk) (w : World) (q : Res) (e : Ending) (w' : World) : Prop :=
  Gp P w w' ∧ match q with
  | .ok (x, r) => ∃ v, e = .returned v ∧ IsX w' v x ∧ Ey w' P r en 0 (-1) ∧ r.length < ts.length
  | .error (c, p) => ∃ o ts', e = .returned (.pointer o) ∧ Ey w' P ts' en c (p : Int) ∧ ts'.length ≤ ts.length ∧ c ≠ 0
theorem sg_is {f d en : Nat} {ts : List Tk} {q : Res} (hq : sg nb en (f + 1) d ts = some q) :
    (isN (hd en ts).t = true → q = if 12 < (hd en ts).t.length then .error (4, (hd en ts).a) else .ok (.nam (hd en ts).a (hd en ts).t, ts.tail)) ∧
    (isN (hd en ts).t = false → isU (hd en ts).t = true → q = if (nb (hd en ts).t).2 = 0 then .ok (.num (hd en ts).a (nb (hd en ts).t).1, ts.tail) else .error ((nb (hd en ts).t).2, (hd en ts).a)) ∧
    (isN (hd en ts).t = false → isU (hd en ts).t = false → (hd en ts).t = [40] → ∃ q1, (d = 8 ∨ ce nb en f 1 (d + 1) ts.tail = some q1) ∧ q = brk en (hd en ts).a d q1) ∧
    (isN (hd en ts).t = false → isU (hd en ts).t = false → ¬ (hd en ts).t = [40] → q = .error (3, (hd en ts).a)) := by
  cases ts with
  | nil =>
    rw [sg] at hq
    injection hq with hq
    refine ⟨fun h => ?_, fun _ h => ?_, fun _ _ h => ?_, fun _ _ _ => hq.symm⟩
    · exact absurd h (by show ¬ isN [] = true; decide)
    · exact absurd h (by show ¬ isU [] = true; decide)
    · exact absurd h (by show ¬ ([] : List UInt8) = [40]; decide)
  | cons t r =>
    rw [show hd en (t :: r) = t from rfl, show (t :: r).tail = r from rfl]
    rw [sg] at hq
    refine ⟨fun h1 => ?_, fun h1 h2 => ?_, fun h1 h2 h3 => ?_, fun h1 h2 h3 => ?_⟩
    · rw [if_pos h1] at hq
      split at hq
      · rename_i h; rw [if_pos h]; injection hq with hq; exact hq.symm
      · rename_i h; rw [if_neg h]; injection hq with hq; exact hq.symm
    · rw [if_neg (by rw [h1]; decide), if_pos h2] at hq
      split at hq
      · rename_i h; rw [if_pos h]; injection hq with hq; exact hq.symm
      · rename_i h; rw [if_neg h]; injection hq with hq; exact hq.symm
    · rw [if_neg (by rw [h1]; decide), if_neg (by rw [h2]; decide), if_pos h3] at hq
      split at hq
      · rename_i h8
        injection hq with hq
        exact ⟨.error (0, 0), Or.inl h8, by unfold brk; rw [if_pos h8]; exact hq.symm⟩
      · rename_i h8
        split at hq
        · cases hq
        · rename_i e hr
          injection hq with hq
          exact ⟨_, Or.inr hr, by rw [brk_err h8]; exact hq.symm⟩
        · rename_i x r' hr
          split at hq
          · rename_i h5
            injection hq with hq
            exact ⟨_, Or.inr hr, by rw [brk_yes h8 h5]; exact hq.symm⟩
          · rename_i h5
            injection hq with hq
            exact ⟨_, Or.inr hr, by rw [brk_no h8 h5]; exact hq.symm⟩
    · rw [if_neg (by rw [h1]; decide), if_neg (by rw [h2]; decide), if_neg h3] at hq
      injection hq with hq
      exact hq.symm
theorem hd_cons_of {en : Nat} {ts : List Tk} (h : (hd en ts).t ≠ []) : ∃ r, ts = hd en ts :: r := by
  cases ts with
  | nil => exact absurd rfl h
  | cons t r => exact ⟨r, rfl⟩
/-- What a box of an expression is. -/
theorem box_new (w : World) (a b c : Int) (n o : List UInt8) (S U : ByteArray) (hS : S = tx n) (hU : U = tx o) (l r : Value) : (w.alloc (.cells #[.int .i64 a, .int .i64 b, .int .i64 c, .string S, .string U, l, r] 118)).heap[w.heap.size]? = some (cellsX a b c n o l r) := by
  rw [new_at, hS, hU]
  rfl
set_option maxRecDepth 10000 in
set_option maxHeartbeats 2000000 in
theorem single_at (f P en d : Nat) (ts : List Tk) (q : Res) (w : World) (hE : Ey w P ts en 0 (-1)) (h8 : d ≤ 8) (hq : sg nb en (f + 1) d ts = some q)
    (cE : ∀ (q1 : Res) (d : Nat) (ts : List Tk) wx, Ey wx P ts en 0 (-1) → d ≤ 8 → ce nb en f 1 d ts = some q1 → Calls Tryz.prog 85 #[.pointer (some ⟨P, 0, none⟩), .int .i64 1, .int .i64 (d : Int)] wx fun e w' => Xans P en ts wx q1 e w') :
    Calls Tryz.prog 108 #[.pointer (some ⟨P, 0, none⟩), .int .i64 (d : Int)] w fun e w' => Xans P en ts w q e w' := by
  have cP := place_at w P ts en 0 (-1) hE
  have cT := text_at w P ts en 0 (-1) hE
  have cS := fun wx (hb : Bl w wx) => stop_at wx P ts en 0 (-1) (hE.step hb)
  rw [show see 0 en ts = (hd en ts).t from if_pos rfl] at cT
  rw [show (!((0 : Int) == 0)) = false from rfl] at cS
  have HE : Hid (Ey w P ts en 0 (-1)) := hE
  clear hE
  obtain ⟨T, hT⟩ : ∃ T, T = hd en ts := ⟨_, rfl⟩
  rw [← hT] at cT cP
  have hone := sg_is hq
  rw [← hT] at hone
  obtain ⟨o1, o2, o3, o4⟩ := hone
  have hcons : T.t ≠ [] → ∃ r, ts = T :: r := by rw [hT]; exact hd_cons_of
  have hTz : T.t.length ≤ 3000 := by
    by_cases h : T.t = []
    · rw [h]; simp
    · obtain ⟨r, hr⟩ := hcons h
      exact (HE.out.tok T (by rw [hr]; simp)).2
  have cN := IsName_at (tx T.t)
  rw [L_tx, isN_nmb] at cN
  have htl := tl_tx T.t
  have hsz : (tx T.t).size = T.t.length := tx_size _
  have HT : Hid (T = hd en ts) := hT
  clear hq hT
  have HNB := nb_is T.t
  obtain ⟨S, hS⟩ : ∃ S, S = tx T.t := ⟨_, rfl⟩
  rw [← hS] at cT cN htl hsz HNB
  have HS : Hid (S = tx T.t) := hS
  clear hS
  have cW := fun wx (hb : Bl w wx) a b => wrong_yes wx P ts en (-1) a b (HE.out.step hb)
  go_enter Tryz.func108, Tryz.ntmps108
  go_wp2_with fail
  refine cP.mono ?_
  rintro e w1 ⟨rfl, hw1⟩
  obtain rfl := hw1.symm
  go_wp2_with fail
  refine cT.mono ?_
  rintro e w2 ⟨rfl, hb2⟩
  go_wp2_with fail
  refine (cS _ hb2).mono ?_
  rintro e w3 ⟨rfl, hb3⟩
  have HB : Hid (Bl w w3) := hb2.trans hb3
  clear hb2 hb3 cP cT cS
  by_cases h40 : T.t = [40]
  · have h1 : isN T.t = false := by rw [h40]; decide
    have h2 : isU T.t = false := by rw [h40]; decide
    obtain ⟨q1, hr1, hq'⟩ := o3 h1 h2 h40
    subst hq'
    rw [h40] at htl
    obtain ⟨r, hr⟩ := hcons (by rw [h40]; simp)
    clear o1 o2 o3 o4 hcons hsz HNB cN h1 h2
    by_cases hd8 : d = 8
    · subst hd8
      clear hr1
      have HB8 : Hid (brk en T.a 8 q1 = .error (4, T.a)) := by unfold brk; rw [if_pos rfl]; rfl
      have cX := fun wx c p (h : Ey wx P ts en c p) (hc : c ≠ 0) => take_no wx P ts en c p [40] h (by show (if c = 0 then (hd en ts).t else []) ≠ [40]; rw [if_neg hc]; simp)
      go_wp2_with fail
      refine (cW _ HB.out _ _).mono ?_
      rintro e w4 ⟨rfl, hE4, hg4⟩
      have HE4 : Hid (Ey w4 P ts en 4 (T.a : Int) ∧ Gp P w w4) := ⟨hE4, (Gp.bl HB.out).trans hg4⟩
      clear hE4 hg4
      go_wp2_with fail
      refine (cX _ _ _ HE4.out.1 (by decide)).mono ?_
      rintro e w5 ⟨rfl, hb5⟩
      go_wp2_with fail
      refine (expr_off w5 P ts en 4 (T.a : Int) _ _ (HE4.out.1.step hb5) (by decide)).mono ?_
      rintro e w6 ⟨rfl, hb6⟩
      go_wp2_with fail
      refine (must_off w6 P ts en 4 (T.a : Int) [41] (HE4.out.1.step (hb5.trans hb6)) (by decide) (by simp)).mono ?_
      rintro e w7 ⟨rfl, hb7⟩
      go_wp2
      go_ret
      rw [HB8.out]
      exact ⟨HE4.out.2.trans (Gp.bl ((hb5.trans hb6).trans hb7)), none, ts, rfl, HE4.out.1.step ((hb5.trans hb6).trans hb7), Nat.le_refl _, by decide⟩
    · have hne : ¬ (8 : Int) ≤ (d : Int) := by omega
      have hr1' : ce nb en f 1 (d + 1) ts.tail = some q1 := by
        rcases hr1 with h | h
        · exact absurd h hd8
        · exact h
      have htail : ts.tail = r := by rw [hr]; rfl
      rw [htail] at hr1'
      have cX := fun wx (hb : Bl w wx) => take_yes wx P T r en (-1) (by rw [← hr]; exact HE.out.step hb)
      rw [h40] at cX
      have cR := fun wx (h : Ey wx P r en 0 (-1)) => cE q1 (d + 1) r wx h (by omega) hr1'
      rw [show (((d + 1 : Nat) : Nat) : Int) = (d : Int) + 1 by omega] at cR
      have HR : Hid (ts = T :: r) := hr
      clear hr hr1 hr1' htail cE cW
      go_wp2_with fail
      refine (cX _ HB.out).mono ?_
      rintro e w4 ⟨rfl, hE4, hg4⟩
      have HE4 : Hid (Ey w4 P r en 0 (-1) ∧ Gp P w w4) := ⟨hE4, (Gp.bl HB.out).trans hg4⟩
      clear hE4 hg4 cX
      go_wp2_with fail
      refine (cR _ HE4.out.1).mono ?_
      rintro e w5 ⟨hg5, hans⟩
      cases q1 with
      | error cp =>
        obtain ⟨c, p⟩ := cp
        obtain ⟨o, ts', rfl, hE5, hl5, hc⟩ := hans
        have HB8 : Hid (brk en T.a d (.error (c, p)) = .error (c, p)) := brk_err hd8
        have HE5 : Hid (Ey w5 P ts' en c (p : Int) ∧ Gp P w w5 ∧ ts'.length ≤ r.length) := ⟨hE5, HE4.out.2.trans hg5, hl5⟩
        have cM := must_off w5 P ts' en c (p : Int) [41] hE5 hc (by simp)
        clear hE5 hg5 hl5 cR
        go_wp2_with fail
        refine cM.mono ?_
        rintro e w6 ⟨rfl, hb6⟩
        go_wp2
        go_ret
        rw [HB8.out]
        exact ⟨HE5.out.2.1.trans (Gp.bl hb6), o, ts', rfl, HE5.out.1.step hb6, by rw [HR.out]; have := HE5.out.2.2; simp; omega, hc⟩
      | ok xr =>
        obtain ⟨x, r'⟩ := xr
        obtain ⟨v, rfl, hx5, hE5, hl5⟩ := hans
        obtain ⟨vb, rfl, _⟩ := hx5.ptr
        have HE5 : Hid (Ey w5 P r' en 0 (-1) ∧ Gp P w w5 ∧ r'.length < r.length ∧ IsX w5 (.pointer (some ⟨vb, 0, none⟩)) x) := ⟨hE5, HE4.out.2.trans hg5, hl5, hx5⟩
        by_cases h41 : (hd en r').t = [41]
        · have HB8 : Hid (brk en T.a d (.ok (x, r')) = .ok (x, r'.tail)) := brk_yes hd8 h41
          obtain ⟨r2, hr2⟩ := hd_cons_of (en := en) (ts := r') (by rw [h41]; simp)
          have cM := must_yes w5 P (hd en r') r2 en (-1) (by rw [← hr2]; exact hE5)
          rw [h41] at cM
          have HR2 : Hid (r' = hd en r' :: r2) := hr2
          clear hE5 hg5 hl5 hx5 hr2 cR h41
          go_wp2_with fail
          refine cM.mono ?_
          rintro e w6 ⟨rfl, hE6, hg6⟩
          go_wp2
          go_ret
          rw [HB8.out]
          have ht : r'.tail = r2 := by rw [HR2.out]; rfl
          refine ⟨HE5.out.2.1.trans hg6, _, rfl, HE5.out.2.2.2.keep (hg6.kxE HE5.out.1), by rw [ht]; exact hE6, ?_⟩
          rw [HR.out, List.length_tail]
          have := HE5.out.2.2.1
          simp
          omega
        · have HB8 : Hid (brk en T.a d (.ok (x, r')) = .error (3, (hd en r').a)) := brk_no hd8 h41
          have cM := must_no w5 P r' en (-1) [41] hE5 h41
          clear hE5 hg5 hl5 hx5 cR h41
          go_wp2_with fail
          refine cM.mono ?_
          rintro e w6 ⟨rfl, hE6, hg6⟩
          go_wp2
          go_ret
          rw [HB8.out]
          exact ⟨HE5.out.2.1.trans hg6, _, r', rfl, hE6, by rw [HR.out]; have := HE5.out.2.2.1; simp; omega, by decide⟩
  · have h40' : (T.t == [40]) = false := by rw [beq_eq_false_iff_ne]; exact h40
    clear cE
    cases h1 : isN T.t with
    | true =>
      have hq' := o1 h1
      rw [h1] at cN
      obtain ⟨r, hr⟩ := hcons (fun e => by rw [e] at h1; exact absurd h1 (by decide))
      clear o1 o2 o3 o4 hcons HNB h40
      by_cases h12 : 12 < T.t.length
      · rw [if_pos h12] at hq'
        subst hq'
        rw [← hsz] at h12
        have h12' : (12 : Int) < ((S).size : Int) := by omega
        go_wp2_with fail
        refine (cN _).mono ?_
        rintro e w4 ⟨rfl, rfl⟩
        go_wp2_with fail
        refine (cW _ HB.out _ _).mono ?_
        rintro e w4 ⟨rfl, hE4, hg4⟩
        have HE4 : Hid (Ey w4 P ts en 4 (T.a : Int) ∧ Gp P w w4) := ⟨hE4, (Gp.bl HB.out).trans hg4⟩
        clear hE4 hg4
        go_wp2_with fail
        refine (pass_no w4 P ts en 4 (T.a : Int) HE4.out.1 (by decide)).mono ?_
        rintro e w5 ⟨rfl, hb5⟩
        go_wp2
        go_ret
        exact ⟨(HE4.out.2.trans (Gp.bl hb5)).alloc _, _, ts, rfl, (HE4.out.1.step hb5).step ((Bl.refl _).alloc _), Nat.le_refl _, by decide⟩
      · rw [if_neg h12] at hq'
        subst hq'
        rw [← hsz] at h12
        have h12' : ¬ (12 : Int) < ((S).size : Int) := by omega
        have cX := fun wx (hb : Bl w wx) => pass_yes wx P T r en (-1) (by rw [← hr]; exact HE.out.step hb)
        rw [← HS.out] at cX
        have HR : Hid (ts = T :: r) := hr
        clear hr cW hsz
        go_wp2_with fail
        refine (cN _).mono ?_
        rintro e w4 ⟨rfl, rfl⟩
        go_wp2_with fail
        refine (cX _ HB.out).mono ?_
        rintro e w4 ⟨rfl, hE4, hg4⟩
        go_wp2
        go_ret
        refine ⟨((Gp.bl HB.out).trans hg4).alloc _, _, rfl, ⟨_, rfl, box_new w4 2 _ 0 _ [] _ _ HS.out rfl _ _⟩, ?_, ?_⟩
        · rw [HR.out]; exact hE4.step ((Bl.refl _).alloc _)
        · rw [HR.out]; simp
    | false =>
      rw [h1] at cN
      cases h2 : isU T.t with
      | true =>
        have hq' := o2 h1 h2
        obtain ⟨r, hr⟩ := hcons (fun e => by rw [e] at h2; exact absurd h2 (by decide))
        have cM := fun w => digs.refNumber_at S (nb T.t).1 (nb T.t).2 w (by omega) HNB
        obtain ⟨c, rr, hcr⟩ : ∃ c rr, T.t = c :: rr := by
          cases h : T.t with
          | nil => rw [h] at h2; exact absurd h2 (by decide)
          | cons c rr => exact ⟨c, rr, rfl⟩
        have hs0 : 0 < S.size := by rw [hsz, hcr]; simp
        have e1 : (((S[0]'hs0).toNat : Nat) : Int) = (c.toNat : Int) := by
          have : S = tx (c :: rr) := by rw [HS.out, hcr]
          subst this
          rfl
        have cD := refDigit_at (c.toNat : Int)
        have hdg : dg (c.toNat : Int) = true := by
          have : isU (c :: rr) = dg (c.toNat : Int) := rfl
          rw [← this, ← hcr]
          exact h2
        rw [hdg] at cD
        have hem : S.toList.isEmpty = false := by rw [htl, hcr]; rfl
        have hem' : (S.toList == []) = false := by rw [htl, hcr]; rfl
        have hb0 : (S.toList == [40]) = false := by rw [htl]; exact h40'
        generalize (c.toNat : Int) = cc at *
        clear o1 o2 o3 o4 hcons HNB h40 hcr hdg htl
        by_cases h0 : (nb T.t).2 = 0
        · rw [if_pos h0] at hq'
          subst hq'
          rw [h0] at cM
          obtain ⟨k, hk⟩ : ∃ k, k = (nb T.t).1 := ⟨_, rfl⟩
          rw [← hk] at cM
          have HK : Hid (k = (nb T.t).1) := hk
          have cX := fun wx (hb : Bl w wx) => pass_yes wx P T r en (-1) (by rw [← hr]; exact HE.out.step hb)
          rw [← HS.out] at cX
          have HR : Hid (ts = T :: r) := hr
          clear hk h0 hr cW hsz
          go_wp2_with fail
          refine (cN _).mono ?_
          rintro e w4 ⟨rfl, rfl⟩
          go_wp2_with fail
          refine (cD _).mono ?_
          rintro e w4 ⟨rfl, rfl⟩
          go_wp2_with fail
          refine (cM _).mono ?_
          rintro e w4 ⟨rfl, hb4⟩
          go_wp2_with fail
          refine (cX _ (HB.out.trans hb4.bl)).mono ?_
          rintro e w5 ⟨rfl, hE5, hg5⟩
          go_wp2
          go_ret
          refine ⟨((Gp.bl (HB.out.trans hb4.bl)).trans hg5).alloc _, _, rfl, ⟨_, rfl, ?_⟩, ?_, ?_⟩
          · rw [← HK.out]; exact box_new w5 1 _ k [] [] _ _ rfl rfl _ _
          · rw [HR.out]; exact hE5.step ((Bl.refl _).alloc _)
          · rw [HR.out]; simp
        · rw [if_neg h0] at hq'
          subst hq'
          obtain ⟨k, hk⟩ : ∃ k, k = (nb T.t).2 := ⟨_, rfl⟩
          obtain ⟨k1, hk1⟩ : ∃ k1, k1 = (nb T.t).1 := ⟨_, rfl⟩
          rw [← hk, ← hk1] at cM
          rw [← hk] at h0
          have HK : Hid (k = (nb T.t).2) := hk
          have h0' : (k == 0) = false := by rw [beq_eq_false_iff_ne]; exact h0
          have cW' := fun wx (hb : Bl w wx) => cW wx hb k (T.a : Int)
          clear hk hk1 hr cW hsz
          go_wp2_with fail
          refine (cN _).mono ?_
          rintro e w4 ⟨rfl, rfl⟩
          go_wp2_with fail
          refine (cD _).mono ?_
          rintro e w4 ⟨rfl, rfl⟩
          go_wp2_with fail
          refine (cM _).mono ?_
          rintro e w4 ⟨rfl, hb4⟩
          go_wp2_with fail
          refine (cW' _ (HB.out.trans hb4.bl)).mono ?_
          rintro e w5 ⟨rfl, hE5, hg5⟩
          have HE5 : Hid (Ey w5 P ts en k (T.a : Int) ∧ Gp P w w5) := ⟨hE5, (Gp.bl (HB.out.trans hb4.bl)).trans hg5⟩
          clear hE5 hg5 hb4
          go_wp2_with fail
          refine (pass_no w5 P ts en k (T.a : Int) HE5.out.1 h0).mono ?_
          rintro e w6 ⟨rfl, hb6⟩
          go_wp2
          go_ret
          refine ⟨(HE5.out.2.trans (Gp.bl hb6)).alloc _, ?_⟩
          rw [← HK.out]
          exact ⟨_, ts, rfl, (HE5.out.1.step hb6).step ((Bl.refl _).alloc _), Nat.le_refl _, h0⟩
      | false =>
        have hq' := o4 h1 h2 h40
        subst hq'
        clear o1 o2 o3 o4 HNB h40
        cases hTt : T.t with
        | nil =>
          have hem : S.toList.isEmpty = true := by rw [htl, hTt]; rfl
          have hem' : (S.toList == []) = true := by rw [htl, hTt]; rfl
          have hb0 : (S.toList == [40]) = false := by rw [htl]; exact h40'
          clear hcons htl hsz
          go_wp2_with fail
          refine (cN _).mono ?_
          rintro e w4 ⟨rfl, rfl⟩
          go_wp2_with fail
          refine (cW _ HB.out _ _).mono ?_
          rintro e w4 ⟨rfl, hE4, hg4⟩
          go_wp2
          go_ret
          exact ⟨(Gp.bl HB.out).trans hg4, none, ts, rfl, hE4, Nat.le_refl _, by decide⟩
        | cons c rr =>
          have hs0 : 0 < S.size := by rw [hsz, hTt]; simp
          have e1 : (((S[0]'hs0).toNat : Nat) : Int) = (c.toNat : Int) := by
            have : S = tx (c :: rr) := by rw [HS.out, hTt]
            subst this
            rfl
          have cD := refDigit_at (c.toNat : Int)
          have hdg : dg (c.toNat : Int) = false := by
            have : isU (c :: rr) = dg (c.toNat : Int) := rfl
            rw [← this, ← hTt]
            exact h2
          rw [hdg] at cD
          have hem : S.toList.isEmpty = false := by rw [htl, hTt]; rfl
          have hem' : (S.toList == []) = false := by rw [htl, hTt]; rfl
          have hb0 : (S.toList == [40]) = false := by rw [htl]; exact h40'
          generalize (c.toNat : Int) = cc at *
          clear hcons htl hsz hTt hdg
          go_wp2_with fail
          refine (cN _).mono ?_
          rintro e w4 ⟨rfl, rfl⟩
          go_wp2_with fail
          refine (cD _).mono ?_
          rintro e w4 ⟨rfl, rfl⟩
          go_wp2_with fail
          refine (cW _ HB.out _ _).mono ?_
          rintro e w4 ⟨rfl, hE4, hg4⟩
          go_wp2
          go_ret
          exact ⟨(Gp.bl HB.out).trans hg4, none, ts, rfl, hE4, Nat.le_refl _, by decide⟩
end Go.Proofs.YtpanodaecjlgaaaGreatDoor.ex
/- The document's reader: what ops hold together; the expression of a text. -/
namespace Go.Proofs.YtpanodaecjlgaaaGreatDoor.ex
set_option linter.unusedVariables false
open Go.ChangeShapes Go.WideShapes Go.ChangeAt Go.RowKit
open mem lx

theorem Ey.lenAt {w : World} {P : Nat} {ts : List Tk} {en : Nat} {c p : Int} (h : Ey w P ts en c p) : lenAt w P = ts.length := by
  obtain ⟨q, k, h1, _⟩ := h.ex
  have : w.cell? ⟨P, 0, none⟩ = some (.slice q ts.length k) := by rw [cell_of h1]; rfl
  unfold ex.lenAt
  rw [this]
theorem cl_is {f m d en : Nat} {x : Ex} {ts : List Tk} {q : Res} (hm : 1 ≤ m) (h : cl nb en (f + 1) m d x ts = some q) :
    (¬ m ≤ bd (hd en ts).t → q = .ok (x, ts)) ∧ (m ≤ bd (hd en ts).t → ts = hd en ts :: ts.tail ∧ ∃ q1, ce nb en f (bd (hd en ts).t + 1) d ts.tail = some q1 ∧ (∀ e, q1 = .error e → q = .error e) ∧ (∀ y r, q1 = .ok (y, r) → cl nb en f m d (.bin (hd en ts).a (hd en ts).t x y) r = some q)) := by
  cases ts with
  | nil =>
    rw [cl] at h
    injection h with h
    refine ⟨fun _ => h.symm, fun hb => ?_⟩
    have : m ≤ bd ([] : List UInt8) := hb
    have h0 : bd ([] : List UInt8) = 0 := by decide
    omega
  | cons t r =>
    rw [show hd en (t :: r) = t from rfl, show (t :: r).tail = r from rfl]
    rw [cl] at h
    refine ⟨fun hb => ?_, fun hb => ⟨rfl, ?_⟩⟩
    · rw [if_neg (fun h => hb h.1)] at h
      injection h with h
      exact h.symm
    · rw [if_pos ⟨hb, by omega⟩] at h
      split at h
      · cases h
      · rename_i e hr
        injection h with h
        exact ⟨_, hr, fun e' he => by injection he with he; rw [← he]; exact h.symm, fun y r hy => by cases hy⟩
      · rename_i y r' hr
        refine ⟨_, hr, ?_, ?_⟩
        · intro e he; cases he
        · intro y2 r2 hy
          injection hy with hy
          injection hy with hy1 hy2
          rw [← hy1, ← hy2]; exact h
/-- Reading, at all. -/
def ExC (P en : Nat) (f : Nat) : Prop := ∀ (m d : Nat) (ts : List Tk) (q : Res) (w : World), 1 ≤ m → m ≤ 4 → d ≤ 8 → Ey w P ts en 0 (-1) → ce nb en f m d ts = some q →
  Calls Tryz.prog 85 #[.pointer (some ⟨P, 0, none⟩), .int .i64 (m : Int), .int .i64 (d : Int)] w fun e w' => Xans P en ts w q e w'
/-- On the way. -/
def Wy (P en m d f : Nat) (ts : List Tk) (q : Res) (w wr : World) (v : Value) : Prop :=
  (∃ (f' : Nat) (x : Ex) (r : List Tk), f' ≤ f ∧ IsX wr v x ∧ Ey wr P r en 0 (-1) ∧ Gp P w wr ∧ cl nb en f' m d x r = some q ∧ r.length < ts.length) ∨
  ∃ (o : Option Addr) (c : Int) (p : Nat) (ts' : List Tk), q = .error (c, p) ∧ v = .pointer o ∧ Ey wr P ts' en c (p : Int) ∧ c ≠ 0 ∧ Gp P w wr ∧ ts'.length ≤ ts.length
set_option maxRecDepth 10000 in
set_option maxHeartbeats 2000000 in
theorem expr_step (P en f : Nat) (ih : ∀ g, g < f + 1 → ExC P en g) (m d : Nat) (ts : List Tk) (q : Res) (w : World) (h1 : 1 ≤ m) (h4 : m ≤ 4) (h8 : d ≤ 8) (hE : Ey w P ts en 0 (-1)) (hq : ce nb en (f + 1) m d ts = some q) :
    Calls Tryz.prog 85 #[.pointer (some ⟨P, 0, none⟩), .int .i64 (m : Int), .int .i64 (d : Int)] w fun e w' => Xans P en ts w q e w' := by
  rw [ce] at hq
  obtain ⟨q1, hq1⟩ : ∃ q1, sg nb en f d ts = some q1 := by
    cases h : sg nb en f d ts with
    | none => rw [h] at hq; cases hq
    | some q1 => exact ⟨q1, rfl⟩
  rw [hq1] at hq
  cases f with
  | zero => simp [sg] at hq1
  | succ g =>
    have c1 := single_at g P en d ts q1 w hE h8 hq1 (fun q1 d ts wx k1 k2 k3 => by
      have := ih g (by omega) 1 d ts q1 wx (by omega) (by omega) k2 k1 k3
      exact this)
    have HI : Hid (∀ k, k < g + 1 + 1 → ExC P en k) := ih
    have HE : Hid (Ey w P ts en 0 (-1)) := hE
    clear ih hE hq1
    go_enter Tryz.func85, Tryz.ntmps85
    go_wp2_with fail
    refine c1.mono ?_
    rintro e w1 ⟨hg1, hans⟩
    obtain ⟨v, o, hv, rfl, HW⟩ : ∃ v o, v = .pointer o ∧ e = .returned v ∧ Hid (Wy P en m d (g + 1) ts q w w1 v) := by
      cases q1 with
      | error cp =>
        obtain ⟨c, p⟩ := cp
        obtain ⟨o, ts', k1, k2, k3, k4⟩ := hans
        injection hq with hq
        exact ⟨_, o, rfl, k1, Or.inr ⟨o, c, p, ts', hq.symm, rfl, k2, k4, hg1, k3⟩⟩
      | ok xr =>
        obtain ⟨x, r⟩ := xr
        obtain ⟨v, k1, k2, k3, k4⟩ := hans
        obtain ⟨vb, hvb, _⟩ := k2.ptr
        exact ⟨v, some ⟨vb, 0, none⟩, hvb, k1, Or.inl ⟨g + 1, x, r, Nat.le_refl _, k2, k3, hg1, hq, k4⟩⟩
    subst hv
    clear hans hg1 c1 hq q1
    go_wp2
    go_loopw [7, 8, 9, 10] (fun v7 _ _ _ wr => ∃ o, v7 = .pointer o ∧ Hid (Wy P en m d (g + 1) ts q w wr v7)) (fun _ _ _ _ wr => ex.lenAt wr P)
    case atStart => exact ⟨o, rfl, HW.out⟩
    case round =>
      clear HW
      obtain ⟨o, rfl, HW⟩ := hrel
      rcases HW.out with ⟨f', x, r, hf, hx, hEr, hg, hcl, hlr⟩ | ⟨o', c, p, ts', hqe, ho, hEr, hc, hg, hlr⟩
      · cases f' with
        | zero => simp [cl] at hcl
        | succ k =>
          obtain ⟨l1, l2⟩ := cl_is h1 hcl
          obtain ⟨vb, hvb, _⟩ := hx.ptr
          injection hvb with hvb
          subst hvb
          have HX : Hid (IsX wr (.pointer (some ⟨vb, 0, none⟩)) x ∧ Ey wr P r en 0 (-1) ∧ Gp P w wr ∧ r.length < ts.length ∧ k < g + 1 + 1) := ⟨hx, hEr, hg, hlr, by omega⟩
          have cS := stop_at wr P r en 0 (-1) hEr
          rw [show (!((0 : Int) == 0)) = false from rfl] at cS
          have cT := fun wx (hb : Bl wr wx) => text_at wx P r en 0 (-1) (hEr.step hb)
          rw [show see 0 en r = (hd en r).t from if_pos rfl] at cT
          have cP := fun wx (hb : Bl wr wx) => place_at wx P r en 0 (-1) (hEr.step hb)
          obtain ⟨T, hT⟩ : ∃ T, T = hd en r := ⟨_, rfl⟩
          rw [← hT] at cT cP l1 l2
          have cB := hold_at T.t
          obtain ⟨S, hS⟩ : ∃ S, S = tx T.t := ⟨_, rfl⟩
          rw [← hS] at cT cB
          have HS : Hid (S = tx T.t) := hS
          clear hS hT hx hEr hg hlr hcl hf HW
          obtain ⟨B, hB⟩ : ∃ B, B = bd T.t := ⟨_, rfl⟩
          have hB3 := bd_le T.t
          rw [← hB] at cB l1 l2 hB3
          clear hB
          by_cases hb : m ≤ B
          · obtain ⟨hr0, q2, hr1, hr2, hr3⟩ := l2 hb
            have d1 : (m : Int) ≤ (B : Int) := by omega
            have d2 : (0 : Int) < (B : Int) := by omega
            have cX := fun wx (hb : Bl wr wx) => pass_yes wx P T r.tail en (-1) (by rw [← hr0]; exact HX.out.2.1.step hb)
            rw [← HS.out] at cX
            have cR := fun wx (h : Ey wx P r.tail en 0 (-1)) => HI.out k HX.out.2.2.2.2 (B + 1) d r.tail q2 wx (by omega) (by omega) h8 h hr1
            rw [show (((B + 1 : Nat) : Nat) : Int) = (B : Int) + 1 by omega] at cR
            have hwr : IntKind.i64.wrap ((B : Int) + 1) = (B : Int) + 1 := by rw [IntKind.wrap_i64]; omega
            have HR : Hid (r = T :: r.tail) := hr0
            have HQ : Hid ((∀ e, q2 = .error e → q = .error e) ∧ (∀ y r, q2 = .ok (y, r) → cl nb en k m d (.bin T.a T.t x y) r = some q)) := ⟨hr2, hr3⟩
            clear hr0 hr1 hr2 hr3 l1 l2 hb
            go_wp2_with fail
            refine cS.mono ?_
            rintro e w2 ⟨rfl, hb2⟩
            go_wp2_with fail
            refine (cT _ hb2).mono ?_
            rintro e w3 ⟨rfl, hb3⟩
            go_wp2_with fail
            refine (cB _).mono ?_
            rintro e w4 ⟨rfl, hw4⟩
            obtain rfl := hw4.symm
            go_wp2_with fail
            refine (cT _ (hb2.trans hb3)).mono ?_
            rintro e w4 ⟨rfl, hb4⟩
            go_wp2_with fail
            refine (cB _).mono ?_
            rintro e w5 ⟨rfl, hw5⟩
            obtain rfl := hw5.symm
            have HB4 : Hid (Bl wr w4) := (hb2.trans hb3).trans hb4
            clear hb2 hb3 hb4
            go_wp2_with fail
            refine (cP _ HB4.out).mono ?_
            rintro e w5 ⟨rfl, hw5⟩
            obtain rfl := hw5.symm
            go_wp2_with fail
            refine (cT _ HB4.out).mono ?_
            rintro e w5 ⟨rfl, hb5⟩
            go_wp2_with fail
            refine (cX _ (HB4.out.trans hb5)).mono ?_
            rintro e w6 ⟨rfl, hE6, hg6⟩
            have HX6 : Hid (IsX w6 (.pointer (some ⟨vb, 0, none⟩)) x ∧ Gp P wr w6) := by
              have hg06 : Gp P wr w6 := (Gp.bl (HB4.out.trans hb5)).trans hg6
              exact ⟨HX.out.1.keep (hg06.kxE HX.out.2.1), hg06⟩
            have HE6 : Hid (Ey w6 P r.tail en 0 (-1)) := hE6
            clear hE6 hg6 hb5 cX cS
            go_wp2_with fail
            refine (cB _).mono ?_
            rintro e w7 ⟨rfl, hw7⟩
            obtain rfl := hw7.symm
            go_wp2_with fail
            refine (cR _ HE6.out).mono ?_
            rintro e w7 ⟨hg7, hans⟩
            have HG7 : Hid (Gp P w w7 ∧ IsX w7 (.pointer (some ⟨vb, 0, none⟩)) x) := ⟨(HX.out.2.2.1.trans HX6.out.2).trans hg7, HX6.out.1.keep (hg7.kxE HE6.out)⟩
            have hm1 : ex.lenAt wr P = r.length := HX.out.2.1.lenAt
            have hm3 : r.tail.length < r.length := by rw [HR.out]; simp
            clear hg7 cB cP cT cR
            cases q2 with
            | error cp =>
              obtain ⟨c, p⟩ := cp
              obtain ⟨o2, ts2, rfl, hE7, hl7, hc7⟩ := hans
              have hqe := HQ.out.1 _ rfl
              subst hqe
              go_wp2
              go_roundw
              case rel => exact ⟨_, rfl, Or.inr ⟨_, c, p, ts2, rfl, rfl, hE7.step ((Bl.refl _).alloc _), hc7, HG7.out.1.alloc _, by have := HX.out.2.2.2.1; omega⟩⟩
              case measure => rw [hm1, (hE7.step ((Bl.refl _).alloc _)).lenAt]; omega
            | ok yr =>
              obtain ⟨y, r3⟩ := yr
              obtain ⟨v7, rfl, hy7, hE7, hl7⟩ := hans
              obtain ⟨vb7, rfl, _⟩ := hy7.ptr
              have hq3 := HQ.out.2 y r3 rfl
              go_wp2
              have hb9 : Bl w7 (w7.alloc (.cells #[.int .i64 3, .int .i64 (T.a : Int), .int .i64 0, .string ⟨#[]⟩, .string S, .pointer (some ⟨vb, 0, none⟩), .pointer (some ⟨vb7, 0, none⟩)] 118)) := (Bl.refl _).alloc _
              have hbin : IsX (w7.alloc (.cells #[.int .i64 3, .int .i64 (T.a : Int), .int .i64 0, .string ⟨#[]⟩, .string S, .pointer (some ⟨vb, 0, none⟩), .pointer (some ⟨vb7, 0, none⟩)] 118)) (.pointer (some ⟨w7.heap.size, 0, none⟩)) (.bin T.a T.t x y) := ⟨_, _, _, rfl, box_new w7 3 _ 0 [] _ _ _ rfl HS.out _ _, HG7.out.2.keep (Kx.bl hb9), hy7.keep (Kx.bl hb9)⟩
              go_roundw
              case rel => exact ⟨_, rfl, Or.inl ⟨k, _, r3, by have := HX.out.2.2.2.2; omega, hbin, hE7.step hb9, HG7.out.1.trans (Gp.bl hb9), hq3, by have := HX.out.2.2.2.1; omega⟩⟩
              case measure => rw [hm1, (hE7.step hb9).lenAt]; omega
          · have hq' := l1 hb
            have d1 : ¬ (m : Int) ≤ (B : Int) := by omega
            clear l1 l2 hb cP
            subst hq'
            go_wp2_with fail
            refine cS.mono ?_
            rintro e w2 ⟨rfl, hb2⟩
            go_wp2_with fail
            refine (cT _ hb2).mono ?_
            rintro e w3 ⟨rfl, hb3⟩
            go_wp2_with fail
            refine (cB _).mono ?_
            rintro e w4 ⟨rfl, hw4⟩
            obtain rfl := hw4.symm
            go_wp2
            go_ret
            have hb := hb2.trans hb3
            exact ⟨HX.out.2.2.1.trans (Gp.bl hb), _, rfl, HX.out.1.keep (Kx.bl hb), HX.out.2.1.step hb, HX.out.2.2.2.1⟩
      · have cS := stop_at wr P ts' en c p hEr
        have hc' : (c == 0) = false := by rw [beq_eq_false_iff_ne]; exact hc
        rw [hc', show (!false) = true from rfl] at cS
        have HX : Hid (Ey wr P ts' en c (p : Int) ∧ c ≠ 0 ∧ Gp P w wr ∧ ts'.length ≤ ts.length) := ⟨hEr, hc, hg, hlr⟩
        subst hqe
        clear hEr hc hg hlr hc' HW
        go_wp2_with fail
        refine cS.mono ?_
        rintro e w2 ⟨rfl, hb2⟩
        go_wp2
        go_ret
        exact ⟨HX.out.2.2.1.trans (Gp.bl hb2), o, ts', rfl, HX.out.1.step hb2, HX.out.2.2.2, HX.out.2.1⟩
theorem expr_at (P en : Nat) : ∀ f, ExC P en f := by
  intro f
  induction f using Nat.strongRecOn with
  | _ f ih =>
    intro m d ts q w h1 h4 h8 hE hq
    cases f with
    | zero => simp [ce] at hq
    | succ f => exact expr_step P en f ih m d ts q w h1 h4 h8 hE hq
end Go.Proofs.YtpanodaecjlgaaaGreatDoor.ex
/- The document's Lex. -/
namespace Go.Proofs.YtpanodaecjlgaaaGreatDoor.lx
set_option linter.unusedVariables false
open Go.ChangeShapes Go.WideShapes Go.ChangeAt Go.RowKit
open mem

theorem results_tmp_cell {fn : Func} {p u : Tmp} {ty : TypeId} (h : fn.results = #[.tmp u, .cell p ty]) (tmps : Array Value) (P : Program) (w : World) (B : Nat) (v : Value) (hp : tmps.getD p undef = .pointer (some ⟨B, 0, none⟩)) (hl : (loadVar ty ⟨B, 0, none⟩).run P w = .ok v w) :
    (results fn tmps).run P w = .ok (.tuple #[tmps.getD u undef, v]) w := by
  have hp' : tmps[p]?.getD undef = .pointer (some ⟨B, 0, none⟩) := by simpa using hp
  simp only [results, h]
  simp [Result.andThen, hp', asAddr, hl]
/-- The document's tokens, under way. -/
structure Rx (w wr : World) (N : Nat) (v : Value) (l : List Tk) : Prop where
  own : tr.Own wr (N + 1) v l
  bl : Bl w wr
  fv : wr.heap[N]? = some (.cells #[.int .i64 0, .int .i64 0] 26 (0, 0))
  n : N = w.heap.size
theorem Rx.step {w wr w' : World} {N : Nat} {v : Value} {l : List Tk} (h : Rx w wr N v l) (hb : Bl wr w') : Rx w w' N v l :=
  ⟨h.own.step hb, h.bl.trans hb, by rw [Below.block hb N (lt_of_heap h.fv)]; exact h.fv, h.n⟩
theorem Rx.app {w wr : World} {N : Nat} {v : Value} {l : List Tk} (h : Rx w wr N v l) (t : List UInt8) (a : Nat) (Z : ByteArray) (hZ : Z = tx t) (hl : l.length ≤ 3000) :
    ∃ v' w7, (Builtin.append_ #[45, 45] 45 #[v, .slice (some ⟨wr.heap.size, 0, none⟩) 1 1]).run Tryz.prog (wr.alloc (.cells #[.string Z, .int .i64 (a : Int)] 49)) = .ok v' w7 ∧ Rx w w7 N v' (l ++ [⟨t, a⟩]) := by
  have hb6 : Bl wr (wr.alloc (.cells #[.string Z, .int .i64 (a : Int)] 49)) := (Bl.refl _).alloc _
  have h6 := h.step hb6
  have hx6 := new_at wr (.cells #[.string Z, .int .i64 (a : Int)] 49)
  have hN := h.n
  obtain ⟨v', w7, hr, ho, hg⟩ := tr.app_one _ (N + 1) v l ⟨t, a⟩ wr.heap.size h6.own (by rw [cell_of hx6, hZ]; rfl) (by rw [cell_of hx6]; rfl) (by omega) (by have := lt_of_heap h6.fv; omega)
  have hne : ∀ x, v.ownBlock = some x → N + 1 ≤ x := fun x hx => (h6.own.block x hx).1
  refine ⟨v', w7, hr, ho, bl_grown h6.bl hg (fun x hx => by have := hne x hx; omega), ?_, hN⟩
  rw [hg.block N (lt_of_heap h6.fv) (fun e => by have := hne N e.symm; omega)]
  exact h6.fv
/-- Where it is: within a word, a remark, or between. -/
def Pz (s : List UInt8) (l : List Tk) (i : Nat) (wd : Int) (rm : Bool) : Prop :=
  ∃ R : List Tk × Option Nat, lx s 0 = (l ++ R.1, R.2) ∧ ((rm = true ∧ wd = -1 ∧ R = Rm s i) ∨ (rm = false ∧ wd = -1 ∧ R = lx (s.drop i) i) ∨
    (rm = false ∧ ∃ p : Nat, wd = (p : Int) ∧ p < i ∧ (∀ j, p ≤ j → (h : j < i) → ∃ c, s[j]? = some c ∧ isW c = true) ∧ R = lx (s.drop p) p))
theorem Pz.len {s : List UInt8} {l : List Tk} {i : Nat} {wd : Int} {rm : Bool} (h : Pz s l i wd rm) (hs : s.length ≤ 3000) : l.length ≤ 3000 := by
  obtain ⟨R, h1, _⟩ := h
  have h2 := lx_len s _ 0 (Nat.le_refl _)
  rw [h1] at h2
  simp only [List.length_append] at h2
  omega
theorem Pz.word {s : List UInt8} {l : List Tk} {i : Nat} {wd : Int} {c : UInt8} (h : Pz s l i wd false) (hc : s[i]? = some c) (hw : isW c = true) : Pz s l (i + 1) (if wd < 0 then (i : Int) else wd) false := by
  obtain ⟨R, h1, ⟨h2, _⟩ | ⟨_, rfl, rfl⟩ | ⟨_, p, rfl, hp, hall, rfl⟩⟩ := h
  · cases h2
  · refine ⟨_, h1, Or.inr (Or.inr ⟨rfl, i, by rw [if_pos (by decide)], by omega, fun j h3 h4 => ?_, rfl⟩)⟩
    obtain rfl : j = i := by omega
    exact ⟨c, hc, hw⟩
  · refine ⟨_, h1, Or.inr (Or.inr ⟨rfl, p, by rw [if_neg (by omega)], by omega, fun j h3 h4 => ?_, rfl⟩)⟩
    rcases Nat.lt_or_ge j i with h5 | h5
    · exact hall j h3 h5
    · obtain rfl : j = i := by omega
      exact ⟨c, hc, hw⟩
/-- A word's end. -/
theorem Pz.out {s : List UInt8} {l : List Tk} {i p : Nat} {rm : Bool} (h : Pz s l i (p : Int) rm) (hi : i ≤ s.length) (he : ∀ c, s[i]? = some c → isW c = false) : p < i ∧ Pz s (l ++ [⟨(s.take i).drop p, p⟩]) i (-1) false ∧ rm = false := by
  obtain ⟨R, h1, ⟨_, h2, _⟩ | ⟨_, h2, _⟩ | ⟨hrm, q, h2, hp, hall, rfl⟩⟩ := h
  · omega
  · omega
  · obtain rfl : p = q := by omega
    refine ⟨hp, ⟨lx (s.drop i) i, ?_, Or.inr (Or.inl ⟨rfl, rfl, rfl⟩)⟩, hrm⟩
    have := word_end s p i hp hi (fun j h3 h4 => by
      obtain ⟨c, h5, h6⟩ := hall j h3 h4
      obtain ⟨h7, h8⟩ := List.getElem?_eq_some_iff.1 h5
      rw [h8]; exact h6) he
    rw [h1, this]
    simp
theorem Pz.rm_out {s : List UInt8} {l : List Tk} {i : Nat} {wd : Int} (h : Pz s l i wd true) : wd = -1 := by
  obtain ⟨R, h1, ⟨_, h2, _⟩ | ⟨h2, _⟩ | ⟨h2, _⟩⟩ := h
  · exact h2
  · cases h2
  · cases h2
theorem Pz.rm_next {s : List UInt8} {l : List Tk} {i : Nat} {wd : Int} {c : UInt8} (h : Pz s l i wd true) (hc : s[i]? = some c) : Pz s l (i + 1) (-1) (!(c == 10)) := by
  obtain ⟨R, h1, ⟨_, h2, rfl⟩ | ⟨h2, _⟩ | ⟨h2, _⟩⟩ := h
  · by_cases h10 : c = 10
    · subst h10
      exact ⟨_, h1, Or.inr (Or.inl ⟨rfl, rfl, lx.rm_out s i hc⟩)⟩
    · refine ⟨_, h1, Or.inl ⟨by simpa using h10, rfl, rm_on s i c hc h10⟩⟩
  · cases h2
  · cases h2
theorem Pz.go {s : List UInt8} {l : List Tk} {i j : Nat} {rm : Bool} (h : Pz s l i (-1) false) (hj : lx (s.drop i) i = lx (s.drop j) j) : Pz s l j (-1) false := by
  obtain ⟨R, h1, ⟨h2, _⟩ | ⟨_, _, rfl⟩ | ⟨_, p, h2, _⟩⟩ := h
  · cases h2
  · exact ⟨_, h1, Or.inr (Or.inl ⟨rfl, rfl, hj⟩)⟩
  · omega
theorem Pz.rem {s : List UInt8} {l : List Tk} {i : Nat} (h : Pz s l i (-1) false) (hc : s[i]? = some 35) : Pz s l (i + 1) (-1) true := by
  obtain ⟨R, h1, ⟨h2, _⟩ | ⟨_, _, rfl⟩ | ⟨_, p, h2, _⟩⟩ := h
  · cases h2
  · exact ⟨_, h1, Or.inl ⟨rfl, rfl, by rw [rm_in s i hc, rm_on s i 35 hc (by decide)]⟩⟩
  · omega
theorem Pz.mark {s : List UInt8} {l : List Tk} {i n : Nat} (h : Pz s l i (-1) false) (hi : i < s.length) (hg : gap (s.drop i) = 0) (hn : tl (s.drop i) = n) (h0 : 0 < n) : i + n ≤ s.length ∧ Pz s (l ++ [⟨(s.take (i + n)).drop i, i⟩]) (i + n) (-1) false := by
  obtain ⟨R, h1, ⟨h2, _⟩ | ⟨_, _, rfl⟩ | ⟨_, p, h2, _⟩⟩ := h
  · cases h2
  · obtain ⟨g1, g2⟩ := lx_mark s i n hi hg hn h0
    refine ⟨g1, _, ?_, Or.inr (Or.inl ⟨rfl, rfl, rfl⟩)⟩
    rw [h1, g2]
    simp
  · omega
theorem Pz.bad {s : List UInt8} {l : List Tk} {i : Nat} (h : Pz s l i (-1) false) (hi : i < s.length) (hg : gap (s.drop i) = 0) (hn : tl (s.drop i) = 0) : (lx s 0).2 = some i := by
  obtain ⟨R, h1, ⟨h2, _⟩ | ⟨_, _, rfl⟩ | ⟨_, p, h2, _⟩⟩ := h
  · cases h2
  · rw [h1, lx_bad _ _ (fun e => by have := congrArg List.length e; rw [List.length_drop] at this; simp at this; omega) hg hn]
  · omega
theorem Pz.end_ {s : List UInt8} {l : List Tk} {i : Nat} {rm : Bool} (h : Pz s l i (-1) rm) (hi : s.length ≤ i) : lx s 0 = (l, none) := by
  obtain ⟨R, h1, ⟨_, _, rfl⟩ | ⟨_, _, rfl⟩ | ⟨_, p, h2, _⟩⟩ := h
  · rw [h1, rm_end s i hi]; simp
  · rw [h1, lx_end s i hi]; simp
  · omega
theorem Pz.kind {s : List UInt8} {l : List Tk} {i : Nat} {wd : Int} {rm : Bool} (h : Pz s l i wd rm) : wd = -1 ∨ ∃ p : Nat, wd = (p : Int) ∧ p < i := by
  obtain ⟨R, h1, ⟨_, h2, _⟩ | ⟨_, h2, _⟩ | ⟨_, p, h2, h3, _⟩⟩ := h
  · exact Or.inl h2
  · exact Or.inl h2
  · exact Or.inr ⟨p, h2, h3⟩
/-- What the document's Lex answers. -/
def RxAns (s : ByteArray) (w : World) (e : Ending) (w' : World) : Prop :=
  Bl w w' ∧ (((lx (L s) 0).2 = none ∧ ∃ v, e = .returned (.tuple #[v, flt 0 (-1)]) ∧ tr.Own w' w.heap.size v (lx (L s) 0).1) ∨
    ∃ p : Nat, (lx (L s) 0).2 = some p ∧ e = .returned (.tuple #[.slice none 0 0, flt 3 (p : Int)]))
end Go.Proofs.YtpanodaecjlgaaaGreatDoor.lx
