/- What Narrow of package text answers. -/
import Derived.Test.YtaboemchkmmgeaaDoorRefWord
import Derived.Test.YtaboemchkmmgeaaDoorIntRow
namespace Go.Proofs.YtaboemchkmmgeaaDoor.narrow
set_option linter.unusedVariables false
open Go.ChangeShapes Go.WideShapes Go.ChangeAt Go.RowKit
open mem num words rows

/-- The number that a pair of bytes is. -/
def pr (s : ByteArray) (A : Nat) (o : Bool) : Int := gv (fun i => sb s (A + pl 2 o i)) 2
theorem pr_bd (s : ByteArray) (A : Nat) (o : Bool) : 0 ≤ pr s A o ∧ pr s A o < 65536 := by
  have := gv_bd (fun i => sb s (A + pl 2 o i)) (fun i => sb_bd s _) 2
  unfold pr
  omega
/-- The k-th pair of a text; what stands for a byte that is left over. -/
def U (s : ByteArray) (o : Bool) (k : Nat) : Int := if 2 * k + 2 ≤ s.size then pr s (2 * k) o else 65533
theorem U_bd (s : ByteArray) (o : Bool) (k : Nat) : 0 ≤ U s o k ∧ U s o k < 65536 := by
  unfold U
  split
  · exact pr_bd _ _ _
  · omega
/-- The signs that pairs are, from the k-th on. -/
def NL (s : ByteArray) (o : Bool) : Nat → Nat → List Int
  | 0, _ => []
  | f + 1, k => if s.size ≤ 2 * k then [] else
    if (55296 ≤ U s o k ∧ U s o k < 56320) ∧ (56320 ≤ U s o (k + 1) ∧ U s o (k + 1) < 57344) then (65536 + (U s o k - 55296) * 1024 + (U s o (k + 1) - 56320)) :: NL s o f (k + 2)
    else (if 55296 ≤ U s o k ∧ U s o k < 57344 then 65533 else U s o k) :: NL s o f (k + 1)
theorem NL_none (s : ByteArray) (o : Bool) (f k : Nat) (h : s.size ≤ 2 * k) : NL s o f k = [] := by
  cases f with
  | zero => rfl
  | succ f => rw [NL, if_pos h]
theorem NL_two (s : ByteArray) (o : Bool) (f k : Nat) (h : ¬ (s.size ≤ 2 * k)) (hp : (55296 ≤ U s o k ∧ U s o k < 56320) ∧ (56320 ≤ U s o (k + 1) ∧ U s o (k + 1) < 57344)) : NL s o (f + 1) k = (65536 + (U s o k - 55296) * 1024 + (U s o (k + 1) - 56320)) :: NL s o f (k + 2) := by
  rw [NL, if_neg h, if_pos hp]
theorem NL_one (s : ByteArray) (o : Bool) (f k : Nat) (h : ¬ (s.size ≤ 2 * k)) (hp : ¬ ((55296 ≤ U s o k ∧ U s o k < 56320) ∧ (56320 ≤ U s o (k + 1) ∧ U s o (k + 1) < 57344))) : NL s o (f + 1) k = (if 55296 ≤ U s o k ∧ U s o k < 57344 then 65533 else U s o k) :: NL s o f (k + 1) := by
  rw [NL, if_neg h, if_neg hp]
theorem NL_len (s : ByteArray) (o : Bool) (f k : Nat) : (NL s o f k).length ≤ f := by
  induction f generalizing k with
  | zero => exact Nat.le_refl _
  | succ f ih =>
    rw [NL]
    split
    · exact Nat.zero_le _
    · split
      · simpa using ih _
      · simpa using ih _
theorem known_at (O : Int) (w : World) : Calls Tryd.prog 34 #[.int .i64 O] w fun e w' => e = .returned (.bool (decide (O = 0 ∨ O = 1))) ∧ w' = w := by
  by_cases h0 : O = 0
  · subst h0
    go_enter Tryd.func34, Tryd.ntmps34
    go_wp2
    go_ret
    exact ⟨rfl, rfl⟩
  · by_cases h1 : O = 1
    · subst h1
      go_enter Tryd.func34, Tryd.ntmps34
      go_wp2
      go_ret
      exact ⟨rfl, rfl⟩
    · rw [decide_eq_false (fun h => h.elim h0 h1)]
      have e0 : (O == 0) = false := by rw [beq_eq_false_iff_ne]; exact h0
      have e1 : (O == 1) = false := by rw [beq_eq_false_iff_ne]; exact h1
      clear h0 h1
      go_enter Tryd.func34, Tryd.ntmps34
      go_wp2
      go_ret
      exact ⟨rfl, rfl⟩
theorem first_at (n : Int) (b : Bool) (hb : decide (55296 ≤ n ∧ n < 56320) = b) (w : World) : Calls Tryd.prog 40 #[.int .i64 n] w fun e w' => e = .returned (.bool b) ∧ w' = w := by
  subst hb
  by_cases h1 : 55296 ≤ n
  · by_cases h2 : n < 56320
    · rw [decide_eq_true ⟨h1, h2⟩]
      go_enter Tryd.func40, Tryd.ntmps40
      go_wp2
      go_ret
      exact ⟨rfl, rfl⟩
    · rw [decide_eq_false (fun h => h2 h.2)]
      go_enter Tryd.func40, Tryd.ntmps40
      go_wp2
      go_ret
      exact ⟨rfl, rfl⟩
  · rw [decide_eq_false (fun h => h1 h.1)]
    go_enter Tryd.func40, Tryd.ntmps40
    go_wp2
    go_ret
    exact ⟨rfl, rfl⟩
theorem second_at (n : Int) (b : Bool) (hb : decide (56320 ≤ n ∧ n < 57344) = b) (w : World) : Calls Tryd.prog 41 #[.int .i64 n] w fun e w' => e = .returned (.bool b) ∧ w' = w := by
  subst hb
  by_cases h1 : 56320 ≤ n
  · by_cases h2 : n < 57344
    · rw [decide_eq_true ⟨h1, h2⟩]
      go_enter Tryd.func41, Tryd.ntmps41
      go_wp2
      go_ret
      exact ⟨rfl, rfl⟩
    · rw [decide_eq_false (fun h => h2 h.2)]
      go_enter Tryd.func41, Tryd.ntmps41
      go_wp2
      go_ret
      exact ⟨rfl, rfl⟩
  · rw [decide_eq_false (fun h => h1 h.1)]
    go_enter Tryd.func41, Tryd.ntmps41
    go_wp2
    go_ret
    exact ⟨rfl, rfl⟩
theorem pair_at (s : ByteArray) (k : Nat) (o : Bool) (O : Int) (x a : Int) (w : World) (hO : (if o then (1 : Int) else 0) = O) (hs : s.size ≤ 1000) (ha : a = 2 * (k : Int)) (hx : U s o k = x) :
    Calls Tryd.prog 39 #[.string s, .int .i64 a, .int .i64 O] w fun e w' => e = .returned (.int .i64 x) ∧ w' = w := by
  have hb := U_bd s o k
  rw [hx] at hb
  unfold U at hx
  by_cases h : 2 * k + 2 ≤ s.size
  · rw [if_pos h] at hx
    unfold pr at hx
    have c := get_any s (2 * k) 2 o O w hO (Or.inr (Or.inl rfl)) (by unfold maxLen; omega) h
    rw [hx] at c
    have c' : Calls Tryd.prog 54 #[.string s, .int .i64 a, .int .i64 2, .int .i64 O] w fun e w' => e = .returned (.tuple #[.int .u64 x, .nilIface]) ∧ w' = w := by
      rw [ha]
      exact c
    clear c hx ha h
    go_enter Tryd.func39, Tryd.ntmps39
    go_wp2_with (go_at_call 54; refine c'.mono ?_; rintro e w1 ⟨rfl, rfl⟩)
    go_ret
    exact ⟨rfl, rfl⟩
  · rw [if_neg h] at hx
    subst hx
    have c := get_out s a 2 O w (by omega) (Or.inr (Or.inl rfl)) (by cases o <;> simp at hO <;> unfold okO <;> omega) (Or.inr (by omega))
    clear ha h
    go_enter Tryd.func39, Tryd.ntmps39
    go_wp2_with (go_at_call 54; refine c.mono ?_; rintro e w1 ⟨rfl, rfl⟩)
    go_ret
    exact ⟨rfl, rfl⟩
theorem Narrow_no (s : ByteArray) (O : Int) (w : World) (h : ¬ (O = 0 ∨ O = 1)) :
    Calls Tryd.prog 17 #[.string s, .int .i64 O] w fun e w' => e = .returned (.tuple #[.slice none 0 0, .iface 27 (.int .i64 1)]) ∧ w' = w := by
  have c := fun w => known_at O w
  rw [decide_eq_false h] at c
  clear h
  go_enter Tryd.func17, Tryd.ntmps17
  go_wp2_with (go_at_call 34; refine (c _).mono ?_; rintro e w1 ⟨rfl, rfl⟩)
  go_ret2
  exact ⟨rfl, rfl⟩
set_option maxHeartbeats 4000000 in
set_option maxRecDepth 100000 in
theorem Narrow_at (s : ByteArray) (o : Bool) (O : Int) (w : World) (hO : (if o then (1 : Int) else 0) = O) (hs : s.size ≤ 1000) :
    Calls Tryd.prog 17 #[.string s, .int .i64 O] w fun e w' => ∃ v, e = .returned (.tuple #[v, .nilIface]) ∧ Own w' w.heap.size v (NL s o s.size 0) ∧ Bl w w' := by
  have c := fun w => known_at O w
  rw [decide_eq_true (show O = 0 ∨ O = 1 by cases o <;> simp at hO <;> omega)] at c
  have HO : Hid ((if o then (1 : Int) else 0) = O) := hO
  obtain ⟨base, hbase⟩ : ∃ b, b = w.heap.size := ⟨_, rfl⟩
  rw [← hbase]
  have HB : Hid (base = w.heap.size) := hbase
  clear hO hbase
  go_enter Tryd.func17, Tryd.ntmps17
  go_wp2_with (go_at_call 34; refine (c _).mono ?_; rintro e w1 ⟨rfl, rfl⟩)
  rename World => w
  go_loopw [6, 7] (fun v av wr => ∃ (k f : Nat) (L : List Int) (a : Int), av = .int .i64 a ∧ Hid (a = 2 * (k : Int)) ∧ 0 ≤ a ∧ a ≤ 2000 ∧ s.size ≤ 2 * k + 2 * f ∧ L.length + f ≤ s.size ∧ Hid (L ++ NL s o f k = NL s o s.size 0) ∧ Own wr base v L ∧ Bl w wr) (fun _ av _ => s.size - (intOf av).toNat)
  case atStart => exact ⟨0, s.size, [], 0, rfl, rfl, by omega, by omega, by omega, by simp, rfl, Own.nil _ _, Bl.refl _⟩
  case round =>
    obtain ⟨k, f, L, a, rfl, HK, ha0, ha1, hf, hLf, HA, hown, hbl⟩ := hrel
    have hak := HK.out
    rename World => wr
    by_cases hend : s.size ≤ 2 * k
    · have hz : ¬ (a < (s.size : Int)) := by omega
      clear hak
      have HL : Hid (L = NL s o s.size 0) := by
        have := HA.out
        rwa [NL_none s o f k hend, List.append_nil] at this
      clear HA
      go_wp2
      go_ret2
      exact ⟨_, rfl, by rw [← HL.out]; exact hown, hbl⟩
    · have hz : a < (s.size : Int) := by omega
      obtain ⟨f', rfl⟩ : ∃ f', f = f' + 1 := ⟨f - 1, by omega⟩
      obtain ⟨x, hx⟩ : ∃ x, U s o k = x := ⟨_, rfl⟩
      obtain ⟨y, hy⟩ : ∃ y, U s o (k + 1) = y := ⟨_, rfl⟩
      have hxb := U_bd s o k
      have hyb := U_bd s o (k + 1)
      rw [hx] at hxb
      rw [hy] at hyb
      have hbb : base ≤ wr.heap.size := by have := hbl.size; have := HB.out; omega
      obtain ⟨b, hab⟩ : ∃ b, a + 2 = b := ⟨_, rfl⟩
      have hbd : 0 ≤ b ∧ b ≤ 2002 := by omega
      have HBA : Hid (b = a + 2) := hab.symm
      have c1 := fun w => pair_at s k o O x a w HO.out hs hak hx
      have c2 := fun w => pair_at s (k + 1) o O y b w HO.out hs (by omega) hy
      clear hak
      by_cases hp : (55296 ≤ x ∧ x < 56320) ∧ (56320 ≤ y ∧ y < 57344)
      · have HE : Hid ((L ++ [65536 + (x - 55296) * 1024 + (y - 56320)]) ++ NL s o f' (k + 2) = NL s o s.size 0) := by
          have := HA.out
          rw [NL_two s o f' k hend (by rw [hx, hy]; exact hp), hx, hy] at this
          simpa [Hid] using this
        have cf := fun w => first_at x true (decide_eq_true hp.1) w
        have cs := fun w => second_at y true (decide_eq_true hp.2) w
        clear hx hy HA
        go_wp2_with (first
          | (go_at_call_of 39 b; refine (c2 _).mono ?_; rintro e w2 ⟨rfl, rfl⟩)
          | (go_at_call_of 39 a; refine (c1 _).mono ?_; rintro e w2 ⟨rfl, rfl⟩)
          | (go_at_call 40; refine (cf _).mono ?_; rintro e w2 ⟨rfl, rfl⟩)
          | (go_at_call 41; refine (cs _).mono ?_; rintro e w2 ⟨rfl, rfl⟩)
          | (at_builtin; refine wpL_app rfl (.tmp 40) (.tmp 48) rfl rfl _ _ (65536 + (x - 55296) * 1024 + (y - 56320)) _ rfl rfl _ (hown.step ((Bl.refl _).alloc _)) (by go_simp) (by omega) (Nat.le_trans hbb (by simp)) ?_; intro v' w3 hw3 hg3 hv3; have hb3 : Bl w w3 := bl_grown (hbl.alloc _) hg3 (fun k e => by rw [← HB.out]; exact (hown.block k e).1)))
        go_roundw
        case rel => exact ⟨k + 2, f', L ++ [65536 + (x - 55296) * 1024 + (y - 56320)], _, rfl, by have := HK.out; have := HBA.out; simp [Hid]; omega, by omega, by omega, by omega, by simp; omega, HE, hw3, hb3⟩
        case measure => simp [intOf]; omega
      · have HE0 : Hid ((L ++ [if 55296 ≤ x ∧ x < 57344 then 65533 else x]) ++ NL s o f' (k + 1) = NL s o s.size 0) := by
          have := HA.out
          rw [NL_one s o f' k hend (by rw [hx, hy]; exact hp), hx] at this
          simpa [Hid] using this
        clear hx hy HA
        by_cases h1 : 55296 ≤ x ∧ x < 56320
        · have HE : Hid ((L ++ [65533]) ++ NL s o f' (k + 1) = NL s o s.size 0) := by
            have := HE0.out
            rwa [if_pos (by omega)] at this
          have cf := fun w => first_at x true (decide_eq_true h1) w
          have cs := fun w => second_at y false (decide_eq_false (fun h => hp ⟨h1, h⟩)) w
          clear HE0 hp
          go_wp2_with (first
            | (go_at_call_of 39 b; refine (c2 _).mono ?_; rintro e w2 ⟨rfl, rfl⟩)
            | (go_at_call_of 39 a; refine (c1 _).mono ?_; rintro e w2 ⟨rfl, rfl⟩)
            | (go_at_call 40; refine (cf _).mono ?_; rintro e w2 ⟨rfl, rfl⟩)
            | (go_at_call 41; refine (cs _).mono ?_; rintro e w2 ⟨rfl, rfl⟩)
            | (at_builtin; refine wpL_app rfl (.tmp 59) (.tmp 60) rfl rfl _ _ 65533 _ rfl rfl _ (hown.step ((Bl.refl _).alloc _)) (by go_simp) (by omega) (Nat.le_trans hbb (by simp)) ?_; intro v' w3 hw3 hg3 hv3; have hb3 : Bl w w3 := bl_grown (hbl.alloc _) hg3 (fun k e => by rw [← HB.out]; exact (hown.block k e).1)))
          go_roundw
          case rel => exact ⟨k + 1, f', L ++ [65533], _, rfl, by have := HK.out; have := HBA.out; simp [Hid]; omega, by omega, by omega, by omega, by simp; omega, HE, hw3, hb3⟩
          case measure => simp [intOf]; omega
        · by_cases h2 : 56320 ≤ x ∧ x < 57344
          · have HE : Hid ((L ++ [65533]) ++ NL s o f' (k + 1) = NL s o s.size 0) := by
              have := HE0.out
              rwa [if_pos (by omega)] at this
            have cf := fun w => first_at x false (decide_eq_false h1) w
            have cs := fun w => second_at x true (decide_eq_true h2) w
            clear HE0 hp
            go_wp2_with (first
              | (go_at_call_of 39 b; refine (c2 _).mono ?_; rintro e w2 ⟨rfl, rfl⟩)
              | (go_at_call_of 39 a; refine (c1 _).mono ?_; rintro e w2 ⟨rfl, rfl⟩)
              | (go_at_call 40; refine (cf _).mono ?_; rintro e w2 ⟨rfl, rfl⟩)
              | (go_at_call 41; refine (cs _).mono ?_; rintro e w2 ⟨rfl, rfl⟩)
              | (at_builtin; refine wpL_app rfl (.tmp 59) (.tmp 60) rfl rfl _ _ 65533 _ rfl rfl _ (hown.step ((Bl.refl _).alloc _)) (by go_simp) (by omega) (Nat.le_trans hbb (by simp)) ?_; intro v' w3 hw3 hg3 hv3; have hb3 : Bl w w3 := bl_grown (hbl.alloc _) hg3 (fun k e => by rw [← HB.out]; exact (hown.block k e).1)))
            go_roundw
            case rel => exact ⟨k + 1, f', L ++ [65533], _, rfl, by have := HK.out; have := HBA.out; simp [Hid]; omega, by omega, by omega, by omega, by simp; omega, HE, hw3, hb3⟩
            case measure => simp [intOf]; omega
          · have HE : Hid ((L ++ [x]) ++ NL s o f' (k + 1) = NL s o s.size 0) := by
              have := HE0.out
              rwa [if_neg (by omega)] at this
            have cf := fun w => first_at x false (decide_eq_false h1) w
            have cs := fun w => second_at x false (decide_eq_false h2) w
            clear HE0 hp
            go_wp2_with (first
              | (go_at_call_of 39 b; refine (c2 _).mono ?_; rintro e w2 ⟨rfl, rfl⟩)
              | (go_at_call_of 39 a; refine (c1 _).mono ?_; rintro e w2 ⟨rfl, rfl⟩)
              | (go_at_call 40; refine (cf _).mono ?_; rintro e w2 ⟨rfl, rfl⟩)
              | (go_at_call 41; refine (cs _).mono ?_; rintro e w2 ⟨rfl, rfl⟩)
              | (at_builtin; refine wpL_app rfl (.tmp 29) (.tmp 31) rfl rfl _ _ x _ rfl rfl _ (hown.step ((Bl.refl _).alloc _)) (by go_simp) (by omega) (Nat.le_trans hbb (by simp)) ?_; intro v' w3 hw3 hg3 hv3; have hb3 : Bl w w3 := bl_grown (hbl.alloc _) hg3 (fun k e => by rw [← HB.out]; exact (hown.block k e).1)))
            go_roundw
            case rel => exact ⟨k + 1, f', L ++ [x], _, rfl, by have := HK.out; have := HBA.out; simp [Hid]; omega, by omega, by omega, by omega, by simp; omega, HE, hw3, hb3⟩
            case measure => simp [intOf]; omega
end Go.Proofs.YtaboemchkmmgeaaDoor.narrow
