/- What Unhex of package digits answers. -/
import Derived.Test.YtncmpjdapngmpaaDoorDigs4
namespace Go.Proofs.YtncmpjdapngmpaaDoor.digs
open Go.ChangeShapes Go.WideShapes Go.ChangeAt Go.RowKit
open mem dig

/-- One byte more of a text that is read as digits: what came of it, and the first digit of a byte that is not whole (-1: none). -/
def unStep (c : Int) : Option (List Int × Int) → Option (List Int × Int)
  | none => none
  | some (o, h) => if c = 32 ∧ h < 0 then some (o, h) else if dv c < 0 then none else if h < 0 then some (o, dv c) else some (o ++ [h * 16 + dv c], -1)
def un (s : ByteArray) : Nat → Option (List Int × Int)
  | 0 => some ([], -1)
  | k + 1 => unStep (sb s k) (un s k)
theorem un_bd (s : ByteArray) (k : Nat) (o : List Int) (h : Int) (hu : un s k = some (o, h)) : -1 ≤ h ∧ h ≤ 15 ∧ 2 * o.length + (if 0 ≤ h then 1 else 0) ≤ k ∧ ∀ z ∈ o, 0 ≤ z ∧ z < 256 := by
  induction k generalizing o h with
  | zero =>
    obtain ⟨rfl, rfl⟩ : o = [] ∧ h = -1 := by simpa [un, eq_comm] using hu
    exact ⟨by omega, by omega, by simp, fun z hz => by cases hz⟩
  | succ k ih =>
    rw [un] at hu
    cases hp : un s k with
    | none => rw [hp] at hu; cases hu
    | some q =>
      obtain ⟨o', h'⟩ := q
      obtain ⟨a1, a2, a3, a4⟩ := ih o' h' hp
      have hd := dv_bd (sb s k)
      rw [hp, unStep] at hu
      by_cases c1 : sb s k = 32 ∧ h' < 0
      · rw [if_pos c1] at hu
        obtain ⟨rfl, rfl⟩ : o' = o ∧ h' = h := by simpa using hu
        exact ⟨a1, a2, by omega, a4⟩
      · rw [if_neg c1] at hu
        by_cases c2 : dv (sb s k) < 0
        · rw [if_pos c2] at hu; cases hu
        · rw [if_neg c2] at hu
          by_cases c3 : h' < 0
          · rw [if_pos c3] at hu
            obtain ⟨rfl, rfl⟩ : o' = o ∧ dv (sb s k) = h := by simpa using hu
            rw [if_neg (by omega)] at a3
            rw [if_pos (by omega)]
            exact ⟨by omega, by omega, by omega, a4⟩
          · rw [if_neg c3] at hu
            obtain ⟨rfl, rfl⟩ : o' ++ [h' * 16 + dv (sb s k)] = o ∧ -1 = h := by simpa using hu
            rw [if_pos (by omega)] at a3
            refine ⟨by omega, by omega, by simp; omega, fun z hz => ?_⟩
            rcases List.mem_append.1 hz with hz | hz
            · exact a4 z hz
            · obtain rfl := List.mem_singleton.1 hz
              omega
/-- Where reading stops, with what is told there. -/
def BadAt (s : ByteArray) (p : Nat) : Prop := ∃ o h, un s p = some (o, h) ∧ ((p < s.size ∧ ¬ (sb s p = 32 ∧ h < 0) ∧ dv (sb s p) < 0) ∨ (p = s.size ∧ 0 ≤ h))
theorem un_some (s : ByteArray) (k : Nat) (hk : k ≤ s.size) : (∃ p, p < k ∧ BadAt s p) ∨ ∃ o h, un s k = some (o, h) := by
  induction k with
  | zero => exact Or.inr ⟨[], -1, rfl⟩
  | succ k ih =>
    rcases ih (by omega) with ⟨p, hp, hb⟩ | ⟨o, h, hu⟩
    · exact Or.inl ⟨p, by omega, hb⟩
    · by_cases c1 : sb s k = 32 ∧ h < 0
      · exact Or.inr ⟨o, h, by rw [un, hu, unStep, if_pos c1]⟩
      · by_cases c2 : dv (sb s k) < 0
        · exact Or.inl ⟨k, by omega, o, h, hu, Or.inl ⟨by omega, c1, c2⟩⟩
        · by_cases c3 : h < 0
          · exact Or.inr ⟨o, _, by rw [un, hu, unStep, if_neg c1, if_neg c2, if_pos c3]⟩
          · exact Or.inr ⟨_, -1, by rw [un, hu, unStep, if_neg c1, if_neg c2, if_neg c3]⟩
theorem un_cases (s : ByteArray) : (∃ o, un s s.size = some (o, -1)) ∨ ∃ p, p ≤ s.size ∧ BadAt s p := by
  rcases un_some s s.size (Nat.le_refl _) with ⟨p, hp, hb⟩ | ⟨o, h, hu⟩
  · exact Or.inr ⟨p, by omega, hb⟩
  · have := un_bd s _ o h hu
    by_cases h0 : 0 ≤ h
    · exact Or.inr ⟨s.size, Nat.le_refl _, o, h, hu, Or.inr ⟨rfl, h0⟩⟩
    · obtain rfl : h = -1 := by omega
      exact Or.inl ⟨o, hu⟩
theorem un_stuck (s : ByteArray) (p k : Nat) (hb : BadAt s p) (hp : p < s.size) (hk : p < k) : un s k = none := by
  induction k with
  | zero => omega
  | succ k ih =>
    rcases Nat.lt_or_ge p k with h | h
    · rw [un, ih h]; rfl
    · obtain rfl : p = k := by omega
      obtain ⟨o, h, hu, hc⟩ := hb
      rcases hc with ⟨_, c1, c2⟩ | ⟨e, _⟩
      · rw [un, hu, unStep, if_neg c1, if_pos c2]
      · omega
theorem or16 (h d : Nat) (hh : h < 16) (hd : d < 16) : bits .or .i64 ((h : Int) * 16) (d : Int) = ((h * 16 + d : Nat) : Int) := by
  have : ∀ h : Fin 16, ∀ d : Fin 16, bits .or .i64 ((h.1 : Int) * 16) ((d.1 : Nat) : Int) = ((h.1 * 16 + d.1 : Nat) : Int) := by decide
  exact this ⟨h, hh⟩ ⟨d, hd⟩
theorem push_row (o : List Int) (c : Nat) (x : Int) (h : o.length < c) : (o ++ List.replicate (c - o.length) (0 : Int)).set o.length x = (o ++ [x]) ++ List.replicate (c - (o ++ [x]).length) 0 := by
  rw [List.set_append_right _ _ (Nat.le_refl _), Nat.sub_self, show c - o.length = c - (o.length + 1) + 1 from by omega, List.replicate_succ]
  simp
set_option maxRecDepth 4000 in
theorem unhex_ok (s : ByteArray) (o : List Int) (w : World) (hs : s.size ≤ 1000) (h : un s s.size = some (o, -1)) : Calls Tryd.prog 19 #[.string s] w fun e w' => e = .returned (.tuple #[.string (strOfNums o), .nilIface]) ∧ Gb w w' := by
  obtain ⟨c, hc⟩ : ∃ c, c = s.size / 2 := ⟨_, rfl⟩
  have hm := make_cap c (by omega)
  have hcc : (s.size : Int) / 2 = (c : Int) := by omega
  have HC : Hid (c = s.size / 2) := hc
  have HE : Hid (un s s.size = some (o, -1)) := h
  clear hc h
  go_enter Tryd.func19, Tryd.ntmps19
  go_wp2
  go_loopw [4, 5, 14] (fun b hi i wr => ∃ k l : Nat, ∃ (q : List Int) (h : Int), k ≤ s.size ∧ i = .int .i64 (k : Int) ∧ hi = .int .i64 h ∧ b = .slice (some ⟨w.heap.size, 0, none⟩) l c ∧ Hid (un s k = some (q, h)) ∧ Hid (l = q.length) ∧ Row wr 5 w.heap.size (q ++ List.replicate (c - q.length) 0) ∧ Gb w wr) (fun _ _ i _ => s.size - (intOf i).toNat)
  case atStart => exact ⟨0, 0, [], -1, Nat.zero_le _, rfl, rfl, rfl, rfl, rfl, by exact Row.made _ _ _, (Gb.refl _).alloc _ _⟩
  case round =>
    obtain ⟨k, l, q, h, hk, rfl, rfl, rfl, HU, HL, hrow, hgb⟩ := hrel
    obtain ⟨u1, u2, u3, u4⟩ := un_bd s k q h HU.out
    by_cases hlt : k < s.size
    · have hgk : (((s[k]'hlt).toNat : Nat) : Int) = sb s k := (sb_get s k hlt).symm
      have hb := sb_bd s k
      have hd := dv_bd (sb s k)
      by_cases cA : sb s k = 32 ∧ h < 0
      · have a1 : (sb s k == 32) = true := by simpa using cA.1
        have a2 : h < 0 := cA.2
        have HN : Hid (un s (k + 1) = some (q, h)) := by show _ = _; rw [un, HU.out, unStep, if_pos cA]
        clear cA
        go_wp2_with (go_at_call 12; refine (Digit_at _ _ (by omega) (by omega)).mono ?_; rintro e w2 ⟨rfl, rfl⟩)
        go_roundw
        case rel => exact ⟨k + 1, l, q, h, by omega, by go_num, rfl, rfl, HN, HL, hrow, hgb⟩
        case measure => simp [intOf]; omega
      · by_cases cB : dv (sb s k) < 0
        · exact absurd HE.out (by rw [un_stuck s k s.size ⟨q, h, HU.out, Or.inl ⟨hlt, cA, cB⟩⟩ hlt hlt]; exact fun h => by cases h)
        · obtain ⟨D, hD⟩ := Int.eq_ofNat_of_zero_le (show 0 ≤ dv (sb s k) by omega)
          by_cases cC : h < 0
          · have a1 : (sb s k == 32) = false := by simp; omega
            have HN : Hid (un s (k + 1) = some (q, (D : Int))) := by show _ = _; rw [un, HU.out, unStep, if_neg cA, if_neg cB, if_pos cC, hD]
            clear cA
            go_wp2_with (go_at_call 12; refine (Digit_at _ _ (by omega) (by omega)).mono ?_; rintro e w2 ⟨rfl, rfl⟩)
            go_roundw
            case rel => exact ⟨k + 1, l, q, D, by omega, by go_num, rfl, rfl, HN, HL, hrow, hgb⟩
            case measure => simp [intOf]; omega
          · obtain ⟨H, rfl⟩ := Int.eq_ofNat_of_zero_le (show 0 ≤ h by omega)
            obtain ⟨X, hX⟩ : ∃ X : Nat, X = H * 16 + D := ⟨_, rfl⟩
            have HN : Hid (un s (k + 1) = some (q ++ [(X : Int)], -1)) := by show _ = _; rw [un, HU.out, unStep, if_neg cA, if_neg cB, if_neg cC, hD, hX]; simp
            have ne32 : sb s k ≠ 32 := fun e => by rw [e] at cB; exact cB (by decide)
            have a1 : (sb s k == 32) = false := by simpa using ne32
            clear ne32
            have a2 : IntKind.i64.wrap ((H : Int) * 16) = (H : Int) * 16 := by rw [IntKind.wrap_i64]; omega
            have a3 : bits .or .i64 ((H : Int) * 16) (D : Int) = (X : Int) := by rw [hX]; exact or16 H D (by omega) (by omega)
            have a4 : IntKind.u8.wrap (X : Int) = (X : Int) := by rw [IntKind.wrap_u8']; omega
            have hl := HL.out
            have hcv := HC.out
            rw [if_pos (by omega)] at u3
            have hrowA : Row (wr.alloc (.cells #[.int .u8 (X : Int)] 5)) 5 w.heap.size (q ++ List.replicate (c - q.length) 0) := Row.keep hrow _
            have hroom : l + 1 ≤ c := by omega
            have k1 := hrowA.cell (j := l) (by simp; omega)
            have f1 := hrowA.frozen l
            have HR : Hid (Row ((wr.alloc (.cells #[.int .u8 (X : Int)] 5)).setCell ⟨w.heap.size, l, none⟩ (.int .u8 (X : Int))) 5 w.heap.size ((q ++ [(X : Int)]) ++ List.replicate (c - (q ++ [(X : Int)]).length) 0)) := by
              show Row _ _ _ _
              rw [← push_row q c X (by omega), hl]
              exact hrowA.set _ _
            have HL' : Hid (l + 1 = (q ++ [(X : Int)]).length) := by show _ = _; simp; exact hl
            clear hl hcv hrowA hrow hX cA
            go_wp2_with (go_at_call 12; refine (Digit_at _ _ (by omega) (by omega)).mono ?_; rintro e w2 ⟨rfl, rfl⟩)
            go_roundw
            case rel => exact ⟨k + 1, l + 1, q ++ [(X : Int)], -1, by omega, by go_num, rfl, rfl, HN, HL', HR.out, (hgb.alloc _ _).setCell (Nat.le_refl _) _⟩
            case measure => simp [intOf]; omega
    · obtain rfl : k = s.size := by omega
      obtain ⟨rfl, rfl⟩ : q = o ∧ h = -1 := by
        have := HU.out.symm.trans HE.out
        simpa using this
      have hl := HL.out
      have hcv := Row.cut hrow (P := Tryd.prog) Tryd.underlying59 Tryd.underlying5 Tryd.underlying9 0 l c q hl.symm (by simp; omega) (fun j hj => by
        rw [Nat.zero_add, List.getD_eq_getElem?_getD, List.getD_eq_getElem?_getD, List.getElem?_append_left (by omega)])
      clear hrow hl
      go_wp2
      go_ret2
      exact ⟨rfl, hgb⟩
set_option maxRecDepth 4000 in
theorem unhex_bad (s : ByteArray) (p : Nat) (w : World) (hs : s.size ≤ 1000) (hp : p ≤ s.size) (h : BadAt s p) : Calls Tryd.prog 19 #[.string s] w fun e w' => (∃ b, e = .returned (.tuple #[.string ⟨#[]⟩, .iface 74 (.pointer (some ⟨b, 0, none⟩))]) ∧ w'.cell? ⟨b, 0, none⟩ = some (.int .i64 3) ∧ w'.cell? ⟨b, 1, none⟩ = some (.int .i64 p)) ∧ Gb w w' := by
  obtain ⟨c, hc⟩ : ∃ c, c = s.size / 2 := ⟨_, rfl⟩
  have hm := make_cap c (by omega)
  have hcc : (s.size : Int) / 2 = (c : Int) := by omega
  have HC : Hid (c = s.size / 2) := hc
  have HE : Hid (BadAt s p) := h
  clear hc h
  go_enter Tryd.func19, Tryd.ntmps19
  go_wp2
  go_loopw [4, 5, 14] (fun b hi i wr => ∃ k l : Nat, ∃ (q : List Int) (h : Int), k ≤ p ∧ i = .int .i64 (k : Int) ∧ hi = .int .i64 h ∧ b = .slice (some ⟨w.heap.size, 0, none⟩) l c ∧ Hid (un s k = some (q, h)) ∧ Hid (l = q.length) ∧ Row wr 5 w.heap.size (q ++ List.replicate (c - q.length) 0) ∧ Gb w wr) (fun _ _ i _ => s.size - (intOf i).toNat)
  case atStart => exact ⟨0, 0, [], -1, Nat.zero_le _, rfl, rfl, rfl, rfl, rfl, by exact Row.made _ _ _, (Gb.refl _).alloc _ _⟩
  case round =>
    obtain ⟨k, l, q, h, hk, rfl, rfl, rfl, HU, HL, hrow, hgb⟩ := hrel
    obtain ⟨u1, u2, u3, u4⟩ := un_bd s k q h HU.out
    by_cases hlt' : k < s.size
    · have hlt : k < s.size := hlt'
      clear hlt'
      have hgk : (((s[k]'hlt).toNat : Nat) : Int) = sb s k := (sb_get s k hlt).symm
      have hb := sb_bd s k
      have hd := dv_bd (sb s k)
      have hnp : ∀ q' h', un s (k + 1) = some (q', h') → k + 1 ≤ p := fun q' h' hu => by
        rcases Nat.lt_or_ge k p with hh | hh
        · exact hh
        · obtain rfl : k = p := by omega
          have := un_stuck s k (k + 1) HE.out hlt (by omega)
          rw [this] at hu
          cases hu
      have HNP : Hid (∀ q' h', un s (k + 1) = some (q', h') → k + 1 ≤ p) := hnp
      clear hnp
      by_cases cA : sb s k = 32 ∧ h < 0
      · have a1 : (sb s k == 32) = true := by simpa using cA.1
        have a2 : h < 0 := cA.2
        have HN : Hid (un s (k + 1) = some (q, h)) := by show _ = _; rw [un, HU.out, unStep, if_pos cA]
        clear cA
        go_wp2_with (go_at_call 12; refine (Digit_at _ _ (by omega) (by omega)).mono ?_; rintro e w2 ⟨rfl, rfl⟩)
        go_roundw
        case rel => exact ⟨k + 1, l, q, h, HNP.out _ _ HN.out, by go_num, rfl, rfl, HN, HL, hrow, hgb⟩
        case measure => simp [intOf]; omega
      · by_cases cB : dv (sb s k) < 0
        · have hkp : k = p := by
            rcases Nat.lt_or_ge k p with hh | hh
            · obtain ⟨o', h', hu', _⟩ := HE.out
              rw [un_stuck s k p ⟨q, h, HU.out, Or.inl ⟨hlt, cA, cB⟩⟩ hlt hh] at hu'
              cases hu'
            · omega
          subst hkp
          by_cases e32 : sb s k = 32
          · have a1 : (sb s k == 32) = true := by simpa using e32
            have a2 : ¬ h < 0 := fun h => cA ⟨e32, h⟩
            have a3 : decide (h < 0) = false := decide_eq_false a2
            clear cA e32
            go_wp2_with (go_at_call 12; refine (Digit_at _ _ (by omega) (by omega)).mono ?_; rintro e w2 ⟨rfl, rfl⟩)
            go_ret2
            exact ⟨⟨_, rfl, by simp, by simp⟩, hgb.alloc _ _⟩
          · have a1 : (sb s k == 32) = false := by simpa using e32
            clear cA e32
            go_wp2_with (go_at_call 12; refine (Digit_at _ _ (by omega) (by omega)).mono ?_; rintro e w2 ⟨rfl, rfl⟩)
            go_ret2
            exact ⟨⟨_, rfl, by simp, by simp⟩, hgb.alloc _ _⟩
        · obtain ⟨D, hD⟩ := Int.eq_ofNat_of_zero_le (show 0 ≤ dv (sb s k) by omega)
          by_cases cC : h < 0
          · have a1 : (sb s k == 32) = false := by simp; omega
            have HN : Hid (un s (k + 1) = some (q, (D : Int))) := by show _ = _; rw [un, HU.out, unStep, if_neg cA, if_neg cB, if_pos cC, hD]
            clear cA
            go_wp2_with (go_at_call 12; refine (Digit_at _ _ (by omega) (by omega)).mono ?_; rintro e w2 ⟨rfl, rfl⟩)
            go_roundw
            case rel => exact ⟨k + 1, l, q, D, HNP.out _ _ HN.out, by go_num, rfl, rfl, HN, HL, hrow, hgb⟩
            case measure => simp [intOf]; omega
          · obtain ⟨H, rfl⟩ := Int.eq_ofNat_of_zero_le (show 0 ≤ h by omega)
            obtain ⟨X, hX⟩ : ∃ X : Nat, X = H * 16 + D := ⟨_, rfl⟩
            have HN : Hid (un s (k + 1) = some (q ++ [(X : Int)], -1)) := by show _ = _; rw [un, HU.out, unStep, if_neg cA, if_neg cB, if_neg cC, hD, hX]; simp
            have ne32 : sb s k ≠ 32 := fun e => by rw [e] at cB; exact cB (by decide)
            have a1 : (sb s k == 32) = false := by simpa using ne32
            clear ne32
            have a2 : IntKind.i64.wrap ((H : Int) * 16) = (H : Int) * 16 := by rw [IntKind.wrap_i64]; omega
            have a3 : bits .or .i64 ((H : Int) * 16) (D : Int) = (X : Int) := by rw [hX]; exact or16 H D (by omega) (by omega)
            have a4 : IntKind.u8.wrap (X : Int) = (X : Int) := by rw [IntKind.wrap_u8']; omega
            have hl := HL.out
            have hcv := HC.out
            rw [if_pos (by omega)] at u3
            have hrowA : Row (wr.alloc (.cells #[.int .u8 (X : Int)] 5)) 5 w.heap.size (q ++ List.replicate (c - q.length) 0) := Row.keep hrow _
            have hroom : l + 1 ≤ c := by omega
            have k1 := hrowA.cell (j := l) (by simp; omega)
            have f1 := hrowA.frozen l
            have HR : Hid (Row ((wr.alloc (.cells #[.int .u8 (X : Int)] 5)).setCell ⟨w.heap.size, l, none⟩ (.int .u8 (X : Int))) 5 w.heap.size ((q ++ [(X : Int)]) ++ List.replicate (c - (q ++ [(X : Int)]).length) 0)) := by
              show Row _ _ _ _
              rw [← push_row q c X (by omega), hl]
              exact hrowA.set _ _
            have HL' : Hid (l + 1 = (q ++ [(X : Int)]).length) := by show _ = _; simp; exact hl
            clear hl hcv hrowA hrow hX cA
            go_wp2_with (go_at_call 12; refine (Digit_at _ _ (by omega) (by omega)).mono ?_; rintro e w2 ⟨rfl, rfl⟩)
            go_roundw
            case rel => exact ⟨k + 1, l + 1, q ++ [(X : Int)], -1, HNP.out _ _ HN.out, by go_num, rfl, rfl, HN, HL', HR.out, (hgb.alloc _ _).setCell (Nat.le_refl _) _⟩
            case measure => simp [intOf]; omega
    · have hks : k = s.size := by omega
      have hps : p = s.size := by omega
      have h0 : 0 ≤ h := by
        obtain ⟨o', h', hu', hc'⟩ := HE.out
        rw [hps, ← hks, HU.out] at hu'
        obtain ⟨rfl, rfl⟩ : q = o' ∧ h = h' := by simpa using hu'
        rcases hc' with ⟨h1, _⟩ | ⟨_, h1⟩
        · omega
        · exact h1
      subst hks
      clear hrow
      go_wp2
      go_ret2
      exact ⟨⟨_, rfl, by simp, by simp [hps]⟩, hgb.alloc _ _⟩
end Go.Proofs.YtncmpjdapngmpaaDoor.digs
