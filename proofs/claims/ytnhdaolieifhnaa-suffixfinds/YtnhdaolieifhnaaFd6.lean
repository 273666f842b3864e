/- What halfOf and Read of package find answer. -/
import Derived.Test.YtnhdaolieifhnaaFd4
import Derived.Lib.Bytealg
namespace Go.Proofs.Ytnhdaolieifhnaa.find
set_option linter.unusedVariables false
open Go.ChangeShapes Go.WideShapes Go.ChangeAt Go.RowKit
open mem rows fd

theorem appM_one (w : World) (base : Nat) (v : Value) (l : List Int) (z : Int) (X : Nat) (hown : Own w base v l) (hX : w.cell? ⟨X, 0, none⟩ = some (.int .i64 z)) (hn : l.length ≤ 5000) (hb : base ≤ w.heap.size) :
    ∃ v' w', (Builtin.append_ #[49, 49] 49 #[v, .slice (some ⟨X, 0, none⟩) 1 1]).run Try.prog w = .ok v' w' ∧ Own w' base v' (l ++ [z]) ∧ w.grownBy w' v.ownBlock ∧ (v'.ownBlock = v.ownBlock ∨ v'.ownBlock = some w.heap.size) := by
  obtain ⟨i, hi, hz, h1, h2⟩ := infoI'
  have hnews : ∀ j u, [Value.int .i64 z][j]? = some u → w.cell? ((⟨X, 0, none⟩ : Addr).add j) = some u := fun j u hu => by
    cases j with
    | zero => simp at hu; subst hu; simpa [Addr.add] using hX
    | succ j => simp at hu
  obtain ⟨v', w', hr, ho, hg, _⟩ := run_append_own (P := Try.prog) w base 49 49 3 i (.int .i64 0) 1 8 Try.underlying49 hi hz h1 h2 rfl (by decide) v l.length (rowI l) hown
    ⟨X, 0, none⟩ 1 1 [.int .i64 z] rfl hnews (fun u hu => by simp at hu; subst hu; rfl) (by simp [maxLen]; omega) (by omega) hb
  refine ⟨v', w', hr, ?_, hg, ?_⟩
  · have e : rowI (l ++ [z]) = rowI l ++ [.int .i64 z] := by simp [rowI]
    unfold Own
    rw [e, List.length_append]
    exact ho
  · rcases hown.2 with ⟨rfl, hl0⟩ | ⟨g, cap, cur, rfl, hbg, hg, hnc, hcm, hcs, htake⟩
    · have hr2 := run_append_nil (P := Try.prog) w 49 49 3 i (.int .i64 0) Try.underlying49 hi hz ⟨X, 0, none⟩ 1 1 [.int .i64 z] (by rw [h1]; rfl) hnews (by omega) (by omega) (by rw [h2]; omega)
      rw [hr2] at hr
      injection hr with e1 _
      exact Or.inr (by rw [← e1]; rfl)
    · by_cases hroom : l.length + 1 ≤ cap
      · have hr2 := run_append_room (P := Try.prog) w 49 49 3 i Try.underlying49 hi g l.length cap cur hg ⟨X, 0, none⟩ 1 1 [.int .i64 z] (by rw [h1]; rfl) hnews (fun u hu => by simp at hu; subst hu; rfl) hroom (by rw [h1, hcs]; simp; omega)
        rw [hr2] at hr
        injection hr with e1 _
        exact Or.inl (by rw [← e1]; rfl)
      · have holds : ∀ j u, (rowI l)[j]? = some u → w.cell? ((⟨g, 0, none⟩ : Addr).add j) = some u := World.ownsRow.cells hown (g := g) rfl
        have hr2 := run_append_grow (P := Try.prog) w 49 49 3 i (.int .i64 0) Try.underlying49 hi hz ⟨g, 0, none⟩ l.length cap (rowI l) (by rw [h1]; exact hown.1) holds ⟨X, 0, none⟩ 1 1 [.int .i64 z] (by rw [h1]; rfl) hnews (by omega) (by omega) (growslice_fits (by omega) (by rw [h2]; omega))
        rw [hr2] at hr
        injection hr with e1 _
        exact Or.inr (by rw [← e1]; rfl)
/-- An append of one number, as a step of a walk. -/
theorem wpL_appM {ops : Array Oper} {rest : List Oper} {o : Oper} {a : Act} {Q : Exit → Act → World → Prop} {w : World} (hgd : o.guard = none) (s x : Operand)
    (ho : o.op = .call { callee := .builtin .append, args := #[s, x], argTypes := #[49, 49] }) (hty : o.type = 49) (v : Value) (l : List Int) (z : Int) (X : Nat) (hs : a.eval s = v) (hx : a.eval x = .slice (some ⟨X, 0, none⟩) 1 1)
    (base : Nat) (hown : Own w base v l) (hX : w.cell? ⟨X, 0, none⟩ = some (.int .i64 z)) (hn : l.length ≤ 5000) (hb : base ≤ w.heap.size)
    (h : ∀ v' w', Own w' base v' (l ++ [z]) → w.grownBy w' v.ownBlock → (v'.ownBlock = v.ownBlock ∨ v'.ownBlock = some w.heap.size) → wpList Try.prog ops Q rest (a.put o.dst v') w') : wpList Try.prog ops Q (o :: rest) a w := by
  obtain ⟨v', w', hr, h1, h2, h3⟩ := appM_one w base v l z X hown hX hn hb
  exact Lib.wpList_append_run w hgd s x _ _ ho v _ hs hx v' w' (by rw [hty]; exact hr) (h v' w' h1 h2 h3)
theorem idx_run (s : ByteArray) (c : Int) (w : World) : (callFunc 71 #[.string s, .int .u8 c]).run Try.prog w = .ok (.value (.int .i64 (Lib.indexByte s.data.toList c.toNat.toUInt8))) w := by
  rw [run_callFunc_extern Try.func71 (by kernel_rfl) (by kernel_rfl) (by kernel_rfl) (e := Extern.BytealgIndexByte.indexByte) (by kernel_rfl), Lib.run_indexByteString]
  rfl
theorem idx_at (s : ByteArray) (c : Int) (w : World) : Calls Try.prog 50 #[.string s, .int .u8 c] w fun e w' => e = .returned (.int .i64 (Lib.indexByte s.data.toList c.toNat.toUInt8)) ∧ w' = w := by
  have h := idx_run
  go_enter Try.func50, Try.ntmps50
  go_wp2
  go_ret
  exact ⟨rfl, rfl⟩
/-- What a sign is as a half byte, or -1. -/
def dg (c : Int) : Int := Lib.indexByte [48, 49, 50, 51, 52, 53, 54, 55, 56, 57, 97, 98, 99, 100, 101, 102] c.toNat.toUInt8
theorem halfOf_any (c : Int) (w : World) (hc : ((c == 63) = true)) : Calls Try.prog 35 #[.int .u8 c] w fun e w' => e = .returned (.tuple #[.int .i64 (-1), .bool true]) ∧ w' = w := by
  go_enter Try.func35, Try.ntmps35
  go_wp2
  go_ret2
  exact ⟨rfl, rfl⟩
theorem halfOf_one (c : Int) (w : World) (hc : ((c == 63) = false)) : Calls Try.prog 35 #[.int .u8 c] w fun e w' => e = .returned (.tuple #[.int .i64 (dg c), .bool (decide (0 ≤ dg c))]) ∧ w' = w := by
  have hi := fun w => idx_at ⟨#[48, 49, 50, 51, 52, 53, 54, 55, 56, 57, 97, 98, 99, 100, 101, 102]⟩ c w
  have e : Lib.indexByte (ByteArray.mk #[48, 49, 50, 51, 52, 53, 54, 55, 56, 57, 97, 98, 99, 100, 101, 102]).data.toList c.toNat.toUInt8 = dg c := rfl
  simp only [e] at hi
  generalize dg c = d at hi
  go_enter Try.func35, Try.ntmps35
  go_wp2_with (go_at_call 50; refine (hi _).mono ?_; rintro e w2 ⟨rfl, rfl⟩)
  go_ret2
  exact ⟨rfl, rfl⟩
/-- What is read, or nothing. -/
def rd (f : Nat → Int) : Nat → Nat → List Int → Option (List Int)
  | 0, _, m => if m.length = 0 ∨ m.length % 2 = 1 then none else some m
  | r + 1, k, m => if f k = 32 ∧ m.length % 2 = 0 then rd f r (k + 1) m else if f k = 63 then rd f r (k + 1) (m ++ [-1]) else if 0 ≤ dg (f k) then rd f r (k + 1) (m ++ [dg (f k)]) else none
theorem rd_blank (f : Nat → Int) (r k : Nat) (m : List Int) (h : f k = 32) (hm : m.length % 2 = 0) : rd f (r + 1) k m = rd f r (k + 1) m := by rw [rd, if_pos ⟨h, hm⟩]
theorem rd_any (f : Nat → Int) (r k : Nat) (m : List Int) (h : f k = 63) : rd f (r + 1) k m = rd f r (k + 1) (m ++ [-1]) := by rw [rd, if_neg (by omega), if_pos h]
theorem rd_half (f : Nat → Int) (r k : Nat) (m : List Int) (h1 : ¬ (f k = 32 ∧ m.length % 2 = 0)) (h2 : f k ≠ 63) (h3 : 0 ≤ dg (f k)) : rd f (r + 1) k m = rd f r (k + 1) (m ++ [dg (f k)]) := by rw [rd, if_neg h1, if_neg h2, if_pos h3]
theorem rd_bad (f : Nat → Int) (r k : Nat) (m : List Int) (h1 : ¬ (f k = 32 ∧ m.length % 2 = 0)) (h2 : f k ≠ 63) (h3 : ¬ 0 ≤ dg (f k)) : rd f (r + 1) k m = none := by rw [rd, if_neg h1, if_neg h2, if_neg h3]
/-- What Read answers. -/
def rdAns (e : Ending) (w' : World) (base : Nat) : Option (List Int) → Prop
  | some m => ∃ v, e = .returned (.tuple #[v, .nilIface]) ∧ Own w' base v m ∧ m.length % 2 = 0 ∧ 0 < m.length
  | none => e = .returned (.tuple #[.slice none 0 0, .iface 36 (.int .i64 3)])
set_option maxHeartbeats 1000000 in
theorem Read_at (s : ByteArray) (w : World) (hs : s.size ≤ 4000) :
    Calls Try.prog 20 #[.string s] w fun e w' => rdAns e w' w.heap.size (rd (sb s) s.size 0 []) ∧ Bl w w' := by
  obtain ⟨B, hB⟩ : ∃ B, B = w.heap.size := ⟨_, rfl⟩
  rw [← hB]
  have HB : Hid (B = w.heap.size) := hB
  clear hB
  go_enter Try.func20, Try.ntmps20
  go_wp2
  go_loopw [4, 10] (fun mv i wr => ∃ (k : Nat) (M : List Int), k ≤ s.size ∧ M.length ≤ k ∧ i = .int .i64 (k : Int) ∧ Hid (rd (sb s) (s.size - k) k M = rd (sb s) s.size 0 []) ∧ Own wr B mv M ∧ Bl w wr) (fun _ i _ => s.size - (intOf i).toNat)
  case atStart => exact ⟨0, [], Nat.zero_le _, Nat.le_refl _, rfl, rfl, Own.nil _ _, Bl.refl _⟩
  case round =>
    obtain ⟨k, M, hk, hMk, rfl, HR, hown, hbl⟩ := hrel
    obtain ⟨q, cp, hve, -⟩ := view_own hown
    by_cases hlt : k < s.size
    · have hlz : (k : Int) < (s.size : Int) := by omega
      have hgk : (((s[k]'hlt).toNat : Nat) : Int) = sb s k := (sb_get s k hlt).symm
      have hbd := sb_bd s k
      obtain ⟨r, hr⟩ : ∃ r, s.size - k = r + 1 := ⟨s.size - k - 1, by omega⟩
      rw [hr] at HR
      have hr' : s.size - (k + 1) = r := by omega
      have HS : Hid (s.size - (k + 1) = r) := hr'
      obtain ⟨L, hL⟩ : ∃ L, L = M.length := ⟨_, rfl⟩
      rw [← hL] at hve hMk
      have HL : Hid (L = M.length) := hL
      subst hve
      have cW := fun w => whole_at q L cp w (by omega)
      clear hr hr' hL
      obtain ⟨c, hc⟩ : ∃ c, c = sb s k := ⟨_, rfl⟩
      have HC : Hid (c = sb s k) := hc
      rw [← hc] at hgk hbd
      clear hc
      by_cases h32 : c = 32
      · have d32 : (c == 32) = true := by rw [beq_iff_eq]; exact h32
        by_cases hev : L % 2 = 0
        · rw [decide_eq_true hev] at cW
          have HN : Hid _ := rd_blank (sb s) r k M (by rw [← HC.out]; exact h32) (by rw [← HL.out]; exact hev)
          clear h32 hev
          go_wp2_with (go_at_call 34; refine (cW _).mono ?_; rintro e w2 ⟨rfl, rfl⟩)
          go_roundw
          case rel => exact ⟨k + 1, M, by omega, by rw [← HL.out]; omega, by go_num, by rw [HS.out, ← HN.out]; exact HR, hown, hbl⟩
          case measure => simp [intOf]; omega
        · rw [decide_eq_false hev] at cW
          have d63 : (c == 63) = false := by rw [h32]; rfl
          have hdg : ¬ 0 ≤ dg c := by rw [h32]; decide
          have HN : Hid (rd (sb s) (r + 1) k M = none) := rd_bad (sb s) r k M (by rw [← HL.out]; omega) (by rw [← HC.out]; omega) (by rw [← HC.out]; exact hdg)
          have cH := fun w => halfOf_one c w d63
          rw [decide_eq_false hdg] at cH
          generalize dg c = d at cH
          clear h32 hev hdg
          go_wp2_with (first
            | (go_at_call 34; refine (cW _).mono ?_; rintro e w2 ⟨rfl, rfl⟩)
            | (go_at_call 35; refine (cH _).mono ?_; rintro e w2 ⟨rfl, rfl⟩))
          go_ret2
          exact ⟨by rw [← HR.out, HN.out]; rfl, hbl⟩
      · have d32 : (c == 32) = false := by rw [beq_eq_false_iff_ne]; exact h32
        by_cases h63 : c = 63
        · have d63 : (c == 63) = true := by rw [beq_iff_eq]; exact h63
          have cH := fun w => halfOf_any c w d63
          have HN : Hid _ := rd_any (sb s) r k M (by rw [← HC.out]; exact h63)
          clear h32 h63
          go_wp2_with (first
            | (go_at_call 35; refine (cH _).mono ?_; rintro e w2 ⟨rfl, rfl⟩)
            | (at_builtin; refine wpL_appM rfl (.tmp 31) (.tmp 33) rfl rfl _ _ (-1) w2.heap.size rfl rfl B (hown.step ((Bl.refl _).alloc _)) (by go_simp) (by rw [← HL.out]; omega) (by have := hbl.size; have := HB.out; simp; omega) ?_; intro v' w3 ho3 hg3 hv3; have hb3 : Bl w w3 := bl_grown (hbl.alloc _) hg3 (fun j e => by rw [← HB.out]; exact (hown.block j e).1); clear hg3 hv3))
          go_roundw
          case rel => exact ⟨k + 1, M ++ [-1], by omega, by rw [List.length_append, ← HL.out]; simp; omega, by go_num, by rw [HS.out, ← HN.out]; exact HR, ho3, hb3⟩
          case measure => simp [intOf]; omega
        · have d63 : (c == 63) = false := by rw [beq_eq_false_iff_ne]; exact h63
          have cH := fun w => halfOf_one c w d63
          by_cases hdg : 0 ≤ dg c
          · have HN : Hid _ := rd_half (sb s) r k M (by rw [← HC.out]; omega) (by rw [← HC.out]; exact h63) (by rw [← HC.out]; exact hdg)
            rw [decide_eq_true hdg] at cH
            obtain ⟨d, hd⟩ : ∃ d, d = dg c := ⟨_, rfl⟩
            rw [← hd] at cH
            have HD : Hid (d = dg (sb s k)) := by rw [← HC.out]; exact hd
            clear h32 h63 hdg hd
            go_wp2_with (first
              | (go_at_call 35; refine (cH _).mono ?_; rintro e w2 ⟨rfl, rfl⟩)
              | (at_builtin; refine wpL_appM rfl (.tmp 31) (.tmp 33) rfl rfl _ _ d w2.heap.size rfl rfl B (hown.step ((Bl.refl _).alloc _)) (by go_simp) (by rw [← HL.out]; omega) (by have := hbl.size; have := HB.out; simp; omega) ?_; intro v' w3 ho3 hg3 hv3; have hb3 : Bl w w3 := bl_grown (hbl.alloc _) hg3 (fun j e => by rw [← HB.out]; exact (hown.block j e).1); clear hg3 hv3))
            go_roundw
            case rel => exact ⟨k + 1, M ++ [d], by omega, by rw [List.length_append, ← HL.out]; simp; omega, by go_num, by rw [HS.out, HD.out, ← HN.out]; exact HR, ho3, hb3⟩
            case measure => simp [intOf]; omega
          · have HN : Hid (rd (sb s) (r + 1) k M = none) := rd_bad (sb s) r k M (by rw [← HC.out]; omega) (by rw [← HC.out]; exact h63) (by rw [← HC.out]; exact hdg)
            rw [decide_eq_false hdg] at cH
            generalize dg c = d at cH
            clear h32 h63 hdg
            go_wp2_with (go_at_call 35; refine (cH _).mono ?_; rintro e w2 ⟨rfl, rfl⟩)
            go_ret2
            exact ⟨by rw [← HR.out, HN.out]; rfl, hbl⟩
    · have hnl : ¬ ((k : Int) < (s.size : Int)) := by omega
      have hz : s.size - k = 0 := by omega
      rw [hz] at HR
      have HM : Hid ((if M.length = 0 ∨ M.length % 2 = 1 then none else some M) = rd (sb s) s.size 0 []) := HR
      clear HR hz
      obtain ⟨L, hL⟩ : ∃ L, L = M.length := ⟨_, rfl⟩
      rw [← hL] at hve hMk
      have HL : Hid (L = M.length) := hL
      subst hve
      have cW := fun w => whole_at q L cp w (by omega)
      clear hL
      by_cases h0 : L = 0
      · have HN : Hid (none = rd (sb s) s.size 0 []) := by
          have h := HM.out
          rwa [if_pos (by rw [← HL.out]; exact Or.inl h0)] at h
        have d0 : ((L : Int) == 0) = true := by rw [beq_iff_eq]; omega
        clear h0
        go_wp2
        go_ret2
        exact ⟨by rw [← HN.out]; rfl, hbl⟩
      · have d0 : ((L : Int) == 0) = false := by rw [beq_eq_false_iff_ne]; omega
        by_cases hev : L % 2 = 0
        · have HN : Hid (some M = rd (sb s) s.size 0 []) := by
            have h := HM.out
            rwa [if_neg (by rw [← HL.out]; omega)] at h
          rw [decide_eq_true hev] at cW
          have HE : Hid (L % 2 = 0 ∧ 0 < L) := ⟨hev, by omega⟩
          clear h0 hev
          go_wp2_with (go_at_call 34; refine (cW _).mono ?_; rintro e w2 ⟨rfl, rfl⟩)
          go_ret2
          exact ⟨by rw [← HN.out]; exact ⟨_, rfl, hown, by rw [← HL.out]; exact HE.out.1, by rw [← HL.out]; exact HE.out.2⟩, hbl⟩
        · have HN : Hid (none = rd (sb s) s.size 0 []) := by
            have h := HM.out
            rwa [if_pos (by rw [← HL.out]; omega)] at h
          rw [decide_eq_false hev] at cW
          clear h0 hev
          go_wp2_with (go_at_call 34; refine (cW _).mono ?_; rintro e w2 ⟨rfl, rfl⟩)
          go_ret2
          exact ⟨by rw [← HN.out]; rfl, hbl⟩
end Go.Proofs.Ytnhdaolieifhnaa.find
