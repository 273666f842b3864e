/- Texts laid together: Lx2, LayP, Lx3, TkRow, LxW. -/
import Derived.Test.YtococaecjecjgaaGreatDoorXLayoutReads2
import Derived.Test.YtococaecjecjgaaGreatDoorChecked
import Derived.Shelf.Strings.Prefix
import Derived.Deep.MidRow
import Derived.Deep.Cut
import Derived.Deep.Upon
import Derived.Deep.RegionLaw
/- lineEnd and begin of package lex. -/
namespace Go.Proofs.YtococaecjecjgaaGreatDoor.lx
set_option linter.unusedVariables false
open Go.ChangeShapes Go.WideShapes Go.ChangeAt Go.RowKit
open mem

theorem index_rl (l : List UInt8) : (Lib.indexByte l 10 = -1 ∧ rl l = l.length) ∨ (Lib.indexByte l 10 = (rl l : Int) ∧ rl l < l.length) := by
  induction l with
  | nil => exact Or.inl ⟨rfl, rfl⟩
  | cons c l ih =>
    unfold Lib.indexByte
    by_cases h : (c == 10) = true
    · rw [if_pos h]
      have e : rl (c :: l) = 0 := by unfold rl; rw [List.takeWhile_cons_of_neg (by simp at h; simp [h])]; rfl
      rw [e]
      exact Or.inr ⟨rfl, by simp⟩
    · rw [if_neg h]
      have e : rl (c :: l) = rl l + 1 := by unfold rl; rw [List.takeWhile_cons_of_pos (by simp at h; simp [h])]; rfl
      rw [e]
      rcases ih with ⟨h1, h2⟩ | ⟨h1, h2⟩
      · rw [h1]; left; exact ⟨rfl, by simp [h2]⟩
      · rw [h1]; right
        rw [if_neg (by intro h; rw [beq_iff_eq] at h; omega)]
        exact ⟨by omega, by simp; omega⟩
theorem ret_int {a b : Int} (h : a = b) : Ending.returned (.int .i64 a) = .returned (.int .i64 b) := by rw [h]
theorem lineEnd_at (s : ByteArray) (I : Nat) (w : World) (hs : s.size ≤ 100000) (hI : I ≤ s.size) :
    Calls Tryz.prog 157 #[.string s, .int .i64 (I : Int)] w fun e w' => e = .returned (.int .i64 ((I + rl ((L s).drop I) : Nat) : Int)) ∧ Dr w w' := by
  have e1 : (s.extract I s.size).data.toList = (L s).drop I := by
    have := L_ext s I s.size
    rw [List.take_of_length_le (by rw [L_len]; exact Nat.le_refl _)] at this
    exact this
  have c1 := Any.strings_IndexByte layI.laid (s.extract I s.size) 10
  rw [e1] at c1
  have hl : ((L s).drop I).length = s.size - I := by rw [List.length_drop, L_len]
  have hr := index_rl ((L s).drop I)
  rw [hl] at hr
  obtain ⟨R, hR⟩ : ∃ R, R = rl ((L s).drop I) := ⟨_, rfl⟩
  rw [← hR] at hr ⊢
  change ∀ w : World, Calls Tryz.prog 175 #[.string (s.extract I s.size), .int .u8 10] w fun e w' => e = .returned (.int .i64 (Lib.indexByte ((L s).drop I) 10)) ∧ w' = w at c1
  generalize Lib.indexByte ((L s).drop I) 10 = x at hr c1
  clear hR e1 hl
  rcases hr with ⟨rfl, h2⟩ | ⟨rfl, h2⟩
  · go_enter Tryz.func157, Tryz.ntmps157
    go_wp2_with fail
    refine (c1 _).mono ?_
    rintro e w1 ⟨rfl, rfl⟩
    go_wp2
    go_ret
    exact ⟨ret_int (by omega), Dr.refl _⟩
  · go_enter Tryz.func157, Tryz.ntmps157
    go_wp2_with fail
    refine (c1 _).mono ?_
    rintro e w1 ⟨rfl, rfl⟩
    go_wp2
    go_ret
    exact ⟨ret_int (by omega), Dr.refl _⟩

theorem byte_is (s : ByteArray) (k : Nat) (h : k < s.size) (c : UInt8) (hc : sb s k = (c.toNat : Int)) : (L s)[k]? = some c := by
  rw [L_get s k h]
  rw [sb_get s k h] at hc
  rw [UInt8.toNat_inj.1 (show (s[k]'h).toNat = c.toNat by omega)]
theorem gap_none (s : ByteArray) (k : Nat) (h : k < s.size) (h1 : sb s k ≠ 32) (h2 : sb s k ≠ 10) (h3 : sb s k ≠ 9) (h4 : sb s k ≠ 35) : gap ((L s).drop k) = 0 := by
  rw [drop_cons (L s) k _ (L_get s k h), gap_cons]
  rw [sb_get s k h] at h1 h2 h3 h4
  generalize s[k]'h = c at *
  have e1 : isB c = false := by
    unfold isB
    simp only [Bool.or_eq_false_iff, beq_eq_false_iff_ne]
    refine ⟨⟨?_, ?_⟩, ?_⟩
    · rintro rfl; exact h1 rfl
    · rintro rfl; exact h2 rfl
    · rintro rfl; exact h3 rfl
  have e2 : (c == 35) = false := by
    rw [beq_eq_false_iff_ne]
    rintro rfl; exact h4 rfl
  rw [e1, e2]
  rfl
theorem dr_trans {a b c : World} (h : Dr a b) (k : Dr b c) : Dr a c := by
  obtain ⟨q, rfl⟩ := k
  exact Dr.drewN q h
/-- Where the next token begins. -/
def Beg (l : List UInt8) (I b : Nat) : Prop := I ≤ b ∧ b ≤ l.length ∧ lx (l.drop b) b = lx (l.drop I) I ∧ (b = l.length ∨ b < l.length ∧ gap (l.drop b) = 0)
set_option maxRecDepth 10000 in
theorem begin_at (s : ByteArray) (I : Nat) (w : World) (hs : s.size ≤ 100000) (hI : I ≤ s.size) :
    Calls Tryz.prog 129 #[.string s, .int .i64 (I : Int)] w fun e w' => ∃ b : Nat, e = .returned (.int .i64 (b : Int)) ∧ Beg (L s) I b ∧ Dr w w' := by
  go_enter Tryz.func129, Tryz.ntmps129
  go_wp2
  go_loopw [1] (fun i wr => ∃ k : Nat, I ≤ k ∧ k ≤ s.size ∧ i = .int .i64 (k : Int) ∧ Hid (lx ((L s).drop k) k = lx ((L s).drop I) I) ∧ Dr w wr) (fun i _ => s.size - (intOf i).toNat)
  case atStart => exact ⟨I, Nat.le_refl _, hI, rfl, rfl, Dr.refl _⟩
  case round =>
    obtain ⟨k, hk, hks, rfl, HL, hd⟩ := hrel
    obtain ⟨q, rfl⟩ := hd
    generalize hwq : w.drewN q = wq
    have HW : Hid (w.drewN q = wq) := hwq
    clear hwq
    by_cases h1 : k < s.size
    · have e1 : (((s[k]'h1).toNat : Nat) : Int) = sb s k := (sb_get s k h1).symm
      have d1 : decide ((k : Int) < (s.size : Int)) = true := decide_eq_true (by omega)
      have HG : Hid (∀ c : UInt8, sb s k = (c.toNat : Int) → (L s)[k]? = some c) := byte_is s k h1
      have hgap : Hid (∀ _ : Nat, sb s k ≠ 32 → sb s k ≠ 10 → sb s k ≠ 9 → sb s k ≠ 35 → gap ((L s).drop k) = 0) := fun _ => gap_none s k h1
      generalize sb s k = x at *
      by_cases b32 : x = 32 ∨ x = 10 ∨ x = 9
      · have HB : Hid (lx ((L s).drop (k + 1)) (k + 1) = lx ((L s).drop I) I) := by
          rw [← HL.out]
          rcases b32 with h | h | h
          · exact (lx_over (L s) k 32 (HG.out 32 h) rfl).symm
          · exact (lx_over (L s) k 10 (HG.out 10 h) rfl).symm
          · exact (lx_over (L s) k 9 (HG.out 9 h) rfl).symm
        rcases b32 with rfl | rfl | rfl
        all_goals
          go_wp2
          go_roundw
          case rel => exact ⟨k + 1, by omega, by omega, by go_num, HB.out, ⟨q, HW.out.symm⟩⟩
          case measure => simp [intOf]; omega
      · have n32 : (x == 32) = false := by rw [beq_eq_false_iff_ne]; omega
        have n10 : (x == 10) = false := by rw [beq_eq_false_iff_ne]; omega
        have n9 : (x == 9) = false := by rw [beq_eq_false_iff_ne]; omega
        by_cases b35 : x = 35
        · subst b35
          have cE := lineEnd_at s k
          have hrl : 0 < rl ((L s).drop k) ∧ k + rl ((L s).drop k) ≤ s.size := by
            have e := drop_cons (L s) k 35 (HG.out 35 rfl)
            have h := tw_le (· != 10) ((L s).drop k)
            rw [List.length_drop, L_len] at h
            refine ⟨?_, by unfold rl; omega⟩
            rw [e]; unfold rl; rw [List.takeWhile_cons_of_pos (by decide)]; simp
          have HB : Hid (lx ((L s).drop (k + rl ((L s).drop k))) (k + rl ((L s).drop k)) = lx ((L s).drop I) I) := by
            rw [← HL.out]
            exact (rm_in (L s) k (HG.out 35 rfl)).symm
          generalize rl ((L s).drop k) = R at *
          clear b32
          go_wp2_with fail
          refine (cE _ hs hks).mono ?_
          rintro e w1 ⟨rfl, hd1⟩
          go_wp2
          go_roundw
          case rel => exact ⟨k + R, by omega, by omega, rfl, HB.out, by rw [← HW.out] at hd1; exact dr_trans ⟨q, rfl⟩ hd1⟩
          case measure => simp [intOf]; omega
        · have n35 : (x == 35) = false := by rw [beq_eq_false_iff_ne]; exact b35
          have HN : Hid (gap ((L s).drop k) = 0) := hgap.out 0 (by omega) (by omega) (by omega) b35
          clear b32 b35
          go_wp2
          go_ret
          exact ⟨k, rfl, ⟨hk, by rw [L_len]; exact hks, HL.out, Or.inr ⟨by rw [L_len]; exact h1, HN.out⟩⟩, ⟨q, HW.out.symm⟩⟩
    · have d1 : decide ((k : Int) < (s.size : Int)) = false := decide_eq_false (by omega)
      go_wp2
      go_ret
      exact ⟨k, rfl, ⟨hk, by rw [L_len]; exact hks, HL.out, Or.inl (by rw [L_len]; omega)⟩, ⟨q, HW.out.symm⟩⟩
end Go.Proofs.YtococaecjecjgaaGreatDoor.lx
/- The library's own texts that a call comes to, as this program has them: laid on the shelf's. -/
namespace Go.Proofs.YtococaecjecjgaaGreatDoor.layP
open Go.Shelf
def rf : FuncId → FuncId
  | 99 => 109
  | 206 => 140
  | x => x
def rt : TypeId → TypeId
  | 3 => 3
  | 4 => 4
  | 9 => 9
  | x => x
def rg : Nat → Nat

  | x => x
def ren : Ren := ⟨rf, rt, rg⟩
set_option maxRecDepth 100000 in
theorem laid : Lays.n99 Tryz.prog ren where
  mixed := by kernel_rfl
  f99 := by kernel_rfl
  f206 := by kernel_rfl
  t3 := by kernel_rfl
  a3 := fun _ => by kernel_rfl
  z3 := fun _ => by kernel_rfl
  v3 := fun _ => by kernel_rfl
  t4 := by kernel_rfl
  a4 := fun _ => by kernel_rfl
  z4 := fun _ => by kernel_rfl
  v4 := fun _ => by kernel_rfl
  t9 := by kernel_rfl
  a9 := fun _ => by kernel_rfl
  z9 := fun _ => by kernel_rfl
  v9 := fun _ => by kernel_rfl
end Go.Proofs.YtococaecjecjgaaGreatDoor.layP
/- end of package lex. -/
namespace Go.Proofs.YtococaecjecjgaaGreatDoor.lx
set_option linter.unusedVariables false
open Go.ChangeShapes Go.WideShapes Go.ChangeAt Go.RowKit
open mem

/-- The marks, in their order. -/
def mks : List (List UInt8) := [[61, 61], [33, 61], [123], [125], [91], [93], [40], [41], [59], [44], [61], [43], [45], [42], [38], [124], [60], [62]]
/-- They lie where they are laid. -/
def Mks (w : World) : Prop := ∀ j t, mks[j]? = some t → w.cell? ⟨3, j, none⟩ = some (.string (tx t))
def mkL : List Value := mks.map fun t => Value.string (tx t)
theorem Mks.range {w : World} (h : Mks w) : w.rangeAt 3 0 mkL := by
  intro j v hv
  rw [Nat.zero_add]
  unfold mkL at hv
  rw [List.getElem?_map, Option.map_eq_some_iff] at hv
  obtain ⟨t, h1, rfl⟩ := hv
  exact h j t h1
theorem info18 : (Tryz.prog.info? 244).map (·.size) = some mkL.length := by kernel_rfl
theorem run_mark (w : World) (j : Nat) (t : List UInt8) (h : mks[j]? = some t) : (Instr.index 244 (.agg mkL.toArray) (.int .i64 (j : Int))).run Tryz.prog w = .ok (.string (tx t)) w := by
  rcases j with _ | _ | _ | _ | _ | _ | _ | _ | _ | _ | _ | _ | _ | _ | _ | _ | _ | _ | j
  · obtain rfl := Option.some.inj h; kernel_rfl
  · obtain rfl := Option.some.inj h; kernel_rfl
  · obtain rfl := Option.some.inj h; kernel_rfl
  · obtain rfl := Option.some.inj h; kernel_rfl
  · obtain rfl := Option.some.inj h; kernel_rfl
  · obtain rfl := Option.some.inj h; kernel_rfl
  · obtain rfl := Option.some.inj h; kernel_rfl
  · obtain rfl := Option.some.inj h; kernel_rfl
  · obtain rfl := Option.some.inj h; kernel_rfl
  · obtain rfl := Option.some.inj h; kernel_rfl
  · obtain rfl := Option.some.inj h; kernel_rfl
  · obtain rfl := Option.some.inj h; kernel_rfl
  · obtain rfl := Option.some.inj h; kernel_rfl
  · obtain rfl := Option.some.inj h; kernel_rfl
  · obtain rfl := Option.some.inj h; kernel_rfl
  · obtain rfl := Option.some.inj h; kernel_rfl
  · obtain rfl := Option.some.inj h; kernel_rfl
  · obtain rfl := Option.some.inj h; kernel_rfl
  · exact absurd h (by simp [mks])
/-- The first mark that fits. -/
theorem mk_mem (l : List UInt8) (j : Nat) (t : List UInt8) (h : mks[j]? = some t) (hp : t.isPrefixOf l = true) (hn : ∀ i u, i < j → mks[i]? = some u → u.isPrefixOf l = false) : mk l = t.length := by
  have two : ∀ c r, l = c :: r → 1 < j → ((c == 61 || c == 33) && r.head? == some 61) = false := by
    intro c r hl hj
    subst hl
    rw [Bool.eq_false_iff]
    intro h2
    simp only [Bool.and_eq_true, Bool.or_eq_true, beq_iff_eq] at h2
    cases r with
    | nil => simp at h2
    | cons d r =>
      simp at h2
      obtain ⟨h3, rfl⟩ := h2
      rcases h3 with rfl | rfl
      · have := hn 0 _ (by omega) rfl; simp at this
      · have := hn 1 _ (by omega) rfl; simp at this
  have single : ∀ c, t = [c] → 1 < j → isM c = true → mk l = t.length := by
    rintro c rfl hj hc
    cases l with
    | nil => simp at hp
    | cons d r =>
      simp at hp
      subst hp
      rw [mk_cons, two _ _ rfl hj, if_neg (by decide), if_pos hc]
      rfl
  rcases j with _ | _ | _ | _ | _ | _ | _ | _ | _ | _ | _ | _ | _ | _ | _ | _ | _ | _ | j
  · obtain rfl := Option.some.inj h
    rcases l with _ | ⟨c, _ | ⟨d, r⟩⟩ <;> simp at hp
    obtain ⟨rfl, rfl⟩ := hp
    rfl
  · obtain rfl := Option.some.inj h
    rcases l with _ | ⟨c, _ | ⟨d, r⟩⟩ <;> simp at hp
    obtain ⟨rfl, rfl⟩ := hp
    rfl
  · obtain rfl := Option.some.inj h; exact single _ rfl (by omega) rfl
  · obtain rfl := Option.some.inj h; exact single _ rfl (by omega) rfl
  · obtain rfl := Option.some.inj h; exact single _ rfl (by omega) rfl
  · obtain rfl := Option.some.inj h; exact single _ rfl (by omega) rfl
  · obtain rfl := Option.some.inj h; exact single _ rfl (by omega) rfl
  · obtain rfl := Option.some.inj h; exact single _ rfl (by omega) rfl
  · obtain rfl := Option.some.inj h; exact single _ rfl (by omega) rfl
  · obtain rfl := Option.some.inj h; exact single _ rfl (by omega) rfl
  · obtain rfl := Option.some.inj h; exact single _ rfl (by omega) rfl
  · obtain rfl := Option.some.inj h; exact single _ rfl (by omega) rfl
  · obtain rfl := Option.some.inj h; exact single _ rfl (by omega) rfl
  · obtain rfl := Option.some.inj h; exact single _ rfl (by omega) rfl
  · obtain rfl := Option.some.inj h; exact single _ rfl (by omega) rfl
  · obtain rfl := Option.some.inj h; exact single _ rfl (by omega) rfl
  · obtain rfl := Option.some.inj h; exact single _ rfl (by omega) rfl
  · obtain rfl := Option.some.inj h; exact single _ rfl (by omega) rfl
  · exact absurd h (by simp [mks])
theorem mk_none (l : List UInt8) (hn : ∀ i u, i < 18 → mks[i]? = some u → u.isPrefixOf l = false) : mk l = 0 := by
  cases l with
  | nil => rfl
  | cons c r =>
    rw [mk_cons]
    rw [if_neg, if_neg]
    · intro hc
      have hm : c ∈ singles := by simpa [isM] using hc
      have key : ∀ c ∈ singles, ∃ i, i < 18 ∧ mks[i]? = some [c] := by decide
      obtain ⟨i, h1, h2⟩ := key c hm
      have := hn i _ h1 h2
      simp at this
    · intro h2
      simp only [Bool.and_eq_true, Bool.or_eq_true, beq_iff_eq] at h2
      cases r with
      | nil => simp at h2
      | cons d r =>
        simp at h2
        obtain ⟨h3, rfl⟩ := h2
        rcases h3 with rfl | rfl
        · have := hn 0 _ (by omega) rfl; simp at this
        · have := hn 1 _ (by omega) rfl; simp at this
theorem wl_is (s : ByteArray) (I k : Nat) (hk : I ≤ k) (hks : k ≤ s.size) (hw : ∀ j, I ≤ j → j < k → (lt (sb s j) || dg (sb s j)) = true) (he : k < s.size → (lt (sb s k) || dg (sb s k)) = false) : wl ((L s).drop I) = k - I := by
  have e : (L s).drop I = ((L s).take k).drop I ++ (L s).drop k := by
    have := List.take_append_drop (k - I) ((L s).drop I)
    rw [List.drop_drop, show I + (k - I) = k by omega] at this
    rw [List.drop_take, this]
  have hl : (((L s).take k).drop I).length = k - I := by rw [List.length_drop, List.length_take, L_len]; omega
  rw [e, wl_app, hl]
  · intro c hc
    obtain ⟨i, hi, rfl⟩ := List.mem_iff_getElem.1 hc
    rw [hl] at hi
    have h1 := hw (I + i) (by omega) (by omega)
    rw [sb_get s (I + i) (by omega)] at h1
    rw [List.getElem_drop, List.getElem_take]
    exact h1
  · intro c hc
    rw [List.head?_drop] at hc
    rcases Nat.lt_or_ge k s.size with h | h
    · rw [L_get s k h] at hc
      injection hc with hc
      have h1 := he h
      rw [sb_get s k h, hc] at h1
      exact h1
    · rw [List.getElem?_eq_none (by rw [L_len]; exact h)] at hc
      cases hc
theorem new_at (w : World) (o : Obj) : (w.alloc o).heap[w.heap.size]? = some o := by
  show (w.heap.push _)[w.heap.size]? = _
  rw [Array.getElem?_push, if_pos rfl]
/-- An error that is thrown. -/
def Thr (w w' : World) (B : Nat) (c p : Int) : Prop := w.heap.size ≤ B ∧ w'.heap[B]? = some (.cells #[.int .i64 c, .int .i64 p] 116 (0, 0)) ∧ Bl w w'
def thrown (B : Nat) : Ending := .panicked [{ v := .iface 113 (.pointer (some ⟨B, 0, none⟩)), recovered := false }]
set_option maxRecDepth 10000 in
theorem end_at (s : ByteArray) (I : Nat) (w : World) (hs : s.size ≤ 100000) (hI : I < s.size) (hm : Mks w) :
    Calls Tryz.prog 130 #[.string s, .int .i64 (I : Int)] w fun e w' => (0 < tl ((L s).drop I) ∧ e = .returned (.int .i64 ((I + tl ((L s).drop I) : Nat) : Int)) ∧ w' = w) ∨ (tl ((L s).drop I) = 0 ∧ ∃ B, e = thrown B ∧ Thr w w' B 3 I) := by
  have e1 : (s.extract I s.size).data.toList = (L s).drop I := by
    have := L_ext s I s.size
    rw [List.take_of_length_le (by rw [L_len]; exact Nat.le_refl _)] at this
    exact this
  have cP : ∀ (t : List UInt8) (w : World), Calls Tryz.prog 109 #[.string (s.extract I s.size), .string (tx t)] w fun e w' => e = .returned (.bool (t.isPrefixOf ((L s).drop I))) ∧ w' = w := by
    intro t w
    have c := Any.strings_HasPrefix layP.laid (s.extract I s.size) (tx t) w
    rw [e1] at c
    exact c
  clear e1
  have hR : Hid (w.rangeAt 3 0 mkL) := hm.range
  clear hm
  obtain ⟨l, hl⟩ : ∃ l, l = (L s).drop I := ⟨_, rfl⟩
  rw [← hl] at cP ⊢
  have HLL : Hid (l = (L s).drop I) := hl
  clear hl
  go_enter Tryz.func130, Tryz.ntmps130
  go_wp2
  go_loopw [5] (fun i wr => ∃ k : Nat, I ≤ k ∧ k ≤ s.size ∧ i = .int .i64 (k : Int) ∧ wr = w ∧ Hid (∀ j, I ≤ j → j < k → (lt (sb s j) || dg (sb s j)) = true)) (fun i _ => s.size - (intOf i).toNat)
  case atStart => exact ⟨I, Nat.le_refl _, by omega, rfl, rfl, fun j h1 h2 => by omega⟩
  case round =>
    obtain ⟨k, hk, hks, rfl, rfl, HW⟩ := hrel
    -- behind the word
    have HE : (k < s.size → (lt (sb s k) || dg (sb s k)) = false) → wl l = k - I := fun h => by
      rw [HLL.out]
      exact wl_is s I k hk hks HW.out h
    by_cases h1 : k < s.size
    · have e1 : (((s[k]'h1).toNat : Nat) : Int) = sb s k := (sb_get s k h1).symm
      have d1 : decide ((k : Int) < (s.size : Int)) = true := decide_eq_true (by omega)
      have c1 := letter_at (sb s k)
      have c2 := digit_at (sb s k)
      have HN : ∀ b : Bool, (lt (sb s k) || dg (sb s k)) = b → b = true → Hid (∀ j, I ≤ j → j < k + 1 → (lt (sb s j) || dg (sb s j)) = true) := fun b hb h => by
        intro j h2 h3
        rcases Nat.lt_or_ge j k with h4 | h4
        · exact HW.out j h2 h4
        · obtain rfl : j = k := by omega
          rw [hb, h]
      by_cases hl1 : lt (sb s k) = true
      · have HN' := HN true (by rw [hl1]; rfl) rfl
        rw [hl1] at c1
        clear HN HE
        go_wp2_with fail
        refine (c1 _).mono ?_
        rintro e w1 ⟨rfl, rfl⟩
        go_wp2
        go_roundw
        case rel => exact ⟨k + 1, by omega, by omega, by go_num, by first | rfl | trivial, HN'.out⟩
        case measure => simp [intOf]; omega
      · rw [Bool.not_eq_true] at hl1
        by_cases hl2 : dg (sb s k) = true
        · have HN' := HN true (by rw [hl1, hl2]; rfl) rfl
          rw [hl1] at c1
          rw [hl2] at c2
          clear HN HE
          go_wp2_with fail
          refine (c1 _).mono ?_
          rintro e w1 ⟨rfl, rfl⟩
          go_wp2_with fail
          refine (c2 _).mono ?_
          rintro e w1 ⟨rfl, rfl⟩
          go_wp2
          go_roundw
          case rel => exact ⟨k + 1, by omega, by omega, by go_num, by first | rfl | trivial, HN'.out⟩
          case measure => simp [intOf]; omega
        · rw [Bool.not_eq_true] at hl2
          have HE' : Hid (wl l = k - I) := HE (fun _ => by rw [hl1, hl2]; rfl)
          rw [hl1] at c1
          rw [hl2] at c2
          clear HN HE
          by_cases hkI : I < k
          · have HT : Hid (tl l = k - I) := by
              show tl l = k - I
              unfold tl
              rw [HE'.out, if_neg (by omega)]
            go_wp2_with fail
            refine (c1 _).mono ?_
            rintro e w1 ⟨rfl, rfl⟩
            go_wp2_with fail
            refine (c2 _).mono ?_
            rintro e w1 ⟨rfl, rfl⟩
            go_wp2
            go_ret
            exact Or.inl ⟨by have := HT.out; omega, ret_int (by have := HT.out; omega), rfl⟩
          · obtain rfl : k = I := by omega
            have HT : Hid (tl l = mk l) := by
              show tl l = mk l
              unfold tl
              rw [HE'.out, if_pos (by omega)]
            clear HE' HW
            go_wp2_with fail
            refine (c1 _).mono ?_
            rintro e w1 ⟨rfl, rfl⟩
            go_wp2_with fail
            refine (c2 _).mono ?_
            rintro e w1 ⟨rfl, rfl⟩
            go_upto_region 6 with fail
            refine wp_region_lit ?_
            refine wpList_load_mid rfl 244 _ rfl 3 0 rfl mkL _ hR.out Tryz.underlying244 rfl info18 ?_
            generalize hAV : Value.agg mkL.toArray = AV
            have HAV : Hid (Value.agg mkL.toArray = AV) := hAV
            clear hAV hR c1 c2 d1 hl1 hl2
            go_wp2
            go_loopw [32] (fun i wr => ∃ j : Nat, j ≤ 18 ∧ i = .int .i64 (j : Int) ∧ wr = w1 ∧ Hid (∀ i u, i < j → mks[i]? = some u → u.isPrefixOf l = false)) (fun i _ => 18 - (intOf i).toNat)
            case atStart => exact ⟨0, by omega, rfl, rfl, fun i u h => by omega⟩
            case round =>
              obtain ⟨j, hj, rfl, rfl, HP⟩ := hrel
              by_cases h18 : j < 18
              · have d1 : decide ((j : Int) < 18) = true := decide_eq_true (by omega)
                obtain ⟨t, ht⟩ : ∃ t, mks[j]? = some t := ⟨_, List.getElem?_eq_getElem (show j < mks.length from h18)⟩
                have hix := run_mark wr j t ht
                rw [HAV.out] at hix
                have cP' := cP t
                by_cases hp : t.isPrefixOf l = true
                · rw [hp] at cP'
                  have HR : Hid (tl l = t.length) := by rw [HT.out]; exact mk_mem l j t ht hp HP.out
                  have hlen : (tx t).size = t.length := tx_size t
                  have hlt : t.length ≤ 2 := by
                    have key : ∀ t ∈ mks, t.length ≤ 2 := by decide
                    exact key t (List.mem_of_getElem? ht)
                  have h0 : 0 < t.length := by
                    have key : ∀ t ∈ mks, 0 < t.length := by decide
                    exact key t (List.mem_of_getElem? ht)
                  clear hp ht
                  generalize tx t = T at *
                  go_wp2_with fail
                  refine (cP' _).mono ?_
                  rintro e w1 ⟨rfl, rfl⟩
                  go_wp2
                  go_ret
                  exact Or.inl ⟨by have := HR.out; omega, ret_int (by have := HR.out; omega), rfl⟩
                · rw [Bool.not_eq_true] at hp
                  rw [hp] at cP'
                  have HP' : Hid (∀ i u, i < j + 1 → mks[i]? = some u → u.isPrefixOf l = false) := by
                    intro i u hi hu
                    rcases Nat.lt_or_ge i j with h | h
                    · exact HP.out i u h hu
                    · obtain rfl : i = j := by omega
                      rw [ht] at hu
                      injection hu with hu
                      rw [← hu]; exact hp
                  clear hp ht
                  go_wp2_with fail
                  refine (cP' _).mono ?_
                  rintro e w1 ⟨rfl, rfl⟩
                  go_wp2
                  go_roundw
                  case rel => exact ⟨j + 1, by omega, by go_num, by first | rfl | trivial, HP'.out⟩
                  case measure => simp [intOf]; omega
              · obtain rfl : j = 18 := by omega
                have HR : Hid (tl l = 0) := by rw [HT.out]; exact mk_none l HP.out
                go_wp2
                exact ⟨rfl, Or.inr ⟨HR.out, _, rfl, Nat.le_refl _, new_at wr _, (Bl.refl _).alloc _⟩⟩
    · have d1 : decide ((k : Int) < (s.size : Int)) = false := decide_eq_false (by omega)
      have HT : Hid (tl l = k - I) := by
        show tl l = k - I
        unfold tl
        rw [HE (fun h => absurd h h1), if_neg (by omega)]
      clear HE
      go_wp2
      go_ret
      exact Or.inl ⟨by have := HT.out; omega, ret_int (by have := HT.out; omega), rfl⟩
end Go.Proofs.YtococaecjecjgaaGreatDoor.lx
/- A row of tokens that grows: what append makes of it, what lies in it, what is put into it. -/
namespace Go.Proofs.YtococaecjecjgaaGreatDoor.tr
set_option linter.unusedVariables false
open Go.ChangeShapes Go.WideShapes Go.ChangeAt Go.RowKit
open mem lx

/-- Triples, as cells. -/
def rowE (l : List Tk) : List Value := l.flatMap fun x => [.string (tx x.t), .int .i64 (x.a : Int)]
theorem rowE_cons (x : Tk) (l : List Tk) : rowE (x :: l) = [.string (tx x.t), .int .i64 (x.a : Int)] ++ rowE l := by unfold rowE; rw [List.flatMap_cons]
theorem rowE_len (l : List Tk) : (rowE l).length = l.length * 2 := by
  induction l with
  | nil => rfl
  | cons x l ih => rw [rowE_cons, List.length_append, ih]; simp; omega
theorem rowE_append (a b : List Tk) : rowE (a ++ b) = rowE a ++ rowE b := by unfold rowE; rw [List.flatMap_append]
theorem rowE_get (l : List Tk) (k : Nat) (h : k < l.length) : (rowE l)[k * 2]? = some (.string (tx l[k].t)) ∧ (rowE l)[k * 2 + 1]? = some (.int .i64 (l[k].a : Int)) := by
  induction l generalizing k with
  | nil => exact absurd h (Nat.not_lt_zero _)
  | cons x l ih =>
    rw [rowE_cons]
    cases k with
    | zero => exact ⟨rfl, rfl⟩
    | succ k =>
      have := ih k (by simpa using h)
      rw [show (k + 1) * 2 = k * 2 + 2 by omega]
      exact this
theorem rowE_one (l : List Tk) (u : Value) (hu : u ∈ rowE l) : u.oneCell' = true := by
  unfold rowE at hu
  rw [List.mem_flatMap] at hu
  obtain ⟨y, _, hy⟩ := hu
  simp at hy
  rcases hy with rfl | rfl <;> rfl
theorem infoE : (Tryz.prog.info? 145).map (fun i => (i.zero, i.size, i.bytes)) = some (some (.agg #[.string ⟨#[]⟩, .int .i64 0]), 2, 24) := by kernel_rfl
theorem infoE' : ∃ i, Tryz.prog.info? 145 = some i ∧ i.zero = some (.agg #[.string ⟨#[]⟩, .int .i64 0]) ∧ i.size = 2 ∧ i.bytes = 24 := by
  obtain ⟨i, h1, h2⟩ := Option.map_eq_some_iff.1 infoE
  simp only [Prod.mk.injEq] at h2
  exact ⟨i, h1, h2.1, h2.2.1, h2.2.2⟩
/-- These triples lie at p. -/
def In (w : World) (p : Option Addr) (l : List Tk) : Prop :=
  l = [] ∨ ∃ x : Addr, p = some x ∧ ∀ j u, (rowE l)[j]? = some u → w.cell? (x.add j) = some u
theorem In.step {w w' : World} {p : Option Addr} {l : List Tk} (h : In w p l) (hb : Bl w w') : In w' p l := by
  rcases h with h | ⟨x, h1, h2⟩
  · exact Or.inl h
  · exact Or.inr ⟨x, h1, fun k u hk => at_bl hb (h2 k u hk)⟩
theorem In.at {w : World} {p : Option Addr} {l : List Tk} (h : In w p l) (k : Nat) (hk : k < l.length) : ∃ x : Addr, p = some x ∧ w.cell? (x.add (k * 2)) = some (.string (tx l[k].t)) ∧ w.cell? (x.add (k * 2 + 1)) = some (.int .i64 (l[k].a : Int)) := by
  rcases h with h | ⟨x, h1, h2⟩
  · subst h; exact absurd hk (Nat.not_lt_zero _)
  · obtain ⟨a, b⟩ := rowE_get l k hk
    exact ⟨x, h1, h2 _ _ a, h2 _ _ b⟩
theorem add_next (x : Addr) (m j : Nat) : x.add (m + (j + 1)) = ⟨(x.add m).block, (x.add m).off + (j + 1), none⟩ := by
  cases m with
  | zero => rw [Nat.zero_add, Addr.add_succ', Addr.add_zero']
  | succ m => rw [show m + 1 + (j + 1) = (m + 1 + j) + 1 by omega, Addr.add_succ', Addr.add_succ']; simp; omega
/-- .. as a walk asks for them. -/
theorem In.at' {w : World} {p : Option Addr} {l : List Tk} (h : In w p l) (k : Nat) (hk : k < l.length) : ∃ x : Addr, p = some x ∧ w.cell? (x.add (k * 2)) = some (.string (tx l[k].t)) ∧ w.cell? ⟨(x.add (k * 2)).block, (x.add (k * 2)).off + 1, none⟩ = some (.int .i64 (l[k].a : Int)) := by
  obtain ⟨x, h1, h2, h3⟩ := h.at k hk
  rw [add_next x (k * 2) 0] at h3
  exact ⟨x, h1, h2, h3⟩
theorem In.tail {w : World} {x : Addr} {e : Tk} {l : List Tk} (h : In w (some x) (e :: l)) : In w (some (x.add 2)) l := by
  rcases h with h | ⟨y, h1, h2⟩
  · cases h
  · injection h1 with h1
    subst h1
    refine Or.inr ⟨_, rfl, fun j u hu => ?_⟩
    have := h2 (2 + j) u (by rw [rowE_cons, List.getElem?_append_right (by simp)]; simpa using hu)
    rw [Addr.add_add]
    exact this
theorem In.cut {w : World} {x : Addr} {e : Tk} {l : List Tk} {m c : Nat} (h : In w (some x) (e :: l)) (hm : (e :: l).length = m) (hc : m ≤ c) : In w (if c = 1 then some x else some ⟨x.block, x.off + 2, none⟩) l ∧ m - 1 = l.length ∧ l.length ≤ c - 1 := by
  have hl : m = l.length + 1 := by rw [← hm]; simp
  refine ⟨?_, by omega, by omega⟩
  by_cases h1 : c = 1
  · exact Or.inl (List.eq_nil_of_length_eq_zero (by omega))
  · rw [if_neg h1]
    have := h.tail
    rw [Addr.add_succ'] at this
    exact this
/-- A slice that reads so. -/
def View (w : World) (v : Value) (l : List Tk) : Prop := ∃ p c, v = .slice p l.length c ∧ l.length ≤ c ∧ In w p l
theorem View.step {w w' : World} {v : Value} {l : List Tk} (h : View w v l) (hb : Bl w w') : View w' v l := by
  obtain ⟨p, c, h1, h0, h2⟩ := h
  exact ⟨p, c, h1, h0, h2.step hb⟩
/-- A row of the call's own that holds just these. -/
def Own (w : World) (base : Nat) (v : Value) (l : List Tk) : Prop := w.ownsRow base 145 2 v l.length (rowE l)
theorem Own.nil (w : World) (base : Nat) : Own w base (.slice none 0 0) [] := World.ownsRow_nil _ _ _ _
theorem Own.shape {w : World} {base : Nat} {v : Value} {l : List Tk} (h : Own w base v l) : (v = .slice none 0 0 ∧ l = []) ∨
    ∃ g cap, v = .slice (some ⟨g, 0, none⟩) l.length cap ∧ base ≤ g ∧ g < w.heap.size ∧ l.length ≤ cap ∧ cap ≤ maxLen ∧ (∀ j, w.frozen? ⟨g, j, none⟩ = false) ∧ ∀ j u, (rowE l)[j]? = some u → w.cell? ⟨g, j, none⟩ = some u := by
  rcases h.2 with ⟨h1, h2⟩ | ⟨g, cap, cur, rfl, hbg, hg, hnc, hcm, hcs, htake⟩
  · exact Or.inl ⟨h1, List.eq_nil_of_length_eq_zero h2⟩
  · refine Or.inr ⟨g, cap, rfl, hbg, lt_of_heap hg, hnc, hcm, fun j => by simp [World.frozen?, hg], fun j u hu => ?_⟩
    have hj : j < l.length * 2 := by
      have := (List.getElem?_eq_some_iff.1 hu).1
      rw [rowE_len] at this
      exact this
    rw [← htake, List.getElem?_take, if_pos hj] at hu
    rw [cell_of hg]
    simpa using hu
theorem Own.kind {w : World} {base g n cap : Nat} {l : List Tk} (h : Own w base (.slice (some ⟨g, 0, none⟩) n cap) l) : ∃ cur, w.heap[g]? = some (.cells cur 145 (0, 0)) := by
  rcases h.2 with ⟨h1, _⟩ | ⟨g', cap', cur, h1, h2, h3, _⟩
  · cases h1
  · simp only [Value.slice.injEq, Option.some.injEq, Addr.mk.injEq] at h1
    obtain ⟨⟨rfl, _, _⟩, _, _⟩ := h1
    exact ⟨cur, h3⟩
theorem Own.view {w : World} {base : Nat} {v : Value} {l : List Tk} (h : Own w base v l) : View w v l := by
  rcases h.shape with ⟨rfl, rfl⟩ | ⟨g, cap, rfl, _, _, h4, _, _, hc⟩
  · exact ⟨none, 0, rfl, Nat.le_refl _, Or.inl rfl⟩
  · exact ⟨_, cap, rfl, h4, Or.inr ⟨_, rfl, fun j u hu => by rw [Addr.add_lit, Nat.zero_add]; exact hc j u hu⟩⟩
theorem Own.block {w : World} {base : Nat} {v : Value} {l : List Tk} (h : Own w base v l) : ∀ k, v.ownBlock = some k → base ≤ k ∧ k < w.heap.size := World.ownsRow.lt h
theorem Own.step {w w' : World} {base : Nat} {v : Value} {l : List Tk} (h : Own w base v l) (hb : Bl w w') : Own w' base v l := by
  refine ⟨h.1, ?_⟩
  rcases h.2 with h | ⟨g, cap, cur, h1, h2, h3, h4⟩
  · exact Or.inl h
  · refine Or.inr ⟨g, cap, cur, h1, h2, ?_, h4⟩
    rw [Below.block hb g (lt_of_heap h3)]
    exact h3
theorem Own.low {w : World} {base base' : Nat} {v : Value} {l : List Tk} (h : Own w base v l) (hb : base' ≤ base) : Own w base' v l := by
  refine ⟨h.1, ?_⟩
  rcases h.2 with h | ⟨g, cap, cur, h1, h2, h3⟩
  · exact Or.inl h
  · exact Or.inr ⟨g, cap, cur, h1, by omega, h3⟩
theorem Own.kept {w w' : World} {base : Nat} {v : Value} {l : List Tk} {row : Option Nat} (h : Own w base v l) (hg : w.grownBy w' row) (hne : ∀ k, v.ownBlock = some k → row ≠ some k) : Own w' base v l :=
  World.ownsRow.kept h hg (by
    cases e : v.ownBlock with
    | none => exact Or.inl rfl
    | some k => exact Or.inr (fun e' => hne k e e'.symm))
theorem Own.set {w : World} {base g cap j : Nat} {l l' : List Tk} {u : Value} (h : Own w base (.slice (some ⟨g, 0, none⟩) l.length cap) l) (hl : l'.length = l.length) (hr : rowE l' = (rowE l).set j u) : Own (w.setCell ⟨g, j, none⟩ u) base (.slice (some ⟨g, 0, none⟩) l'.length cap) l' := by
  refine ⟨by rw [rowE_len], ?_⟩
  rcases h.2 with ⟨h1, _⟩ | ⟨g', cap', cur, h1, h2, h3, h4, h5, h6, h7⟩
  · cases h1
  · simp only [Value.slice.injEq, Option.some.injEq, Addr.mk.injEq] at h1
    obtain ⟨⟨rfl, _, _⟩, _, rfl⟩ := h1
    refine Or.inr ⟨g, cap, cur.setIfInBounds j u, rfl, h2, ?_, by omega, h5, by simpa using h6, ?_⟩
    · simp [World.setCell, h3, Array.getElem?_modify]
    · rw [hr, ← h7, hl, Array.toList_setIfInBounds, List.take_set]
theorem app_many (w : World) (base : Nat) (v : Value) (l : List Tk) (z : List Tk) (x : Addr) (c : Nat) (hown : Own w base v l) (hX : ∀ j u, (rowE z)[j]? = some u → w.cell? (x.add j) = some u) (hn : l.length + z.length ≤ 100000) (hb : base ≤ w.heap.size) :
    ∃ v' w', (Builtin.append_ #[89, 89] 89 #[v, .slice (some x) z.length c]).run Tryz.prog w = .ok v' w' ∧ Own w' base v' (l ++ z) ∧ w.grownBy w' v.ownBlock := by
  obtain ⟨i, hi, hz, h1, h2⟩ := infoE'
  obtain ⟨v', w', hr, ho, hg, _⟩ := run_append_own (P := Tryz.prog) w base 89 89 145 i (.agg #[.string ⟨#[]⟩, .int .i64 0]) 2 24 Tryz.underlying89 hi hz h1 h2 rfl (by decide) v l.length (rowE l) hown
    x z.length c (rowE z) (rowE_len z) hX (rowE_one z) (by simp [maxLen]; omega) (by omega) hb
  refine ⟨v', w', hr, ?_, hg⟩
  unfold Own
  rw [rowE_append, List.length_append]
  exact ho
theorem app_one (w : World) (base : Nat) (v : Value) (l : List Tk) (z : Tk) (X : Nat) (hown : Own w base v l) (hX : w.cell? ⟨X, 0, none⟩ = some (.string (tx z.t))) (hX1 : w.cell? ⟨X, 1, none⟩ = some (.int .i64 (z.a : Int))) (hn : l.length ≤ 20000) (hb : base ≤ w.heap.size) :
    ∃ v' w', (Builtin.append_ #[89, 89] 89 #[v, .slice (some ⟨X, 0, none⟩) 1 1]).run Tryz.prog w = .ok v' w' ∧ Own w' base v' (l ++ [z]) ∧ w.grownBy w' v.ownBlock :=
  app_many w base v l [z] ⟨X, 0, none⟩ 1 hown (fun j u hu => by
    rcases j with _ | _ | j
    · simp [rowE] at hu; subst hu; simpa [Addr.add] using hX
    · simp [rowE] at hu; subst hu; simpa [Addr.add] using hX1
    · simp [rowE] at hu) (by simp; omega) hb
end Go.Proofs.YtococaecjecjgaaGreatDoor.tr
/- Variables of one cell; an append in a region that draws. -/
namespace Go.Proofs.YtococaecjecjgaaGreatDoor.lx
set_option linter.unusedVariables false
open Go.ChangeShapes Go.WideShapes Go.ChangeAt Go.RowKit
open mem
/-- What does not end by a panic. -/
def Calm (Q : Exit → Act → World → Prop) : Exit → Act → World → Prop
  | .normal, a, w => Q .normal a w
  | _, _, _ => False
theorem wp_calm {P : Program} {c : Code} {Q : Exit → Act → World → Prop} {a : Act} {w : World} (h : c.wp P (Calm Q) a w) : c.wp P Q a w :=
  wp_mono h (fun e a w q => by
    cases e with
    | normal => exact q
    | exit _ => exact q.elim
    | goto _ => exact q.elim
    | ret => exact q.elim
    | panic _ => exact q.elim
    | outgrown => exact q.elim)
theorem Calm.in {Q : Exit → Act → World → Prop} {a : Act} {w : World} (h : Q .normal a w) : Calm Q .normal a w := h
/-- An append whose run is known, in a region that draws. -/
theorem step_append_run {P : Program} {ops : Array Oper} {o : Oper} {a : Act} {w : World} {K : Act → World → Prop} {Q : Exit → Act → World → Prop} {E : Prop}
    (hg : o.guard = none) (s x : Operand) (t tx : TypeId) (hop : o.op = Op.call { callee := Callee.builtin Builtin.append, args := #[s, x], argTypes := #[t, tx] })
    (vs vx : Value) (hs : a.eval s = vs) (hx : a.eval x = vx) (v' : Value) (w' : World) (hr : (Builtin.append_ #[t, tx] o.type #[vs, vx]).run P w = .ok v' w') (hK : K (a.put o.dst v') w') :
    if Region.wanted o (yielded ops a.tmps) = true then Oper.wp P o a w K Q else E := by
  have hw : Region.wanted o (yielded ops a.tmps) = true := by simp [Region.wanted, hg]
  rw [if_pos hw]
  exact Lib.wp_append_run w s x t tx hop vs vx hs hx v' w' hr hK
theorem lt_of_some {w : World} {k : Nat} {o : Obj} (h : w.heap[k]? = some o) : k < w.heap.size := by
  rcases Nat.lt_or_ge k w.heap.size with h' | h'
  · exact h'
  · rw [Array.getElem?_eq_none h'] at h; cases h
/-- A variable of one cell. -/
def Vr (w : World) (b : Nat) (v : Value) (t : TypeId) : Prop := w.heap[b]? = some (.cells #[v] t (0, 0))
theorem Vr.lt {w : World} {b : Nat} {v : Value} {t : TypeId} (h : Vr w b v t) : b < w.heap.size := lt_of_some h
theorem Vr.cell {w : World} {b : Nat} {v : Value} {t : TypeId} (h : Vr w b v t) : w.cell? ⟨b, 0, none⟩ = some v := by
  unfold Vr at h
  simp [World.cell?, h]
theorem Vr.frozen {w : World} {b : Nat} {v : Value} {t : TypeId} (h : Vr w b v t) : w.frozen? ⟨b, 0, none⟩ = false := by
  unfold Vr at h
  simp [World.frozen?, h]
theorem Vr.new (w : World) (v : Value) (t : TypeId) : Vr (w.alloc (.cells #[v] t)) w.heap.size v t := by
  show (w.heap.push _)[w.heap.size]? = _
  rw [Array.getElem?_push, if_pos rfl]
theorem Vr.step {w w' : World} {b : Nat} {v : Value} {t : TypeId} (h : Vr w b v t) (hb : Bl w w') : Vr w' b v t := by
  have := h.lt
  unfold Vr at h ⊢
  rw [Below.block hb _ this]
  exact h
theorem Vr.set {w : World} {b : Nat} {v : Value} {t : TypeId} (h : Vr w b v t) (x : Value) : Vr (w.setCell ⟨b, 0, none⟩ x) b x t := by
  unfold Vr at h ⊢
  simp [World.setCell, Array.getElem?_modify, h]
theorem Vr.set_other {w : World} {b c j : Nat} {v : Value} {t : TypeId} (h : Vr w b v t) (hne : c ≠ b) (x : Value) : Vr (w.setCell ⟨c, j, none⟩ x) b v t := by
  unfold Vr at h ⊢
  simp [World.setCell, Array.getElem?_modify, hne, h]
theorem Vr.grown {w w' : World} {b : Nat} {v : Value} {t : TypeId} {row : Option Nat} (h : Vr w b v t) (hg : w.grownBy w' row) (hne : row ≠ some b) : Vr w' b v t := by
  have := h.lt
  unfold Vr at h ⊢
  rw [hg.block b this (fun e => hne e.symm)]
  exact h
end Go.Proofs.YtococaecjecjgaaGreatDoor.lx
