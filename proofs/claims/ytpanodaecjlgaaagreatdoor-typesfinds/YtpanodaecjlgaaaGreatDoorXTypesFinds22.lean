/- Texts laid together: Lr3, Er5, Er6, BlD, BlF. -/
import Derived.Test.YtpanodaecjlgaaaGreatDoorXTypesFinds21
import Derived.Deep.RegionHeld3
import Derived.Test.YtpanodaecjlgaaaGreatDoorXTypesFinds9
import Derived.Test.YtpanodaecjlgaaaGreatDoorXTypesFinds19
import Derived.Test.YtpanodaecjlgaaaGreatDoorXTypesFinds20
/- The document's Lex: the walk. -/
namespace Go.Proofs.YtpanodaecjlgaaaGreatDoor.lx
set_option linter.unusedVariables false
open Go.ChangeShapes Go.WideShapes Go.ChangeAt Go.RowKit
open mem

/-- The fault's variable, set. -/
theorem Rx.told {w w3 : World} {N : Nat} {v : Value} {l : List Tk} (h : Rx w w3 N v l) (c p : Int) : ((w3.setCell ⟨N, 0, none⟩ (.int .i64 c)).setCell ⟨N, 1, none⟩ (.int .i64 p)).heap[N]? = some (.cells #[.int .i64 c, .int .i64 p] 26 (0, 0)) ∧ Bl w ((w3.setCell ⟨N, 0, none⟩ (.int .i64 c)).setCell ⟨N, 1, none⟩ (.int .i64 p)) ∧ tr.Own ((w3.setCell ⟨N, 0, none⟩ (.int .i64 c)).setCell ⟨N, 1, none⟩ (.int .i64 p)) w.heap.size v l := by
  have hn := h.n
  refine ⟨?_, (h.bl.setCell (by show w.heap.size ≤ N; omega) _).setCell (by show w.heap.size ≤ N; omega) _, ?_⟩
  · simp [World.setCell, Array.getElem?_modify, h.fv]
  · have hne : ∀ x, v.ownBlock = some x → N + 1 ≤ x := fun x hx => (h.own.block x hx).1
    refine tr.Own.low (base := N + 1) ?_ (by omega)
    refine (h.own.kept (grown_set _ _ _ _) ?_).kept (grown_set _ _ _ _) ?_
    · intro x hx e; injection e with e; have := hne x hx; omega
    · intro x hx e; injection e with e; have := hne x hx; omega
theorem or_yes (a b : Bool) (h : true = (a || b)) : a = true ∨ a = false ∧ b = true := by cases a <;> cases b <;> simp at h ⊢
theorem or_no (a b : Bool) (h : false = (a || b)) : a = false ∧ b = false := by cases a <;> cases b <;> simp at h ⊢
/-- Two bytes. -/
theorem two_at (s : List UInt8) (i : Nat) (c a b : UInt8) (h : s[i]? = some c) : [a, b].isPrefixOf (s.drop i) = (a == c && (s[i + 1]? == some b)) := by
  rw [drop_cons s i c h]
  cases h2 : s[i + 1]? with
  | none =>
    have : s.drop (i + 1) = [] := List.drop_of_length_le (by rw [List.getElem?_eq_none_iff] at h2; exact h2)
    rw [this]
    cases hac : (a == c) <;> simp [List.isPrefixOf, hac]
  | some d =>
    rw [drop_cons s (i + 1) d h2]
    have e : ((some d : Option UInt8) == some b) = (b == d) := by
      rw [Bool.eq_iff_iff, beq_iff_eq, beq_iff_eq, Option.some.injEq]
      exact eq_comm
    rw [e]
    show (a == c && (b == d && List.isPrefixOf [] (s.drop (i + 1 + 1)))) = _
    cases s.drop (i + 1 + 1) <;> simp [List.isPrefixOf]
theorem tl_two (s : List UInt8) (i : Nat) (c : UInt8) (h : s[i]? = some c) (h1 : isB c = false) (h2 : (c == 35) = false) (h3 : isW c = false) :
    gap (s.drop i) = 0 ∧ tl (s.drop i) = (if [61, 61].isPrefixOf (s.drop i) || [33, 61].isPrefixOf (s.drop i) then 2 else if isM c then 1 else 0) := by
  obtain ⟨g1, g2⟩ := mark_at s i c h h1 h2 h3
  refine ⟨g1, ?_⟩
  rw [g2, two_at s i c 61 61 h, two_at s i c 33 61 h, ← Bool.and_or_distrib_right]
  have e : (c == 61 || c == 33) = ((61 : UInt8) == c || (33 : UInt8) == c) := by
    rw [Bool.beq_comm (a := c) (b := 61), Bool.beq_comm (a := c) (b := 33)]
  rw [e]
theorem refLex_long (s : ByteArray) (w : World) (hs : 3000 < s.size) :
    Calls Tryz.prog 50 #[.string s] w fun e w' => e = .returned (.tuple #[.slice none 0 0, flt 4 (-1)]) ∧ Bl w w' := by
  have hn : 3000 < (s.size : Int) := by omega
  go_enter Tryz.func50, Tryz.ntmps50
  go_wp2
  exact bodyPost_ret (v := .tuple #[.slice none 0 0, flt 4 (-1)]) (results_tmp_cell (p := 3) (u := 2) (ty := 26) rfl _ _ _ w.heap.size (flt 4 (-1)) rfl (ldF _ _ _ _ (new_at w _))) rfl ⟨rfl, (Bl.refl _).alloc _⟩
set_option maxHeartbeats 4000000 in
set_option maxRecDepth 10000 in
theorem refLex_at (s : ByteArray) (w : World) (hs : s.size ≤ 3000) :
    Calls Tryz.prog 50 #[.string s] w fun e w' => RxAns s w e w' := by
  have hn : ¬ 3000 < (s.size : Int) := by omega
  have hL : (L s).length = s.size := L_len s
  have HL : Hid ((L s).length = s.size) := hL
  clear hL
  obtain ⟨w2, hw2⟩ : ∃ w2, w2 = w.alloc (.cells #[.int .i64 0, .int .i64 0] 26) := ⟨_, rfl⟩
  obtain ⟨N, hN⟩ : ∃ N, N = w.heap.size := ⟨_, rfl⟩
  have HC0 : Hid (Rx w w2 N (.slice none 0 0) []) := by
    refine ⟨tr.Own.nil _ _, by rw [hw2]; exact (Bl.refl _).alloc _, ?_, hN⟩
    rw [hw2, hN]; exact new_at w _
  have HP0 : Hid (Pz (L s) [] 0 (-1) false) := ⟨lx (L s) 0, by simp, Or.inr (Or.inl ⟨rfl, rfl, rfl⟩)⟩
  go_enter Tryz.func50, Tryz.ntmps50
  go_wp2_with fail
  rw [← hw2, ← hN]
  clear hw2 hN hn
  go_wp2
  go_loopw [4, 5, 6, 7] (fun v5 wv rv iv wr => ∃ (i : Nat) (wd : Int) (rm : Bool) (v : Value) (l : List Tk), v5 = v ∧ i ≤ s.size ∧ iv = .int .i64 (i : Int) ∧ wv = .int .i64 wd ∧ rv = .bool rm ∧ Hid (Rx w wr N v l ∧ Pz (L s) l i wd rm)) (fun _ _ _ iv _ => s.size + 1 - (intOf iv).toNat)
  case atStart => exact ⟨0, -1, false, _, _, rfl, Nat.zero_le _, rfl, rfl, rfl, HC0.out, HP0.out⟩
  case round =>
    clear HC0 HP0
    obtain ⟨i, wd, rm, v, l, rfl, hi, rfl, rfl, rfl, H⟩ := hrel
    have hll : l.length ≤ 3000 := H.out.2.len (by rw [HL.out]; exact hs)
    have d0 : decide ((i : Int) ≤ (s.size : Int)) = true := decide_eq_true (by omega)
    by_cases hin : i = s.size
    · subst hin
      have d1 : decide ((s.size : Int) < (s.size : Int)) = false := decide_eq_false (by omega)
      rcases H.out.2.kind with rfl | ⟨p, rfl, hp⟩
      · have HE : Hid (lx (L s) 0 = (l, none)) := H.out.2.end_ (by rw [HL.out]; omega)
        go_wp2_with fail
        refine (Good_at _).mono ?_
        rintro e w3 ⟨rfl, hb3⟩
        have HR : Hid (Rx w w3 N u4 l) := H.out.1.step hb3
        have c0 : w3.cell? ⟨N, 0, none⟩ = some (.int .i64 0) := by rw [cell_of HR.out.fv]; rfl
        have c1 : w3.cell? ⟨N, 1, none⟩ = some (.int .i64 0) := by rw [cell_of HR.out.fv]; rfl
        have z0 : w3.frozen? ⟨N, 0, none⟩ = false := by simp [World.frozen?, HR.out.fv]
        have z1 : w3.frozen? ⟨N, 1, none⟩ = false := by simp [World.frozen?, HR.out.fv]
        unfold flt
        go_wp2
        obtain ⟨q1, q2, q3⟩ := HR.out.told 0 (-1)
        exact bodyPost_ret (v := .tuple #[u4, flt 0 (-1)]) (results_tmp_cell (p := 3) (u := 2) (ty := 26) rfl _ _ _ N (flt 0 (-1)) rfl (ldF _ _ _ _ q1)) rfl ⟨q2, Or.inl ⟨by rw [HE.out], _, rfl, by rw [HE.out]; exact q3⟩⟩
      · have hpo := H.out.2.out (by rw [HL.out]; omega) (fun c hc => by rw [List.getElem?_eq_none (by rw [HL.out]; omega)] at hc; cases hc)
        obtain ⟨Z, hZ⟩ : ∃ Z, Z = s.extract p s.size := ⟨_, rfl⟩
        have hZ' : s.extract p s.size = Z := hZ.symm
        obtain ⟨v', w7, hr, hx⟩ := H.out.1.app (((L s).take s.size).drop p) p Z (by rw [hZ, ← L_ext, tx_L]) hll
        have HE : Hid (lx (L s) 0 = (l ++ [⟨((L s).take s.size).drop p, p⟩], none)) := hpo.2.1.end_ (by rw [HL.out]; omega)
        have HR : Hid _ := hr
        have HX : Hid _ := hx
        have hpi : p ≤ s.size := by omega
        clear hr hx hpo hZ
        go_wp2_with (at_builtin; refine Lib.wpList_append_run _ rfl (.tmp 46) (.tmp 53) _ _ rfl _ _ rfl rfl _ _ HR.out ?_)
        refine (Good_at _).mono ?_
        rintro e w3 ⟨rfl, hb3⟩
        have HR3 : Hid _ := HX.out.step hb3
        have c0 : w3.cell? ⟨N, 0, none⟩ = some (.int .i64 0) := by rw [cell_of HR3.out.fv]; rfl
        have c1 : w3.cell? ⟨N, 1, none⟩ = some (.int .i64 0) := by rw [cell_of HR3.out.fv]; rfl
        have z0 : w3.frozen? ⟨N, 0, none⟩ = false := by simp [World.frozen?, HR3.out.fv]
        have z1 : w3.frozen? ⟨N, 1, none⟩ = false := by simp [World.frozen?, HR3.out.fv]
        unfold flt
        go_wp2
        obtain ⟨q1, q2, q3⟩ := HR3.out.told 0 (-1)
        exact bodyPost_ret (v := .tuple #[v', flt 0 (-1)]) (results_tmp_cell (p := 3) (u := 2) (ty := 26) rfl _ _ _ N (flt 0 (-1)) rfl (ldF _ _ _ _ q1)) rfl ⟨q2, Or.inl ⟨by rw [HE.out], _, rfl, by rw [HE.out]; exact q3⟩⟩
    · have hlt : i < s.size := by omega
      have d1 : decide ((i : Int) < (s.size : Int)) = true := decide_eq_true (by omega)
      have d2 : ((i : Int) == (s.size : Int)) = false := by rw [beq_eq_false_iff_ne]; omega
      have e1 : (((s[i]'hlt).toNat : Nat) : Int) = sb s i := (sb_get s i hlt).symm
      have hc : (L s)[i]? = some (s[i]'hlt) := L_get s i hlt
      have hW : isW (s[i]'hlt) = (lt (sb s i) || dg (sb s i)) := by rw [sb_get s i hlt]; rfl
      obtain ⟨c, hcc⟩ : ∃ c, c = s[i]'hlt := ⟨_, rfl⟩
      have hx : sb s i = (c.toNat : Int) := by rw [hcc, sb_get s i hlt]
      rw [← hcc] at hc hW
      have HC : Hid ((L s)[i]? = some c ∧ sb s i = (c.toNat : Int)) := ⟨hc, hx⟩
      clear hc hx hcc hin
      cases rm with
      | true =>
        obtain rfl := H.out.2.rm_out
        have HN : Hid (Pz (L s) l (i + 1) (-1) (!(c == 10))) := H.out.2.rm_next HC.out.1
        have HX := HC.out.2
        generalize sb s i = x at *
        by_cases h10 : x = 10
        · have hc10 : c = 10 := UInt8.toNat_inj.1 (by have : (10 : UInt8).toNat = 10 := rfl; omega)
          subst h10 hc10
          clear hW HX
          go_wp2
          go_roundw
          case rel => exact ⟨i + 1, -1, false, _, l, rfl, by omega, by go_num, rfl, rfl, H.out.1, HN.out⟩
          case measure => simp [intOf]; omega
        · have n10 : (x == 10) = false := by rw [beq_eq_false_iff_ne]; exact h10
          have hc10 : (!(c == 10)) = true := by
            have : c ≠ 10 := by rintro rfl; exact h10 HX
            simpa using this
          rw [hc10] at HN
          clear h10 hW HX
          by_cases h35 : x = 35
          · subst h35
            go_wp2
            go_roundw
            case rel => exact ⟨i + 1, -1, true, _, l, rfl, by omega, by go_num, rfl, rfl, H.out.1, HN.out⟩
            case measure => simp [intOf]; omega
          · have n35 : (x == 35) = false := by rw [beq_eq_false_iff_ne]; exact h35
            clear h35
            go_wp2
            go_roundw
            case rel => exact ⟨i + 1, -1, true, _, l, rfl, by omega, by go_num, rfl, rfl, H.out.1, HN.out⟩
            case measure => simp [intOf]; omega
      | false =>
        have cL := refLetter_at (sb s i)
        have cD := refDigit_at (sb s i)
        by_cases hw : isW c = true
        · have HN : Hid (Pz (L s) l (i + 1) (if wd < 0 then (i : Int) else wd) false) := H.out.2.word HC.out.1 hw
          rw [hw] at hW
          have hor := or_yes _ _ hW
          clear hW hw
          rcases H.out.2.kind with rfl | ⟨p, rfl, hp⟩
          · rw [if_pos (by decide)] at HN
            rcases hor with h1 | ⟨h1, h2⟩
            · rw [h1] at cL
              clear h1
              go_wp2_with fail
              refine (cL _).mono ?_
              rintro e w3 ⟨rfl, rfl⟩
              go_wp2
              go_roundw
              case rel => exact ⟨i + 1, i, false, _, l, rfl, by omega, by go_num, rfl, rfl, H.out.1, HN.out⟩
              case measure => simp [intOf]; omega
            · rw [h1] at cL
              rw [h2] at cD
              clear h1 h2
              go_wp2_with fail
              refine (cL _).mono ?_
              rintro e w3 ⟨rfl, rfl⟩
              go_wp2_with fail
              refine (cD _).mono ?_
              rintro e w3 ⟨rfl, rfl⟩
              go_wp2
              go_roundw
              case rel => exact ⟨i + 1, i, false, _, l, rfl, by omega, by go_num, rfl, rfl, H.out.1, HN.out⟩
              case measure => simp [intOf]; omega
          · rw [if_neg (by omega)] at HN
            rcases hor with h1 | ⟨h1, h2⟩
            · rw [h1] at cL
              clear h1
              go_wp2_with fail
              refine (cL _).mono ?_
              rintro e w3 ⟨rfl, rfl⟩
              go_wp2
              go_roundw
              case rel => exact ⟨i + 1, p, false, _, l, rfl, by omega, by go_num, rfl, rfl, H.out.1, HN.out⟩
              case measure => simp [intOf]; omega
            · rw [h1] at cL
              rw [h2] at cD
              clear h1 h2
              go_wp2_with fail
              refine (cL _).mono ?_
              rintro e w3 ⟨rfl, rfl⟩
              go_wp2_with fail
              refine (cD _).mono ?_
              rintro e w3 ⟨rfl, rfl⟩
              go_wp2
              go_roundw
              case rel => exact ⟨i + 1, p, false, _, l, rfl, by omega, by go_num, rfl, rfl, H.out.1, HN.out⟩
              case measure => simp [intOf]; omega
        · rw [Bool.not_eq_true] at hw
          rw [hw] at hW
          obtain ⟨h1, h2⟩ := or_no _ _ hW
          rw [h1] at cL
          rw [h2] at cD
          clear hW h1 h2
          go_wp2_with fail
          refine (cL _).mono ?_
          rintro e w3 ⟨rfl, rfl⟩
          go_wp2_with fail
          refine (cD _).mono ?_
          rintro e w3 ⟨rfl, rfl⟩
          go_upto_if 45 with fail
          go_cut [4, 5] from 14 to 120 (fun v5 wv wc => ∃ (v : Value) (l : List Tk), v5 = v ∧ wv = .int .i64 (-1) ∧ l.length ≤ 3000 ∧ Hid (Rx w wc N v l ∧ Pz (L s) l i (-1) false))
          case first =>
            rcases H.out.2.kind with rfl | ⟨p, rfl, hp⟩
            · go_wp2_with fail
              go_meet
              case rel => exact ⟨_, l, rfl, rfl, hll, H.out⟩
            · have hpo := H.out.2.out (by rw [HL.out]; omega) (fun d hd => by rw [HC.out.1] at hd; injection hd with hd; rw [← hd]; exact hw)
              obtain ⟨Z, hZ⟩ : ∃ Z, Z = s.extract p i := ⟨_, rfl⟩
              have hZ' : s.extract p i = Z := hZ.symm
              obtain ⟨v', w7, hr, hx⟩ := H.out.1.app (((L s).take i).drop p) p Z (by rw [hZ, ← L_ext, tx_L]) hll
              have HP : Hid (Pz (L s) (l ++ [⟨((L s).take i).drop p, p⟩]) i (-1) false) := hpo.2.1
              have hlen := hpo.2.1.len (by rw [HL.out]; exact hs)
              have HR : Hid _ := hr
              have HX : Hid (Rx w w7 N v' (l ++ [⟨((L s).take i).drop p, p⟩])) := hx
              have hpi : p ≤ i := by omega
              clear hr hx hpo hZ
              go_wp2_with (at_builtin; refine Lib.wpList_append_run _ rfl (.tmp 46) (.tmp 53) _ _ rfl _ _ rfl rfl _ _ HR.out ?_)
              go_meet
              case rel => exact ⟨_, _, rfl, rfl, hlen, HX.out, HP.out⟩
          case rest =>
            clear cL cD H hll
            obtain ⟨v, l, rfl, rfl, hll, H⟩ := hcut
            have hx := HC.out.2
            have key : ∀ k : UInt8, sb s i = (k.toNat : Int) → c = k := fun k hk => UInt8.toNat_inj.1 (by omega)
            have HK : Hid (∀ k : UInt8, sb s i = (k.toNat : Int) → c = k) := key
            have HX : Hid (sb s i = (c.toNat : Int)) := hx
            clear key hx
            generalize sb s i = x at *
            by_cases hB : x = 10 ∨ x = 32 ∨ x = 9
            · have HN : Hid (Pz (L s) l (i + 1) (-1) false) := by
                refine H.out.2.go (rm := false) ?_
                rcases hB with h | h | h
                · exact lx_over _ i 10 (by rw [HC.out.1, HK.out 10 h]) rfl
                · exact lx_over _ i 32 (by rw [HC.out.1, HK.out 32 h]) rfl
                · exact lx_over _ i 9 (by rw [HC.out.1, HK.out 9 h]) rfl
              rcases hB with rfl | rfl | rfl
              all_goals
                go_wp2
                go_roundw
                case rel => exact ⟨i + 1, -1, false, _, l, rfl, by omega, by go_num, rfl, rfl, H.out.1, HN.out⟩
                case measure => simp [intOf]; omega
            · have n10 : (x == 10) = false := by rw [beq_eq_false_iff_ne]; omega
              have n32 : (x == 32) = false := by rw [beq_eq_false_iff_ne]; omega
              have n9 : (x == 9) = false := by rw [beq_eq_false_iff_ne]; omega
              by_cases h35 : x = 35
              · have HN : Hid (Pz (L s) l (i + 1) (-1) true) := H.out.2.rem (by rw [HC.out.1, HK.out 35 h35])
                subst h35
                clear hB
                go_wp2
                go_roundw
                case rel => exact ⟨i + 1, -1, true, _, l, rfl, by omega, by go_num, rfl, rfl, H.out.1, HN.out⟩
                case measure => simp [intOf]; omega
              · have n35 : (x == 35) = false := by rw [beq_eq_false_iff_ne]; exact h35
                have hB' : isB c = false := by
                  unfold isB
                  simp only [Bool.or_eq_false_iff, beq_eq_false_iff_ne]
                  refine ⟨⟨?_, ?_⟩, ?_⟩
                  · rintro rfl; exact hB (Or.inr (Or.inl HX.out))
                  · rintro rfl; exact hB (Or.inl HX.out)
                  · rintro rfl; exact hB (Or.inr (Or.inr HX.out))
                have h35' : (c == 35) = false := by
                  rw [beq_eq_false_iff_ne]; rintro rfl; exact h35 HX.out
                obtain ⟨hg, htl⟩ := tl_two (L s) i c HC.out.1 hB' h35' hw
                have HG : Hid (gap ((L s).drop i) = 0) := hg
                have cC := one_byte c
                have cE : ∀ w : World, Calls Tryz.prog 83 #[.string (s.extract i s.size), .string ⟨#[61, 61]⟩] w fun e w' => e = .returned (.bool ([61, 61].isPrefixOf ((L s).drop i))) ∧ w' = w := has_at s i [61, 61]
                have cN : ∀ w : World, Calls Tryz.prog 83 #[.string (s.extract i s.size), .string ⟨#[33, 61]⟩] w fun e w' => e = .returned (.bool ([33, 61].isPrefixOf ((L s).drop i))) ∧ w' = w := has_at s i [33, 61]
                have hex : s.extract i (i + 1) = ⟨#[c]⟩ := by
                  apply L_inj
                  rw [L_ext, List.take_add_one, HC.out.1, List.drop_append_of_le_length (by rw [List.length_take, HL.out]; omega), List.drop_of_length_le (by rw [List.length_take, HL.out]; omega)]
                  rfl
                have hB1 : [61, 61].isPrefixOf ((L s).drop i) = true → isM c = true := by
                  rw [two_at _ _ _ _ _ HC.out.1]
                  intro h
                  simp at h
                  rw [← h.1]; rfl
                clear hB h35 hB' h35' hw hg
                generalize [61, 61].isPrefixOf ((L s).drop i) = b1 at *
                generalize [33, 61].isPrefixOf ((L s).drop i) = b2 at *
                generalize isM c = b0 at *
                obtain ⟨T, hT⟩ : ∃ T, T = tl ((L s).drop i) := ⟨_, rfl⟩
                rw [← hT] at htl
                have hc := HC.out.1
                have hxs : i + 1 ≤ s.size := by omega
                cases b1 with
                | true =>
                  obtain rfl := hB1 rfl
                  simp only [Bool.true_or, if_true] at htl
                  have hm := H.out.2.mark (by rw [HL.out]; exact hlt) HG.out (hT.symm.trans htl) (by decide)
                  rw [HL.out] at hm
                  obtain ⟨Z, hZ⟩ : ∃ Z, Z = s.extract i (i + 2) := ⟨_, rfl⟩
                  have hZ' : s.extract i (i + 2) = Z := hZ.symm
                  obtain ⟨v', w7, hr, hx⟩ := H.out.1.app (((L s).take (i + 2)).drop i) i Z (by rw [hZ, ← L_ext, tx_L]) hll
                  have HN : Hid (Pz (L s) (l ++ [⟨((L s).take (i + 2)).drop i, i⟩]) (i + 2) (-1) false) := hm.2
                  have HX7 : Hid (Rx w w7 N v' (l ++ [⟨((L s).take (i + 2)).drop i, i⟩])) := hx
                  have HR : Hid _ := hr
                  have hin : i + 2 ≤ s.size := hm.1
                  clear hr hx hm hT htl hZ hc
                  go_wp2_with fail
                  refine (cC _).mono ?_
                  rintro e w4 ⟨rfl, rfl⟩
                  go_wp2_with fail
                  refine (cE _).mono ?_
                  rintro e w4 ⟨rfl, rfl⟩
                  go_wp2_with (at_builtin; refine Lib.wpList_append_run _ rfl (.tmp 106) (.tmp 115) _ _ rfl _ _ rfl rfl _ _ HR.out ?_)
                  go_roundw
                  case rel => exact ⟨i + 2, -1, false, _, _, rfl, hin, by go_num, rfl, rfl, HX7.out, HN.out⟩
                  case measure => simp [intOf]; omega
                | false =>
                  clear hB1
                  cases b2 with
                  | true =>
                    simp only [Bool.false_or, if_true] at htl
                    cases b0 with
                    | true =>
                      have hm := H.out.2.mark (by rw [HL.out]; exact hlt) HG.out (hT.symm.trans htl) (by decide)
                      rw [HL.out] at hm
                      obtain ⟨Z, hZ⟩ : ∃ Z, Z = s.extract i (i + 2) := ⟨_, rfl⟩
                      have hZ' : s.extract i (i + 2) = Z := hZ.symm
                      obtain ⟨v', w7, hr, hx⟩ := H.out.1.app (((L s).take (i + 2)).drop i) i Z (by rw [hZ, ← L_ext, tx_L]) hll
                      have HN : Hid (Pz (L s) (l ++ [⟨((L s).take (i + 2)).drop i, i⟩]) (i + 2) (-1) false) := hm.2
                      have HX7 : Hid (Rx w w7 N v' (l ++ [⟨((L s).take (i + 2)).drop i, i⟩])) := hx
                      have HR : Hid _ := hr
                      have hin : i + 2 ≤ s.size := hm.1
                      clear hr hx hm hT htl hZ hc
                      go_wp2_with fail
                      refine (cC _).mono ?_
                      rintro e w4 ⟨rfl, rfl⟩
                      go_wp2_with fail
                      refine (cE _).mono ?_
                      rintro e w4 ⟨rfl, rfl⟩
                      go_wp2_with fail
                      refine (cN _).mono ?_
                      rintro e w4 ⟨rfl, rfl⟩
                      go_wp2_with (at_builtin; refine Lib.wpList_append_run _ rfl (.tmp 106) (.tmp 115) _ _ rfl _ _ rfl rfl _ _ HR.out ?_)
                      go_roundw
                      case rel => exact ⟨i + 2, -1, false, _, _, rfl, hin, by go_num, rfl, rfl, HX7.out, HN.out⟩
                      case measure => simp [intOf]; omega

                    | false =>
                      have hm := H.out.2.mark (by rw [HL.out]; exact hlt) HG.out (hT.symm.trans htl) (by decide)
                      rw [HL.out] at hm
                      obtain ⟨Z, hZ⟩ : ∃ Z, Z = s.extract i (i + 2) := ⟨_, rfl⟩
                      have hZ' : s.extract i (i + 2) = Z := hZ.symm
                      obtain ⟨v', w7, hr, hx⟩ := H.out.1.app (((L s).take (i + 2)).drop i) i Z (by rw [hZ, ← L_ext, tx_L]) hll
                      have HN : Hid (Pz (L s) (l ++ [⟨((L s).take (i + 2)).drop i, i⟩]) (i + 2) (-1) false) := hm.2
                      have HX7 : Hid (Rx w w7 N v' (l ++ [⟨((L s).take (i + 2)).drop i, i⟩])) := hx
                      have HR : Hid _ := hr
                      have hin : i + 2 ≤ s.size := hm.1
                      clear hr hx hm hT htl hZ hc
                      go_wp2_with fail
                      refine (cC _).mono ?_
                      rintro e w4 ⟨rfl, rfl⟩
                      go_wp2_with fail
                      refine (cE _).mono ?_
                      rintro e w4 ⟨rfl, rfl⟩
                      go_wp2_with fail
                      refine (cN _).mono ?_
                      rintro e w4 ⟨rfl, rfl⟩
                      go_wp2_with (at_builtin; refine Lib.wpList_append_run _ rfl (.tmp 106) (.tmp 115) _ _ rfl _ _ rfl rfl _ _ HR.out ?_)
                      go_roundw
                      case rel => exact ⟨i + 2, -1, false, _, _, rfl, hin, by go_num, rfl, rfl, HX7.out, HN.out⟩
                      case measure => simp [intOf]; omega

                  | false =>
                    simp only [Bool.false_or, Bool.false_eq_true, if_false] at htl
                    cases b0 with
                    | true =>
                      simp only [if_true] at htl
                      have hm := H.out.2.mark (by rw [HL.out]; exact hlt) HG.out (hT.symm.trans htl) (by decide)
                      rw [HL.out] at hm
                      obtain ⟨v', w7, hr, hx⟩ := H.out.1.app (((L s).take (i + 1)).drop i) i ⟨#[c]⟩ (by rw [← hex, ← L_ext, tx_L]) hll
                      have HN : Hid (Pz (L s) (l ++ [⟨((L s).take (i + 1)).drop i, i⟩]) (i + 1) (-1) false) := hm.2
                      have HX7 : Hid (Rx w w7 N v' (l ++ [⟨((L s).take (i + 1)).drop i, i⟩])) := hx
                      have HR : Hid _ := hr
                      have hin : i + 1 ≤ s.size := hm.1
                      clear hr hx hm hT htl hc
                      go_wp2_with fail
                      refine (cC _).mono ?_
                      rintro e w4 ⟨rfl, rfl⟩
                      go_wp2_with fail
                      refine (cE _).mono ?_
                      rintro e w4 ⟨rfl, rfl⟩
                      go_wp2_with fail
                      refine (cN _).mono ?_
                      rintro e w4 ⟨rfl, rfl⟩
                      go_wp2_with (at_builtin; refine Lib.wpList_append_run _ rfl (.tmp 106) (.tmp 115) _ _ rfl _ _ rfl rfl _ _ HR.out ?_)
                      go_roundw
                      case rel => exact ⟨i + 1, -1, false, _, _, rfl, hin, by go_num, rfl, rfl, HX7.out, HN.out⟩
                      case measure => simp [intOf]; omega

                    | false =>
                      simp only [Bool.false_eq_true, if_false] at htl
                      have HBD : Hid ((lx (L s) 0).2 = some i) := H.out.2.bad (by rw [HL.out]; exact hlt) HG.out (hT.symm.trans htl)
                      have c0 : wc.cell? ⟨N, 0, none⟩ = some (.int .i64 0) := by rw [cell_of H.out.1.fv]; rfl
                      have c1 : wc.cell? ⟨N, 1, none⟩ = some (.int .i64 0) := by rw [cell_of H.out.1.fv]; rfl
                      have z0 : wc.frozen? ⟨N, 0, none⟩ = false := by simp [World.frozen?, H.out.1.fv]
                      have z1 : wc.frozen? ⟨N, 1, none⟩ = false := by simp [World.frozen?, H.out.1.fv]
                      clear hT htl hc
                      go_wp2_with fail
                      refine (cC _).mono ?_
                      rintro e w4 ⟨rfl, rfl⟩
                      go_wp2_with fail
                      refine (cE _).mono ?_
                      rintro e w4 ⟨rfl, rfl⟩
                      go_wp2_with fail
                      refine (cN _).mono ?_
                      rintro e w4 ⟨rfl, rfl⟩
                      go_wp2
                      obtain ⟨q1, q2, q3⟩ := H.out.1.told 3 (i : Int)
                      exact bodyPost_ret (v := .tuple #[.slice none 0 0, flt 3 (i : Int)]) (results_tmp_cell (p := 3) (u := 2) (ty := 26) rfl _ _ _ N (flt 3 (i : Int)) rfl (ldF _ _ _ _ q1)) rfl ⟨q2, Or.inr ⟨i, HBD.out, rfl⟩⟩
end Go.Proofs.YtpanodaecjlgaaaGreatDoor.lx
/- The document's reader: the expression of a text. -/
namespace Go.Proofs.YtpanodaecjlgaaaGreatDoor.ex
set_option linter.unusedVariables false
open Go.ChangeShapes Go.WideShapes Go.ChangeAt Go.RowKit
open mem lx

theorem upd2 (w : World) (N : Nat) (a b c d : Value) (ty : TypeId) (h : w.heap[N]? = some (.cells #[a, b] ty (0, 0))) : ((w.setCell ⟨N, 0, none⟩ c).setCell ⟨N, 1, none⟩ d).heap[N]? = some (.cells #[c, d] ty (0, 0)) := by
  simp [World.setCell, Array.getElem?_modify, h]
/-- Two variables of a function that tell what is wrong: M is new, N has come to be told. -/
structure Fl (w W : World) (M N : Nat) (c p : Int) : Prop where
  bl : Bl w W
  m : W.heap[M]? = some (.cells #[.int .i64 0, .int .i64 0] 26 (0, 0))
  n : W.heap[N]? = some (.cells #[.int .i64 c, .int .i64 p] 26 (0, 0))
  ge : w.heap.size ≤ M ∧ w.heap.size ≤ N ∧ M ≠ N
theorem Fl.step {w W W' : World} {M N : Nat} {c p : Int} (h : Fl w W M N c p) (hb : Bl W W') : Fl w W' M N c p :=
  ⟨h.bl.trans hb, by rw [Below.block hb M (lt_of_heap h.m)]; exact h.m, by rw [Below.block hb N (lt_of_heap h.n)]; exact h.n, h.ge⟩
theorem Fl.cells {w W : World} {M N : Nat} {c p : Int} (h : Fl w W M N c p) : W.cell? ⟨N, 0, none⟩ = some (.int .i64 c) ∧ W.cell? ⟨N, 1, none⟩ = some (.int .i64 p) ∧ W.cell? ⟨M, 0, none⟩ = some (.int .i64 0) ∧ W.cell? ⟨M, 1, none⟩ = some (.int .i64 0) ∧ W.frozen? ⟨M, 0, none⟩ = false ∧ W.frozen? ⟨M, 1, none⟩ = false ∧ M < W.heap.size ∧ N < W.heap.size :=
  ⟨by rw [cell_of h.n]; rfl, by rw [cell_of h.n]; rfl, by rw [cell_of h.m]; rfl, by rw [cell_of h.m]; rfl, by simp [World.frozen?, h.m], by simp [World.frozen?, h.m], lt_of_heap h.m, lt_of_heap h.n⟩
/-- The beginning of both: a new variable, what is called, a second variable that is told. -/
theorem Fl.made {w w2 : World} {c p : Int} (hb : Bl (w.alloc (.cells #[.int .i64 0, .int .i64 0] 26)) w2) :
    Fl w (w2.alloc (.cells #[.int .i64 c, .int .i64 p] 26)) w.heap.size w2.heap.size c p := by
  have h0 := new_at w (.cells #[.int .i64 0, .int .i64 0] 26)
  have hs : w.heap.size < w2.heap.size := by have := hb.size; simp at this; omega
  have hbl : Bl w2 (w2.alloc (.cells #[.int .i64 c, .int .i64 p] 26)) := (Bl.refl w2).alloc _
  refine ⟨(((Bl.refl w).alloc _).trans hb).trans hbl, ?_, new_at w2 _, Nat.le_refl _, Nat.le_of_lt hs, by omega⟩
  rw [Below.block hbl _ hs, Below.block hb _ (lt_of_heap h0)]
  exact h0
theorem tk_blank {t : List UInt8} (h : IsT t) : (32 : UInt8) ∉ t := by
  rcases h with ⟨_, h⟩ | ⟨c, rfl, h⟩ | rfl | rfl
  · intro hm
    exact absurd (h 32 hm) (by decide)
  · intro hm
    have : (32 : UInt8) = c := by simpa using hm
    rw [← this] at h
    revert h; decide
  · decide
  · decide
theorem toks {s : List UInt8} {l : List Tk} : ∀ {p : Nat}, Ch s p l → ∀ t ∈ l, (t.t ≠ [] ∧ (32 : UInt8) ∉ t.t) ∧ t.t.length ≤ s.length := by
  induction l with
  | nil => intro p h x hx; simp at hx
  | cons t r ih =>
    intro p h x hx
    obtain ⟨_, h2, _, h4, h5⟩ : p ≤ t.a ∧ t.a + t.t.length ≤ s.length ∧ (s.drop t.a).take t.t.length = t.t ∧ IsT t.t ∧ Ch s (t.a + t.t.length) r := h
    rw [List.mem_cons] at hx
    rcases hx with rfl | hx
    · refine ⟨⟨?_, tk_blank h4⟩, by omega⟩
      rcases h4 with ⟨h, _⟩ | ⟨c, h, _⟩ | h | h
      · exact h
      · rw [h]; simp
      · rw [h]; simp
      · rw [h]; simp
    · exact ih h5 x hx
theorem eyes_end {w w2 W w6 : World} {M N : Nat} {c p : Int} {vq : Option Addr} {vn vk : Nat} {s : ByteArray} (hs : s.size ≤ 3000) (hF : Fl w W M N c p) (h2 : Bl w2 W) (h6 : Bl W w6) (hM : M = w.heap.size)
    (hA : (lx (L s) 0).2 = none → ∃ base, w.heap.size < base ∧ tr.Own w2 base (.slice vq vn vk) (lx (L s) 0).1) :
    Bl w (((w6.setCell ⟨M, 0, none⟩ (.int .i64 c)).setCell ⟨M, 1, none⟩ (.int .i64 p)).alloc (.cells #[.slice vq vn vk, .int .i64 (s.size : Int), .int .i64 0, .int .i64 (-1)] 55)) ∧
    (((w6.setCell ⟨M, 0, none⟩ (.int .i64 c)).setCell ⟨M, 1, none⟩ (.int .i64 p)).alloc (.cells #[.slice vq vn vk, .int .i64 (s.size : Int), .int .i64 0, .int .i64 (-1)] 55)).heap[M]? = some (.cells #[.int .i64 c, .int .i64 p] 26 (0, 0)) ∧
    w.heap.size ≤ w6.heap.size ∧ ((lx (L s) 0).2 = none → Ey (((w6.setCell ⟨M, 0, none⟩ (.int .i64 c)).setCell ⟨M, 1, none⟩ (.int .i64 p)).alloc (.cells #[.slice vq vn vk, .int .i64 (s.size : Int), .int .i64 0, .int .i64 (-1)] 55)) w6.heap.size (lx (L s) 0).1 s.size 0 (-1)) := by
  have hF6 := hF.step h6
  have hset := upd2 w6 M _ _ (.int .i64 c) (.int .i64 p) _ hF6.m
  have hsz : ((w6.setCell ⟨M, 0, none⟩ (.int .i64 c)).setCell ⟨M, 1, none⟩ (.int .i64 p)).heap.size = w6.heap.size := by simp [World.setCell]
  have hgp : Gp M w6 ((w6.setCell ⟨M, 0, none⟩ (.int .i64 c)).setCell ⟨M, 1, none⟩ (.int .i64 p)) := (Gp.set _).trans (Gp.set _)
  have hbs : Bl w ((w6.setCell ⟨M, 0, none⟩ (.int .i64 c)).setCell ⟨M, 1, none⟩ (.int .i64 p)) := Gp.below hF6.bl hgp (by omega)
  generalize ((w6.setCell ⟨M, 0, none⟩ (.int .i64 c)).setCell ⟨M, 1, none⟩ (.int .i64 p)) = X at *
  have hX : Bl X (X.alloc (.cells #[.slice vq vn vk, .int .i64 (s.size : Int), .int .i64 0, .int .i64 (-1)] 55)) := (Bl.refl _).alloc _
  refine ⟨hbs.trans hX, by rw [Below.block hX M (lt_of_heap hset)]; exact hset, hF6.bl.size, fun hn => ?_⟩
  obtain ⟨base, hb, ho⟩ := hA hn
  have ho6 := (ho.step h2).step h6
  have hch := lx_ch (L s) _ 0 (Nat.le_refl _) (Nat.zero_le _)
  have hlen := lx_len (L s) _ 0 (Nat.le_refl _)
  rw [List.drop_zero] at hch
  rw [L_len] at hlen
  have htk := toks hch
  rw [L_len] at htk
  generalize (lx (L s) 0).1 = l at ho6 hlen htk
  obtain ⟨q, k, e, h1, h3⟩ := ho6.view
  injection e with e1 e2 e3
  subst e1
  subst e2
  subst e3
  have hblk := ho6.block
  have hq : ∀ x, vq = some x → x.block < w6.heap.size ∧ x.block ≠ M := by
    intro x hx
    rcases ho6.shape with ⟨h, _⟩ | ⟨g, cap, h, h4, h5, _⟩
    · injection h with h; rw [h] at hx; cases hx
    · injection h with h
      rw [h] at hx
      injection hx with hx
      rw [← hx]
      exact ⟨h5, by show g ≠ M; omega⟩
  have hn9 := new_at X (.cells #[.slice vq l.length vk, .int .i64 (s.size : Int), .int .i64 0, .int .i64 (-1)] 55)
  rw [hsz] at hn9
  refine ⟨⟨vq, vk, hn9, h1, (In.gp h3 hgp hq).step hX, fun x hx => ?_⟩, by omega, fun t ht => ⟨(htk t ht).1, by have := (htk t ht).2; omega⟩⟩
  have := (hq x hx).1
  have hs2 := hX.size
  exact ⟨by omega, by omega⟩
set_option maxRecDepth 10000 in
set_option maxHeartbeats 2000000 in
theorem newEyes_at (s : ByteArray) (w : World) (hs : s.size ≤ 3000) :
    Calls Tryz.prog 24 #[.string s] w fun e w' => Bl w w' ∧ ∃ P, w.heap.size ≤ P ∧ (((lx (L s) 0).2 = none ∧ e = .returned (.tuple #[.pointer (some ⟨P, 0, none⟩), flt 0 (-1)]) ∧ Ey w' P (lx (L s) 0).1 s.size 0 (-1)) ∨
      ∃ p : Nat, (lx (L s) 0).2 = some p ∧ e = .returned (.tuple #[.pointer (some ⟨P, 0, none⟩), flt 3 (p : Int)])) := by
  have cX := fun w => refLex_at s w hs
  go_enter Tryz.func24, Tryz.ntmps24
  go_wp2_with fail
  refine (cX _).mono ?_
  rintro e w2 ⟨hb2, hans⟩
  obtain ⟨vq, vn, vk, c, p, rfl, HA⟩ : ∃ vq vn vk c p, e = .returned (.tuple #[.slice vq vn vk, flt c p]) ∧ Hid ((((lx (L s) 0).2 = none ∧ c = 0 ∧ p = -1) ∨ ∃ k : Nat, (lx (L s) 0).2 = some k ∧ c = 3 ∧ p = (k : Int)) ∧ ((lx (L s) 0).2 = none → ∃ base, w.heap.size < base ∧ tr.Own w2 base (.slice vq vn vk) (lx (L s) 0).1)) := by
    rcases hans with ⟨h1, v, rfl, h2⟩ | ⟨k, h1, rfl⟩
    · obtain ⟨q, k, e, _⟩ := h2.view
      subst e
      exact ⟨_, _, _, _, _, rfl, Or.inl ⟨h1, rfl, rfl⟩, fun _ => ⟨_, by simp, h2⟩⟩
    · exact ⟨_, _, _, _, _, rfl, Or.inr ⟨k, h1, rfl, rfl⟩, fun h => by rw [h1] at h; cases h⟩
  clear hans
  unfold flt
  go_upto_region 2 with fail
  have hF := Fl.made (c := c) (p := p) hb2
  obtain ⟨W, hW⟩ : ∃ W, W = (w2.alloc (.cells #[.int .i64 c, .int .i64 p] 26)) := ⟨_, rfl⟩
  rw [← hW] at hF ⊢
  have HBW : Hid (Bl w2 W) := by rw [hW]; exact (Bl.refl w2).alloc _
  obtain ⟨M, hM⟩ : ∃ M, M = w.heap.size := ⟨_, rfl⟩
  obtain ⟨N, hN⟩ : ∃ N, N = w2.heap.size := ⟨_, rfl⟩
  rw [← hM, ← hN] at hF
  rw [← hM, ← hN]
  have HF : Hid (Fl w W M N c p ∧ M = w.heap.size) := ⟨hF, hM⟩
  obtain ⟨g0, g1, m0, m1, z0, z1, hMs, hNs⟩ := hF.cells
  have hMN := hF.ge.2.2
  clear hW hM hN hF hb2 cX
  have cG : ∀ w, Calls Tryz.prog 32 #[] w fun e w' => e = .returned (.agg #[.int .i64 0, .int .i64 (-1)]) ∧ Bl w w' := Good_at
  go_region_with (go_at_call 32; refine (cG _).mono ?_; rintro e w6 ⟨rfl, hb6⟩; have HB6 : Hid (Bl W w6) := ((Bl.refl W).drew).trans hb6; obtain ⟨q0, q1, q2, q3, y0, y1, hM6, hN6⟩ := (HF.out.1.step HB6.out).cells; clear hb6)
  all_goals
    obtain ⟨k1, k2, k3, k4⟩ := eyes_end (s := s) (vq := vq) (vn := vn) (vk := vk) hs HF.out.1 HBW.out HB6.out HF.out.2 HA.out.2
    have HK : Hid _ := And.intro k1 (And.intro k2 (And.intro k3 k4))
    clear k1 k2 k3 k4 q0 q1 q2 q3 y0 y1 g0 g1 m0 m1 z0 z1
    go_wp2
    refine bodyPost_ret (v := .tuple #[.pointer (some ⟨w6.heap.size, 0, none⟩), flt c p]) (results_tmp_cell (p := 3) (u := 2) (ty := 26) rfl _ _ _ M (flt c p) rfl (ldF _ _ _ _ HK.out.2.1)) rfl ⟨HK.out.1, _, HK.out.2.2.1, ?_⟩
    rcases HA.out.1 with ⟨j1, j2, j3⟩ | ⟨k, j1, j2, j3⟩
    · exact Or.inl ⟨j1, by rw [j2, j3], HK.out.2.2.2 j1⟩
    · exact Or.inr ⟨k, j1, by rw [j2, j3]⟩
end Go.Proofs.YtpanodaecjlgaaaGreatDoor.ex
/- The document's expression of a text. -/
namespace Go.Proofs.YtpanodaecjlgaaaGreatDoor.ex
set_option linter.unusedVariables false
open Go.ChangeShapes Go.WideShapes Go.ChangeAt Go.RowKit
open mem lx

theorem Ey.cell0 {w : World} {P : Nat} {ts : List Tk} {en : Nat} {c p : Int} (h : Ey w P ts en c p) : ∃ q k, w.cell? ⟨P, 0, none⟩ = some (.slice q ts.length k) := by
  obtain ⟨q, k, h1, _⟩ := h.ex
  exact ⟨q, k, by rw [cell_of h1]; rfl⟩
/-- The variable, told. -/
theorem Fl.told {w W : World} {M N : Nat} {c p : Int} (h : Fl w W M N c p) (a b : Int) : Bl w ((W.setCell ⟨M, 0, none⟩ (.int .i64 a)).setCell ⟨M, 1, none⟩ (.int .i64 b)) ∧ ((W.setCell ⟨M, 0, none⟩ (.int .i64 a)).setCell ⟨M, 1, none⟩ (.int .i64 b)).heap[M]? = some (.cells #[.int .i64 a, .int .i64 b] 26 (0, 0)) :=
  ⟨Gp.below h.bl ((Gp.set _).trans (Gp.set _)) h.ge.1, upd2 W M _ _ _ _ _ h.m⟩
theorem Fl.gp {w W W' : World} {M N P : Nat} {c p : Int} (h : Fl w W M N c p) (hg : Gp P W W') (hM : M ≠ P) (hN : N ≠ P) (hP : w.heap.size ≤ P) : Fl w W' M N c p :=
  ⟨Gp.below h.bl hg hP, by rw [hg.block M (lt_of_heap h.m) hM]; exact h.m, by rw [hg.block N (lt_of_heap h.n) hN]; exact h.n, h.ge⟩
theorem Fl.kx {w W : World} {M N : Nat} {c p : Int} (h : Fl w W M N c p) (a b : Int) : Kx W ((W.setCell ⟨M, 0, none⟩ (.int .i64 a)).setCell ⟨M, 1, none⟩ (.int .i64 b)) := fun k cs hk => by
  have hg : Gp M W ((W.setCell ⟨M, 0, none⟩ (.int .i64 a)).setCell ⟨M, 1, none⟩ (.int .i64 b)) := (Gp.set _).trans (Gp.set _)
  rw [hg.block k (lt_of_heap hk) (fun e => by rw [e, h.m] at hk; simp at hk)]
  exact hk
theorem Is_at (c p : Int) (w : World) : Calls Tryz.prog 18 #[.agg #[.int .i64 c, .int .i64 p]] w fun e w' => e = .returned (.bool (c == 0)) ∧ Bl w w' := by
  go_enter Tryz.func18, Tryz.ntmps18
  go_wp2
  go_ret
  exact ⟨rfl, (Bl.refl _).alloc _⟩
end Go.Proofs.YtpanodaecjlgaaaGreatDoor.ex
/- The document's checker of templates: what a block asks, how far one has come. -/
namespace Go.Proofs.YtpanodaecjlgaaaGreatDoor.tc
set_option linter.unusedVariables false
set_option linter.unusedSimpArgs false
open Go.ChangeShapes Go.WideShapes Go.ChangeAt Go.RowKit Go.Shelf Go.Maps
open mem lx ex tm

theorem zI_at {l : Its} : ∀ {j : Nat} {d : D} {s : Its}, l.ps[j]? = some (d, s) → 2 + szO d.ct + zI s ≤ zI l := by
  induction l with
  | nil => intro j d s h; cases h
  | cons a b t _ it =>
    intro j d s h
    rw [zI]
    cases j with
    | zero =>
      simp [Its.ps] at h
      obtain ⟨rfl, rfl⟩ := h
      omega
    | succ j =>
      have := it (j := j) (by simpa [Its.ps] using h)
      omega
theorem prT_z {s : List UInt8} {l : List Ty} (h : prT s = .ok l) (hs : s.length ≤ 3000) : ∀ t ∈ l, zI t.l ≤ s.length := by
  unfold prT at h
  split at h
  · cases h
  · rename_i h0
    have hch := lx_ch s _ 0 (Nat.le_refl _) (Nat.zero_le _)
    rw [List.drop_zero] at hch
    have hln := lx_len s _ 0 (Nat.le_refl _)
    have hT : TS (lx s 0).1 := ch_is hch
    have hP : TP s.length (lx s 0).1 := ⟨by omega, fun t ht => by have := ch_at hch t ht; omega⟩
    obtain ⟨k1, k2⟩ := typs_len 8 _ _ hT hP h
    intro t ht
    have h2 := zT_mem ht
    omega
theorem item_ne0 {earl names seen : List (List UInt8)} {d : D} {e : Int × Nat} (h : itemW earl names seen d = some e) : e.1 ≠ 0 := by
  unfold itemW at h
  split at h
  · injection h with h; rw [← h]; simp
  · split at h
    · injection h with h; rw [← h]; simp
    · obtain ⟨p, _, rfl⟩ := Option.map_eq_some_iff.1 h; simp
theorem rule_ne0 {ds : List D} {i : Nat} {d : D} {e : Int × Nat} (h : ruleW ds i d = some e) : e.1 ≠ 0 := by
  unfold ruleW at h
  split at h
  · cases h
  · split at h
    · split at h
      · injection h with h; rw [← h]; simp
      · split at h
        · injection h with h; rw [← h]; simp
        · split at h
          · injection h with h; rw [← h]; simp
          · split at h
            · injection h with h; rw [← h]; simp
            · cases h
    · injection h with h; rw [← h]; simp
theorem cyc_ne0 {ds : List D} {i : Nat} {d : D} {e : Int × Nat} (h : cycW ds i d = some e) : e.1 ≠ 0 := by
  unfold cycW at h
  split at h
  · injection h with h; rw [← h]; simp
  · cases h
theorem first_ne0 {g : Nat → D → Option (Int × Nat)} (hg : ∀ i d e, g i d = some e → e.1 ≠ 0) : ∀ (l : List D) (i : Nat) (e : Int × Nat), firstW g i l = some e → e.1 ≠ 0 := by
  intro l
  induction l with
  | nil => intro i e h; cases h
  | cons d r ih =>
    intro i e h
    rw [firstW] at h
    split at h
    · rename_i e2 h2
      injection h with h
      rw [← h]; exact hg _ _ _ h2
    · exact ih _ _ h
theorem rules_ne0 {ds : List D} {e : Int × Nat} (h : rulesW ds = some e) : e.1 ≠ 0 := by
  unfold rulesW at h
  split at h
  · rename_i e2 h2
    injection h with h
    rw [← h]; exact first_ne0 (fun _ _ _ => rule_ne0) _ _ _ h2
  · exact first_ne0 (fun _ _ _ => cyc_ne0) _ _ _ h
theorem chkI_ne0 {earl : List (List UInt8)} : ∀ (l : Its) (names seen : List (List UInt8)) (e : Int × Nat), chkI earl l names seen = .error e → e.1 ≠ 0 := by
  intro l
  induction l with
  | nil => intro names seen e h; cases h
  | cons d s t is it =>
    intro names seen e h
    rw [chkI] at h
    split at h
    · split at h
      · injection h with h; rw [← h]; simp
      · split at h
        · rename_i e2 h2
          injection h with h
          rw [← h]; exact is _ _ _ h2
        · split at h
          · rename_i e2 h2
            injection h with h
            rw [← h]; exact rules_ne0 h2
          · exact it _ _ _ h
    · split at h
      · rename_i e2 h2
        injection h with h
        rw [← h]; exact item_ne0 h2
      · exact it _ _ _ h
theorem chkB_ne0 {earl names seen : List (List UInt8)} {l : Its} {e : Int × Nat} (h : chkB earl l names seen = .error e) : e.1 ≠ 0 := by
  unfold chkB at h
  split at h
  · rename_i e2 h2
    injection h with h
    rw [← h]; exact chkI_ne0 _ _ _ _ h2
  · split at h
    · rename_i e2 h2
      injection h with h
      rw [← h]; exact rules_ne0 h2
    · cases h
theorem nm_ne {t : List UInt8} (h : NM t) : t ≠ [] := fun e => by have := h.2.1; rw [e] at this; revert this; decide
theorem wd_ru {d : D} (h : WD d) (hr : d.ru ≠ 0) : d.f1 ≠ [] ∧ (d.ru = 3 → d.l1 ≠ []) := by
  obtain ⟨wr, _⟩ := ru_wr h hr
  rcases wr with w | w | w
  · exact absurd w.1 hr
  · exact ⟨nm_ne w.2.1, fun h3 => by rcases w.1 with k | k <;> omega⟩
  · exact ⟨nm_ne w.2.1, fun _ => nm_ne w.2.2⟩
theorem okr_of {k : Nat} {l : Its} {w : World} {ok : Nat → Prop} {cs : List C} (hw : WI k l) (hr : Rep w ok l cs) : Okr cs := by
  have key : ∀ x ∈ cs, WD x.d := by
    intro x hx
    obtain ⟨j, hj⟩ := List.mem_iff_getElem?.1 hx
    obtain ⟨y, d, s, e1, e2, e3, _⟩ := hr.at j (by rw [← hr.len.1]; exact (List.getElem?_eq_some_iff.1 hj).1)
    rw [hj] at e1
    obtain rfl := Option.some.inj e1
    rw [e3]
    exact (hw.at j _ _ e2).1
  exact ⟨fun x hx h4 => (wd_ok (key x hx)).2.2.2.1 h4, fun x hx h3 => ⟨(wd_ru (key x hx) (by omega)).1, (wd_ru (key x hx) (by omega)).2 h3⟩⟩
theorem gp_below {B P : Nat} {w w' : World} (h : Gp P w w') (hP : B ≤ P) (hB : B ≤ w.heap.size) : Below B w w' :=
  ⟨h.os, h.tape, h.output, h.size, fun k hk => h.block k (by omega) (by omega)⟩
theorem vr_gp {w w' : World} {V P k : Nat} {v : Value} {t : TypeId} {S : List (List UInt8)} (h : Vr w V v t) (hg : Gp P w w') (hs : SetB w P S k) : Vr w' V v t := by
  unfold Vr at h ⊢
  refine (hg.block V (lt_of_heap h) (fun e => ?_)).trans h
  obtain ⟨es, clock, hb⟩ := hs.block
  rw [← e, h] at hb
  cases hb
/-- What looking at a block answers. -/
def DoneR (nb K : Nat) (w : World) (q : Except (Int × Nat) (List (List UInt8))) (e : Ending) (w' : World) : Prop := Gp nb w w' ∧ match q with
  | .ok n => e = .returned (flt 0 (-1)) ∧ SetB w' nb n K
  | .error (c, p) => e = .returned (flt c (p : Int))
theorem DoneR.of_err {nb K : Nat} {w w' : World} {q : Except (Int × Nat) (List (List UInt8))} {c : Int} {p : Nat} (hq : q = .error (c, p)) (hg : Gp nb w w') : DoneR nb K w q (.returned (flt c (p : Int))) w' := by
  rw [hq]; exact ⟨hg, rfl⟩
theorem DoneR.of_ok {nb K : Nat} {w w' : World} {q : Except (Int × Nat) (List (List UInt8))} {n : List (List UInt8)} (hq : q = .ok n) (hg : Gp nb w w') (hs : SetB w' nb n K) : DoneR nb K w q (.returned (flt 0 (-1))) w' := by
  rw [hq]; exact ⟨hg, rfl, hs⟩
/-- What a block asks. -/
structure BJ (k : Nat) (l : Its) (B tb nb : Nat) (earl names seen : List (List UInt8)) (ke kn n : Nat) (p : Option Addr) (c : Nat) (sp : Option Addr) (sc : Nat) (cs : List C) (w : World) : Prop where
  wi : WI k l
  len : l.len ≤ 16
  z : zI l ≤ 4000
  ts : SetB w tb earl ke
  ns : SetB w nb names kn
  sn : Sn w sp seen.reverse
  sc : seen.length ≤ sc
  bn : B ≤ nb
  bw : B ≤ w.heap.size
  ne : tb ≠ nb
  kn : kn + tot l ≤ 4000
  sl : seen.length + tot l ≤ 4000
  lie : ir.Lie w (fun g => g < B) p n c cs
  rep : Rep w (fun g => g < B) l cs
  n : n = l.len
def BlkR (k : Nat) : Prop := ∀ (l : Its) (B tb nb : Nat) (earl names seen : List (List UInt8)) (ke kn n : Nat) (p : Option Addr) (c : Nat) (sp : Option Addr) (sc : Nat) (cs : List C) (w : World), BJ k l B tb nb earl names seen ke kn n p c sp sc cs w →
  Calls Tryz.prog 45 #[.slice p n c, .map (some tb), .map (some nb), .slice sp seen.length sc] w fun e w' => DoneR nb (kn + tot l) w (chkB earl l names seen) e w'
/-- The Fault that is answered, as it lies. -/
def Rs (w : World) (R : Nat) (a b : Int) : Prop := w.heap[R]? = some (.cells #[.int .i64 a, .int .i64 b] 26 (0, 0))
theorem Rs.new (w : World) (a b : Int) : Rs (w.alloc (.cells #[.int .i64 a, .int .i64 b] 26)) w.heap.size a b := new_at w _
theorem Rs.lt {w : World} {R : Nat} {a b : Int} (h : Rs w R a b) : R < w.heap.size := lt_of_heap h
theorem Rs.c0 {w : World} {R : Nat} {a b : Int} (h : Rs w R a b) : w.cell? ⟨R, 0, none⟩ = some (.int .i64 a) := by rw [cell_of h]; rfl
theorem Rs.c1 {w : World} {R : Nat} {a b : Int} (h : Rs w R a b) : w.cell? ⟨R, 1, none⟩ = some (.int .i64 b) := by rw [cell_of h]; rfl
theorem Rs.z0 {w : World} {R : Nat} {a b : Int} (h : Rs w R a b) (j : Nat) : w.frozen? ⟨R, j, none⟩ = false := by simp [World.frozen?, show w.heap[R]? = _ from h]
theorem Rs.bl {w w' : World} {R : Nat} {a b : Int} (h : Rs w R a b) (hb : Bl w w') : Rs w' R a b := (Below.block hb R h.lt).trans h
theorem Rs.gp {w w' : World} {R P k : Nat} {a b : Int} {S : List (List UInt8)} (h : Rs w R a b) (hg : Gp P w w') (hs : SetB w P S k) : Rs w' R a b :=
  (hg.block R h.lt (fun e => by obtain ⟨es, clock, hb⟩ := hs.block; rw [← e, show w.heap[R]? = _ from h] at hb; cases hb)).trans h
theorem Rs.set {w : World} {R : Nat} {a b : Int} (h : Rs w R a b) (c d : Int) : Rs ((w.setCell ⟨R, 0, none⟩ (.int .i64 c)).setCell ⟨R, 1, none⟩ (.int .i64 d)) R c d := by
  unfold Rs at h ⊢
  simp [World.setCell, Array.getElem?_modify, h]
theorem Rs.away {w : World} {R V : Nat} {a b : Int} (h : Rs w R a b) (hne : V ≠ R) (v : Value) : Rs (w.setCell ⟨V, 0, none⟩ v) R a b := by
  unfold Rs at h ⊢
  simp [World.setCell, Array.getElem?_modify, h, hne]
/-- All that a block holds while it is looked at. -/
structure TC (tb nb V R : Nat) (earl : List (List UInt8)) (ke : Nat) (w wr : World) (names' seen' : List (List UInt8)) (kn' : Nat) : Prop where
  gp : Gp nb w wr
  ts : SetB wr tb earl ke
  ns : SetB wr nb names' kn'
  vr : ∃ sp sc, Vr wr V (.slice sp seen'.length sc) 126 ∧ seen'.length ≤ sc ∧ Sn wr sp seen'.reverse
  r : Rs wr R 0 0
  v : w.heap.size ≤ V
  rv : R = V + 1
  ne : tb ≠ nb
theorem TC.bl {tb nb V R : Nat} {earl : List (List UInt8)} {ke : Nat} {w wr w' : World} {names' seen' : List (List UInt8)} {kn' : Nat} (h : TC tb nb V R earl ke w wr names' seen' kn') (hb : Bl wr w') : TC tb nb V R earl ke w w' names' seen' kn' := by
  obtain ⟨sp, sc, h1, h2, h3⟩ := h.vr
  exact ⟨h.gp.trans (Gp.bl hb), h.ts.bl hb, h.ns.bl hb, ⟨sp, sc, h1.step hb, h2, h3.bl hb⟩, h.r.bl hb, h.v, h.rv, h.ne⟩
theorem TC.go {tb nb V R : Nat} {earl : List (List UInt8)} {ke : Nat} {w wr w' : World} {names' seen' n2 : List (List UInt8)} {kn' k2 : Nat} (h : TC tb nb V R earl ke w wr names' seen' kn') (hg : Gp nb wr w') (hn : SetB w' nb n2 k2) : TC tb nb V R earl ke w w' n2 seen' k2 := by
  obtain ⟨sp, sc, h1, h2, h3⟩ := h.vr
  exact ⟨h.gp.trans hg, h.ts.gp hg h.ne, hn, ⟨sp, sc, vr_gp h1 hg h.ns, h2, h3.gp hg h.ns⟩, h.r.gp hg h.ns, h.v, h.rv, h.ne⟩
/-- The answer's cells, as they are set. -/
theorem TC.err {tb nb V R K : Nat} {earl : List (List UInt8)} {ke : Nat} {w wr : World} {names' seen' : List (List UInt8)} {kn' : Nat} (h : TC tb nb V R earl ke w wr names' seen' kn') {q : Except (Int × Nat) (List (List UInt8))} {c : Int} {p : Nat} (hq : q = .error (c, p)) :
    Rs ((wr.setCell ⟨R, 0, none⟩ (.int .i64 c)).setCell ⟨R, 1, none⟩ (.int .i64 (p : Int))) R c p ∧ DoneR nb K w q (.returned (flt c (p : Int))) ((wr.setCell ⟨R, 0, none⟩ (.int .i64 c)).setCell ⟨R, 1, none⟩ (.int .i64 (p : Int))) :=
  ⟨h.r.set _ _, DoneR.of_err hq ((h.gp.setNew (by have := h.v; have := h.rv; omega) _).setNew (by have := h.v; have := h.rv; omega) _)⟩
/-- How far the items are looked at. -/
structure T1 (l : Its) (tb nb V R : Nat) (earl names seen : List (List UInt8)) (ke kn : Nat) (w wr : World) (j : Nat) (names' seen' : List (List UInt8)) (kn' : Nat) : Prop where
  c : TC tb nb V R earl ke w wr names' seen' kn'
  eq : chkI earl l names seen = chkI earl (l.dr j) names' seen'
  kn : kn' + tot (l.dr j) ≤ kn + tot l
  sl : seen'.length + tot (l.dr j) ≤ seen.length + tot l
/-- How far rules are looked at. -/
structure T3 (g : Nat → D → Option (Int × Nat)) (l : Its) (tb nb V R : Nat) (earl : List (List UInt8)) (ke : Nat) (w wr : World) (names' seen' : List (List UInt8)) (kn' : Nat) (j : Nat) : Prop where
  c : TC tb nb V R earl ke w wr names' seen' kn'
  eq : firstW g 0 l.ds = firstW g j (l.ds.drop j)
theorem T3.on {g : Nat → D → Option (Int × Nat)} {l : Its} {tb nb V R : Nat} {earl : List (List UInt8)} {ke : Nat} {w wr w' : World} {names' seen' : List (List UInt8)} {kn' : Nat} {j : Nat} (h : T3 g l tb nb V R earl ke w wr names' seen' kn' j) (hb : Bl wr w') {d : D} (hd : l.ds[j]? = some d) (hg : g j d = none) : T3 g l tb nb V R earl ke w w' names' seen' kn' (j + 1) :=
  ⟨h.c.bl hb, h.eq.trans ((firstW_step g l.ds j d hd).2 hg)⟩
theorem within_at (n lo hi : Int) (w : World) : Calls Tryz.prog 72 #[.int .i64 n, .int .i64 lo, .int .i64 hi] w fun e w' => e = .returned (.bool (decide (lo ≤ n) && decide (n ≤ hi))) ∧ w' = w := by
  by_cases h1 : lo ≤ n
  · by_cases h2 : n ≤ hi
    · go_enter Tryz.func72, Tryz.ntmps72
      go_wp2
      go_ret
      exact ⟨by simp [h1, h2], rfl⟩
    · go_enter Tryz.func72, Tryz.ntmps72
      go_wp2
      go_ret
      exact ⟨by simp [h1, h2], rfl⟩
  · go_enter Tryz.func72, Tryz.ntmps72
    go_wp2
    go_ret
    exact ⟨by rw [decide_eq_false (by omega : ¬ lo ≤ n)]; rfl, rfl⟩
theorem misO_rev (seen : List (List UInt8)) (o : Option Ex) : firstN seen.reverse (nmsO o) = misO seen o := by
  rw [misO_nms]
  exact firstN_same (by simp) _
end Go.Proofs.YtpanodaecjlgaaaGreatDoor.tc
/- The document's checker of templates: whether the names in an expression are seen. -/
namespace Go.Proofs.YtpanodaecjlgaaaGreatDoor.tc
set_option linter.unusedVariables false
open Go.ChangeShapes Go.WideShapes Go.ChangeAt Go.RowKit Go.Shelf Go.Maps
open mem lx ex tm

/-- What has answers. -/
def hasV (o : Option Nat) : Value := match o with
  | some p => flt 5 (p : Int)
  | none => flt 0 (-1)
theorem names_o (pc : Option Addr) (o : Option Ex) (w : World) (hx : IsO w pc o) (hs : szO o ≤ 5000) : Calls Tryz.prog 70 #[.pointer pc] w fun e w' => NA w w (nmsO o) e w' := by
  rcases isO_lt hx with ⟨rfl, rfl⟩ | ⟨x, rfl, hxx⟩
  · refine (names_nil w).mono ?_
    rintro e w' ⟨rfl, rfl⟩
    exact NA.of (Bl.refl _) (qp.Q.nil _ _) trivial
  · exact names_x x _ w w (Bl.refl _) hxx hs
theorem mem_take {L : List (List UInt8)} {k : Nat} {t u : List UInt8} (h : L[k]? = some u) : (t ∈ L.take (k + 1)) ↔ (t ∈ L.take k ∨ u = t) := by
  rw [List.take_add_one, h]
  simp [eq_comm]
set_option maxRecDepth 10000 in
set_option maxHeartbeats 4000000 in
theorem has_at (V : Nat) (L : List (List UInt8)) (sp : Option Addr) (sc : Nat) (pc : Option Addr) (o : Option Ex) (w : World) (hV : Vr w V (.slice sp L.length sc) 126) (hS : Sn w sp L) (hx : IsO w pc o) (hs : szO o ≤ 5000) (hL : L.length ≤ 5000) :
    Calls Tryz.prog 69 #[.pointer pc, .pointer (some ⟨V, 0, none⟩)] w fun e w' => e = .returned (hasV (firstN L (nmsO o))) ∧ Bl w w' := by
  have hnl : (nmsO o).length ≤ 5000 := by
    cases o with
    | none => exact Nat.zero_le _
    | some x => exact Nat.le_trans (nms_sz x) hs
  obtain ⟨ns, hns⟩ : ∃ ns, ns = nmsO o := ⟨_, rfl⟩
  rw [← hns] at hnl ⊢
  obtain ⟨m, hm⟩ : ∃ m, m = L.length := ⟨_, rfl⟩
  obtain ⟨w1, hw1⟩ : ∃ w1, w1 = w.alloc (.cells #[.int .i64 0, .int .i64 0] 26) := ⟨_, rfl⟩
  obtain ⟨R, hR⟩ : ∃ R, R = w.heap.size := ⟨_, rfl⟩
  have hb1 : Bl w w1 := by rw [hw1]; exact (Bl.refl _).alloc _
  have hr1 : Rs w1 R 0 0 := by rw [hw1, hR]; exact Rs.new w 0 0
  have H0 : Hid (Vr w1 V (.slice sp m sc) 126 ∧ Sn w1 sp L ∧ m = L.length ∧ Bl w w1 ∧ Rs w1 R 0 0 ∧ w.heap.size ≤ R) := ⟨by rw [hm]; exact hV.step hb1, hS.bl hb1, hm, hb1, hr1, by rw [hR]; exact Nat.le_refl _⟩
  have cN := names_o pc o w1 (hx.keep (Kx.bl hb1)) hs
  rw [← hns] at cN
  rw [← hm] at hL
  clear hV hS hx hs hns hm hb1 hr1
  go_enter Tryz.func69, Tryz.ntmps69
  go_upto_region 1 with fail
  rw [← hw1, ← hR]
  clear hw1 hR
  go_wp2_with fail
  refine cN.mono ?_
  rintro e w2 ⟨p, c, az, rfl, hb2, hq2, hn2⟩
  obtain ⟨n, hn⟩ : ∃ n, n = ns.length := ⟨_, rfl⟩
  have H2 : Hid (Bl w1 w2 ∧ qp.Q w2 w1.heap.size (.slice p n c) az ∧ NmL w1 az ns ∧ n = ns.length) := ⟨hb2, by rw [hn]; exact hq2, hn2, hn⟩
  rw [← hn] at hnl ⊢
  clear hb2 hq2 hn2 hn cN
  go_wp2_with fail
  go_loopw [12] (fun i wr => ∃ j : Nat, j ≤ n ∧ i = .int .i64 (j : Int) ∧ Hid (Bl w2 wr ∧ firstN L ns = firstN L (ns.drop j))) (fun i _ => n - (intOf i).toNat)
  case atStart => exact ⟨0, Nat.zero_le _, rfl, Bl.refl _, rfl⟩
  case round =>
    obtain ⟨j, hj, rfl, HB⟩ := hrel
    rename World => w4
    by_cases hjn : j < n
    · have d1 : decide ((j : Int) < (n : Int)) = true := decide_eq_true (by omega)
      have i0 : (0 : Int) ≤ (j : Int) := by omega
      have i1 : (j : Int) < (n : Int) := by omega
      obtain ⟨e, he⟩ : ∃ e, ns[j]? = some e := ⟨_, List.getElem?_eq_getElem (by have := H2.out.2.2.2; omega)⟩
      obtain ⟨b, hb, hcb⟩ := H2.out.2.2.1.at he
      obtain ⟨X, rfl, _, hcx⟩ := (H2.out.2.1.bl HB.out.1).at hb
      have hcb' := Kx.bl (H2.out.1.trans HB.out.1) _ _ hcb
      have hbs := lt_of_heap hcb'
      obtain ⟨o1, o2⟩ := firstN_step L ns j e he
      have HE : Hid (w4.heap[b]? = some (cellsX 2 e.1 0 e.2 [] (.pointer none) (.pointer none)) ∧ (e.2 ∈ L → firstN L (ns.drop j) = firstN L (ns.drop (j + 1))) ∧ (e.2 ∉ L → firstN L (ns.drop j) = some e.1)) := ⟨hcb', o1, o2⟩
      have v0 := (H0.out.1.step (H2.out.1.trans HB.out.1)).cell
      have hVs := (H0.out.1.step (H2.out.1.trans HB.out.1)).lt
      clear hb hcb hcb' o1 o2 he
      go_wp2_with fail
      go_loopw [6, 18] (fun b i wr => ∃ k : Nat, k ≤ m ∧ i = .int .i64 (k : Int) ∧ b = .bool (decide (e.2 ∈ L.take k)) ∧ Hid (Bl w4 wr)) (fun _ i _ => m - (intOf i).toNat)
      case atStart => exact ⟨0, Nat.zero_le _, rfl, by simp, Bl.refl _⟩
      case round =>
        obtain ⟨k, hk, rfl, rfl, HC⟩ := hrel
        by_cases hkm : k < m
        · have d2 : decide ((k : Int) < (m : Int)) = true := decide_eq_true (by omega)
          have k0 : (0 : Int) ≤ (k : Int) := by omega
          have k1 : (k : Int) < (m : Int) := by omega
          obtain ⟨t, ht⟩ : ∃ t, L[k]? = some t := ⟨_, List.getElem?_eq_getElem (by have := H0.out.2.2.1; omega)⟩
          obtain ⟨g, rfl, hgs, hcg⟩ := (H0.out.2.1.bl ((H2.out.1.trans HB.out.1).trans HC.out)).at ht
          have n3 : wr.cell? ⟨b, 3, none⟩ = some (.string (tx e.2)) := at_bl HC.out (by rw [cell_of HE.out.1]; rfl)
          have hbq : b < wr.heap.size := Nat.lt_of_lt_of_le hbs HC.out.size
          have HM : Hid ((e.2 ∈ L.take (k + 1)) ↔ (e.2 ∈ L.take k ∨ t = e.2)) := mem_take ht
          have q1 := tl_tx t
          have q2 := tl_tx e.2
          obtain ⟨S, hS⟩ : ∃ S, S = tx t := ⟨_, rfl⟩
          obtain ⟨T, hT⟩ : ∃ T, T = tx e.2 := ⟨_, rfl⟩
          rw [← hS] at hcg q1
          rw [← hT] at n3 q2
          clear ht hS hT
          by_cases hin : e.2 ∈ L.take k
          · rw [decide_eq_true hin]
            have HN : Hid (e.2 ∈ L.take (k + 1)) := HM.out.2 (Or.inl hin)
            clear hin q1 q2
            go_wp2
            go_roundw
            case rel => exact ⟨k + 1, by omega, by go_num, by rw [decide_eq_true HN.out], HC.out⟩
            case measure => simp [intOf]; omega
          · rw [decide_eq_false hin]
            by_cases hst : t = e.2
            · have hq : (S.toList == T.toList) = true := by rw [q1, q2, hst, beq_self_eq_true]
              have HN : Hid (e.2 ∈ L.take (k + 1)) := HM.out.2 (Or.inr hst)
              clear hin q1 q2 hst
              go_wp2
              go_roundw
              case rel => exact ⟨k + 1, by omega, by go_num, by rw [decide_eq_true HN.out], HC.out⟩
              case measure => simp [intOf]; omega
            · have hq : (S.toList == T.toList) = false := by rw [q1, q2, beq_eq_false_iff_ne]; exact hst
              have HN : Hid (e.2 ∉ L.take (k + 1)) := fun hc => (HM.out.1 hc).elim hin hst
              clear hin q1 q2 hst
              go_wp2
              go_roundw
              case rel => exact ⟨k + 1, by omega, by go_num, by rw [decide_eq_false HN.out], HC.out⟩
              case measure => simp [intOf]; omega
        · obtain rfl : m = k := by omega
          have hLm : L.take m = L := by rw [H0.out.2.2.1, List.take_length]
          rw [hLm]
          have n1 : wr.cell? ⟨b, 1, none⟩ = some (.int .i64 (e.1 : Int)) := at_bl HC.out (by rw [cell_of HE.out.1]; rfl)
          have hbq : b < wr.heap.size := Nat.lt_of_lt_of_le hbs HC.out.size
          have d2 : decide ((m : Int) < (m : Int)) = false := decide_eq_false (by omega)
          by_cases hin : e.2 ∈ L
          · rw [decide_eq_true hin]
            have HN : Hid (firstN L ns = firstN L (ns.drop (j + 1))) := HB.out.2.trans (HE.out.2.1 hin)
            clear hin hLm
            go_wp2
            go_roundw
            case rel => exact ⟨j + 1, by omega, by go_num, HB.out.1.trans HC.out, HN.out⟩
            case measure => simp [intOf]; omega
          · rw [decide_eq_false hin]
            have HN : Hid (firstN L ns = some e.1) := HB.out.2.trans (HE.out.2.2 hin)
            clear hin hLm
            have hrq : Rs wr R 0 0 := H0.out.2.2.2.2.1.bl ((H2.out.1.trans HB.out.1).trans HC.out)
            have r0 := hrq.c0
            have r1 := hrq.c1
            have z0 := hrq.z0 0
            have z1 := hrq.z0 1
            have hRs := hrq.lt
            have HF : Hid (Rs wr R 0 0 ∧ Bl w wr ∧ w.heap.size ≤ R) := ⟨hrq, H0.out.2.2.2.1.trans ((H2.out.1.trans HB.out.1).trans HC.out), H0.out.2.2.2.2.2⟩
            clear hrq
            go_wp2
            rw [HN.out]
            exact bodyPost_ret (v := flt 5 (e.1 : Int)) (results_cell_row rfl _ _ R 26 #[.int .i64 5, .int .i64 (e.1 : Int)] (0, 0) _ rfl (HF.out.1.set _ _) Tryz.underlying26 rfl infoF) rfl ⟨rfl, (HF.out.2.1.setCell HF.out.2.2 _).setCell HF.out.2.2 _⟩
    · obtain rfl : n = j := by omega
      have HN : Hid (firstN L ns = none) := by
        show firstN L ns = none
        rw [HB.out.2, H2.out.2.2.2, List.drop_length]
        rfl
      have d1 : decide ((n : Int) < (n : Int)) = false := decide_eq_false (by omega)
      go_wp2_with fail
      refine (Good_at _).mono ?_
      rintro e w9 ⟨rfl, hb9⟩
      have hbb := (H2.out.1.trans HB.out.1).trans hb9
      have hrq : Rs w9 R 0 0 := H0.out.2.2.2.2.1.bl hbb
      have r0 := hrq.c0
      have r1 := hrq.c1
      have z0 := hrq.z0 0
      have z1 := hrq.z0 1
      have hRs := hrq.lt
      have HF : Hid (Rs w9 R 0 0 ∧ Bl w w9 ∧ w.heap.size ≤ R) := ⟨hrq, H0.out.2.2.2.1.trans hbb, H0.out.2.2.2.2.2⟩
      clear hb9 hbb hrq
      unfold flt
      go_wp2
      exact bodyPost_ret (v := flt 0 (-1)) (results_cell_row rfl _ _ R 26 #[.int .i64 0, .int .i64 (-1)] (0, 0) _ rfl (HF.out.1.set _ _) Tryz.underlying26 rfl infoF) rfl ⟨by rw [HN.out]; rfl, (HF.out.2.1.setCell HF.out.2.2 _).setCell HF.out.2.2 _⟩
end Go.Proofs.YtpanodaecjlgaaaGreatDoor.tc
