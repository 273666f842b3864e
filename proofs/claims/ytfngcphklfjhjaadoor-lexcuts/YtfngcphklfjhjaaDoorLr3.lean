/- The document's Lex: the walk. -/
import Derived.Test.YtfngcphklfjhjaaDoorLr2
namespace Go.Proofs.YtfngcphklfjhjaaDoor.lx
set_option linter.unusedVariables false
open Go.ChangeShapes Go.WideShapes Go.ChangeAt Go.RowKit
open mem

/-- The fault's variable, set. -/
theorem Rx.told {w w3 : World} {N : Nat} {v : Value} {l : List Tk} (h : Rx w w3 N v l) (c p : Int) : ((w3.setCell ⟨N, 0, none⟩ (.int .i64 c)).setCell ⟨N, 1, none⟩ (.int .i64 p)).heap[N]? = some (.cells #[.int .i64 c, .int .i64 p] 26 (0, 0)) ∧ Bl w ((w3.setCell ⟨N, 0, none⟩ (.int .i64 c)).setCell ⟨N, 1, none⟩ (.int .i64 p)) ∧ tr.Own ((w3.setCell ⟨N, 0, none⟩ (.int .i64 c)).setCell ⟨N, 1, none⟩ (.int .i64 p)) w.heap.size v l := by
  have hn := h.n
  refine ⟨?_, (h.bl.setCell (by show w.heap.size ≤ N; omega) _).setCell (by show w.heap.size ≤ N; omega) _, ?_⟩
  · simp [World.setCell, Array.getElem?_modify, h.fv]
  · have hne : ∀ x, v.ownBlock = some x → N + 1 ≤ x := fun x hx => (h.own.block x hx).1
    refine tr.Own.low (base := N + 1) ?_ (by omega)
    refine (h.own.kept (grown_set _ _ _ _) ?_).kept (grown_set _ _ _ _) ?_
    · intro x hx e; injection e with e; have := hne x hx; omega
    · intro x hx e; injection e with e; have := hne x hx; omega
theorem or_yes (a b : Bool) (h : true = (a || b)) : a = true ∨ a = false ∧ b = true := by cases a <;> cases b <;> simp at h ⊢
theorem or_no (a b : Bool) (h : false = (a || b)) : a = false ∧ b = false := by cases a <;> cases b <;> simp at h ⊢
/-- Two bytes. -/
theorem two_at (s : List UInt8) (i : Nat) (c a b : UInt8) (h : s[i]? = some c) : [a, b].isPrefixOf (s.drop i) = (a == c && (s[i + 1]? == some b)) := by
  rw [drop_cons s i c h]
  cases h2 : s[i + 1]? with
  | none =>
    have : s.drop (i + 1) = [] := List.drop_of_length_le (by rw [List.getElem?_eq_none_iff] at h2; exact h2)
    rw [this]
    cases hac : (a == c) <;> simp [List.isPrefixOf, hac]
  | some d =>
    rw [drop_cons s (i + 1) d h2]
    have e : ((some d : Option UInt8) == some b) = (b == d) := by
      rw [Bool.eq_iff_iff, beq_iff_eq, beq_iff_eq, Option.some.injEq]
      exact eq_comm
    rw [e]
    show (a == c && (b == d && List.isPrefixOf [] (s.drop (i + 1 + 1)))) = _
    cases s.drop (i + 1 + 1) <;> simp [List.isPrefixOf]
theorem tl_two (s : List UInt8) (i : Nat) (c : UInt8) (h : s[i]? = some c) (h1 : isB c = false) (h2 : (c == 35) = false) (h3 : isW c = false) :
    gap (s.drop i) = 0 ∧ tl (s.drop i) = (if [61, 61].isPrefixOf (s.drop i) || [33, 61].isPrefixOf (s.drop i) then 2 else if isM c then 1 else 0) := by
  obtain ⟨g1, g2⟩ := mark_at s i c h h1 h2 h3
  refine ⟨g1, ?_⟩
  rw [g2, two_at s i c 61 61 h, two_at s i c 33 61 h, ← Bool.and_or_distrib_right]
  have e : (c == 61 || c == 33) = ((61 : UInt8) == c || (33 : UInt8) == c) := by
    rw [Bool.beq_comm (a := c) (b := 61), Bool.beq_comm (a := c) (b := 33)]
  rw [e]
theorem refLex_long (s : ByteArray) (w : World) (hs : 3000 < s.size) :
    Calls Tryd.prog 8 #[.string s] w fun e w' => e = .returned (.tuple #[.slice none 0 0, flt 4 (-1)]) ∧ Bl w w' := by
  have hn : 3000 < (s.size : Int) := by omega
  go_enter Tryd.func8, Tryd.ntmps8
  go_wp2
  exact bodyPost_ret (v := .tuple #[.slice none 0 0, flt 4 (-1)]) (results_tmp_cell (p := 3) (u := 2) (ty := 26) rfl _ _ _ w.heap.size (flt 4 (-1)) rfl (ldF _ _ _ _ (new_at w _))) rfl ⟨rfl, (Bl.refl _).alloc _⟩
set_option maxHeartbeats 4000000 in
set_option maxRecDepth 10000 in
theorem refLex_at (s : ByteArray) (w : World) (hs : s.size ≤ 3000) :
    Calls Tryd.prog 8 #[.string s] w fun e w' => RxAns s w e w' := by
  have hn : ¬ 3000 < (s.size : Int) := by omega
  have hL : (L s).length = s.size := L_len s
  have HL : Hid ((L s).length = s.size) := hL
  clear hL
  obtain ⟨w2, hw2⟩ : ∃ w2, w2 = w.alloc (.cells #[.int .i64 0, .int .i64 0] 26) := ⟨_, rfl⟩
  obtain ⟨N, hN⟩ : ∃ N, N = w.heap.size := ⟨_, rfl⟩
  have HC0 : Hid (Rx w w2 N (.slice none 0 0) []) := by
    refine ⟨tr.Own.nil _ _, by rw [hw2]; exact (Bl.refl _).alloc _, ?_, hN⟩
    rw [hw2, hN]; exact new_at w _
  have HP0 : Hid (Pz (L s) [] 0 (-1) false) := ⟨lx (L s) 0, by simp, Or.inr (Or.inl ⟨rfl, rfl, rfl⟩)⟩
  go_enter Tryd.func8, Tryd.ntmps8
  go_wp2_with fail
  rw [← hw2, ← hN]
  clear hw2 hN hn
  go_wp2
  go_loopw [4, 5, 6, 7] (fun v5 wv rv iv wr => ∃ (i : Nat) (wd : Int) (rm : Bool) (v : Value) (l : List Tk), v5 = v ∧ i ≤ s.size ∧ iv = .int .i64 (i : Int) ∧ wv = .int .i64 wd ∧ rv = .bool rm ∧ Hid (Rx w wr N v l ∧ Pz (L s) l i wd rm)) (fun _ _ _ iv _ => s.size + 1 - (intOf iv).toNat)
  case atStart => exact ⟨0, -1, false, _, _, rfl, Nat.zero_le _, rfl, rfl, rfl, HC0.out, HP0.out⟩
  case round =>
    clear HC0 HP0
    obtain ⟨i, wd, rm, v, l, rfl, hi, rfl, rfl, rfl, H⟩ := hrel
    have hll : l.length ≤ 3000 := H.out.2.len (by rw [HL.out]; exact hs)
    have d0 : decide ((i : Int) ≤ (s.size : Int)) = true := decide_eq_true (by omega)
    by_cases hin : i = s.size
    · subst hin
      have d1 : decide ((s.size : Int) < (s.size : Int)) = false := decide_eq_false (by omega)
      rcases H.out.2.kind with rfl | ⟨p, rfl, hp⟩
      · have HE : Hid (lx (L s) 0 = (l, none)) := H.out.2.end_ (by rw [HL.out]; omega)
        go_wp2_with fail
        refine (Good_at _).mono ?_
        rintro e w3 ⟨rfl, hb3⟩
        have HR : Hid (Rx w w3 N u4 l) := H.out.1.step hb3
        have c0 : w3.cell? ⟨N, 0, none⟩ = some (.int .i64 0) := by rw [cell_of HR.out.fv]; rfl
        have c1 : w3.cell? ⟨N, 1, none⟩ = some (.int .i64 0) := by rw [cell_of HR.out.fv]; rfl
        have z0 : w3.frozen? ⟨N, 0, none⟩ = false := by simp [World.frozen?, HR.out.fv]
        have z1 : w3.frozen? ⟨N, 1, none⟩ = false := by simp [World.frozen?, HR.out.fv]
        unfold flt
        go_wp2
        obtain ⟨q1, q2, q3⟩ := HR.out.told 0 (-1)
        exact bodyPost_ret (v := .tuple #[u4, flt 0 (-1)]) (results_tmp_cell (p := 3) (u := 2) (ty := 26) rfl _ _ _ N (flt 0 (-1)) rfl (ldF _ _ _ _ q1)) rfl ⟨q2, Or.inl ⟨by rw [HE.out], _, rfl, by rw [HE.out]; exact q3⟩⟩
      · have hpo := H.out.2.out (by rw [HL.out]; omega) (fun c hc => by rw [List.getElem?_eq_none (by rw [HL.out]; omega)] at hc; cases hc)
        obtain ⟨Z, hZ⟩ : ∃ Z, Z = s.extract p s.size := ⟨_, rfl⟩
        have hZ' : s.extract p s.size = Z := hZ.symm
        obtain ⟨v', w7, hr, hx⟩ := H.out.1.app (((L s).take s.size).drop p) p Z (by rw [hZ, ← L_ext, tx_L]) hll
        have HE : Hid (lx (L s) 0 = (l ++ [⟨((L s).take s.size).drop p, p⟩], none)) := hpo.2.1.end_ (by rw [HL.out]; omega)
        have HR : Hid _ := hr
        have HX : Hid _ := hx
        have hpi : p ≤ s.size := by omega
        clear hr hx hpo hZ
        go_wp2_with (at_builtin; refine Lib.wpList_append_run _ rfl (.tmp 46) (.tmp 53) _ _ rfl _ _ rfl rfl _ _ HR.out ?_)
        refine (Good_at _).mono ?_
        rintro e w3 ⟨rfl, hb3⟩
        have HR3 : Hid _ := HX.out.step hb3
        have c0 : w3.cell? ⟨N, 0, none⟩ = some (.int .i64 0) := by rw [cell_of HR3.out.fv]; rfl
        have c1 : w3.cell? ⟨N, 1, none⟩ = some (.int .i64 0) := by rw [cell_of HR3.out.fv]; rfl
        have z0 : w3.frozen? ⟨N, 0, none⟩ = false := by simp [World.frozen?, HR3.out.fv]
        have z1 : w3.frozen? ⟨N, 1, none⟩ = false := by simp [World.frozen?, HR3.out.fv]
        unfold flt
        go_wp2
        obtain ⟨q1, q2, q3⟩ := HR3.out.told 0 (-1)
        exact bodyPost_ret (v := .tuple #[v', flt 0 (-1)]) (results_tmp_cell (p := 3) (u := 2) (ty := 26) rfl _ _ _ N (flt 0 (-1)) rfl (ldF _ _ _ _ q1)) rfl ⟨q2, Or.inl ⟨by rw [HE.out], _, rfl, by rw [HE.out]; exact q3⟩⟩
    · have hlt : i < s.size := by omega
      have d1 : decide ((i : Int) < (s.size : Int)) = true := decide_eq_true (by omega)
      have d2 : ((i : Int) == (s.size : Int)) = false := by rw [beq_eq_false_iff_ne]; omega
      have e1 : (((s[i]'hlt).toNat : Nat) : Int) = sb s i := (sb_get s i hlt).symm
      have hc : (L s)[i]? = some (s[i]'hlt) := L_get s i hlt
      have hW : isW (s[i]'hlt) = (lt (sb s i) || dg (sb s i)) := by rw [sb_get s i hlt]; rfl
      obtain ⟨c, hcc⟩ : ∃ c, c = s[i]'hlt := ⟨_, rfl⟩
      have hx : sb s i = (c.toNat : Int) := by rw [hcc, sb_get s i hlt]
      rw [← hcc] at hc hW
      have HC : Hid ((L s)[i]? = some c ∧ sb s i = (c.toNat : Int)) := ⟨hc, hx⟩
      clear hc hx hcc hin
      cases rm with
      | true =>
        obtain rfl := H.out.2.rm_out
        have HN : Hid (Pz (L s) l (i + 1) (-1) (!(c == 10))) := H.out.2.rm_next HC.out.1
        have HX := HC.out.2
        generalize sb s i = x at *
        by_cases h10 : x = 10
        · have hc10 : c = 10 := UInt8.toNat_inj.1 (by have : (10 : UInt8).toNat = 10 := rfl; omega)
          subst h10 hc10
          clear hW HX
          go_wp2
          go_roundw
          case rel => exact ⟨i + 1, -1, false, _, l, rfl, by omega, by go_num, rfl, rfl, H.out.1, HN.out⟩
          case measure => simp [intOf]; omega
        · have n10 : (x == 10) = false := by rw [beq_eq_false_iff_ne]; exact h10
          have hc10 : (!(c == 10)) = true := by
            have : c ≠ 10 := by rintro rfl; exact h10 HX
            simpa using this
          rw [hc10] at HN
          clear h10 hW HX
          by_cases h35 : x = 35
          · subst h35
            go_wp2
            go_roundw
            case rel => exact ⟨i + 1, -1, true, _, l, rfl, by omega, by go_num, rfl, rfl, H.out.1, HN.out⟩
            case measure => simp [intOf]; omega
          · have n35 : (x == 35) = false := by rw [beq_eq_false_iff_ne]; exact h35
            clear h35
            go_wp2
            go_roundw
            case rel => exact ⟨i + 1, -1, true, _, l, rfl, by omega, by go_num, rfl, rfl, H.out.1, HN.out⟩
            case measure => simp [intOf]; omega
      | false =>
        have cL := refLetter_at (sb s i)
        have cD := refDigit_at (sb s i)
        by_cases hw : isW c = true
        · have HN : Hid (Pz (L s) l (i + 1) (if wd < 0 then (i : Int) else wd) false) := H.out.2.word HC.out.1 hw
          rw [hw] at hW
          have hor := or_yes _ _ hW
          clear hW hw
          rcases H.out.2.kind with rfl | ⟨p, rfl, hp⟩
          · rw [if_pos (by decide)] at HN
            rcases hor with h1 | ⟨h1, h2⟩
            · rw [h1] at cL
              clear h1
              go_wp2_with fail
              refine (cL _).mono ?_
              rintro e w3 ⟨rfl, rfl⟩
              go_wp2
              go_roundw
              case rel => exact ⟨i + 1, i, false, _, l, rfl, by omega, by go_num, rfl, rfl, H.out.1, HN.out⟩
              case measure => simp [intOf]; omega
            · rw [h1] at cL
              rw [h2] at cD
              clear h1 h2
              go_wp2_with fail
              refine (cL _).mono ?_
              rintro e w3 ⟨rfl, rfl⟩
              go_wp2_with fail
              refine (cD _).mono ?_
              rintro e w3 ⟨rfl, rfl⟩
              go_wp2
              go_roundw
              case rel => exact ⟨i + 1, i, false, _, l, rfl, by omega, by go_num, rfl, rfl, H.out.1, HN.out⟩
              case measure => simp [intOf]; omega
          · rw [if_neg (by omega)] at HN
            rcases hor with h1 | ⟨h1, h2⟩
            · rw [h1] at cL
              clear h1
              go_wp2_with fail
              refine (cL _).mono ?_
              rintro e w3 ⟨rfl, rfl⟩
              go_wp2
              go_roundw
              case rel => exact ⟨i + 1, p, false, _, l, rfl, by omega, by go_num, rfl, rfl, H.out.1, HN.out⟩
              case measure => simp [intOf]; omega
            · rw [h1] at cL
              rw [h2] at cD
              clear h1 h2
              go_wp2_with fail
              refine (cL _).mono ?_
              rintro e w3 ⟨rfl, rfl⟩
              go_wp2_with fail
              refine (cD _).mono ?_
              rintro e w3 ⟨rfl, rfl⟩
              go_wp2
              go_roundw
              case rel => exact ⟨i + 1, p, false, _, l, rfl, by omega, by go_num, rfl, rfl, H.out.1, HN.out⟩
              case measure => simp [intOf]; omega
        · rw [Bool.not_eq_true] at hw
          rw [hw] at hW
          obtain ⟨h1, h2⟩ := or_no _ _ hW
          rw [h1] at cL
          rw [h2] at cD
          clear hW h1 h2
          go_wp2_with fail
          refine (cL _).mono ?_
          rintro e w3 ⟨rfl, rfl⟩
          go_wp2_with fail
          refine (cD _).mono ?_
          rintro e w3 ⟨rfl, rfl⟩
          go_upto_if 45 with fail
          go_cut [4, 5] from 14 to 120 (fun v5 wv wc => ∃ (v : Value) (l : List Tk), v5 = v ∧ wv = .int .i64 (-1) ∧ l.length ≤ 3000 ∧ Hid (Rx w wc N v l ∧ Pz (L s) l i (-1) false))
          case first =>
            rcases H.out.2.kind with rfl | ⟨p, rfl, hp⟩
            · go_wp2_with fail
              go_meet
              case rel => exact ⟨_, l, rfl, rfl, hll, H.out⟩
            · have hpo := H.out.2.out (by rw [HL.out]; omega) (fun d hd => by rw [HC.out.1] at hd; injection hd with hd; rw [← hd]; exact hw)
              obtain ⟨Z, hZ⟩ : ∃ Z, Z = s.extract p i := ⟨_, rfl⟩
              have hZ' : s.extract p i = Z := hZ.symm
              obtain ⟨v', w7, hr, hx⟩ := H.out.1.app (((L s).take i).drop p) p Z (by rw [hZ, ← L_ext, tx_L]) hll
              have HP : Hid (Pz (L s) (l ++ [⟨((L s).take i).drop p, p⟩]) i (-1) false) := hpo.2.1
              have hlen := hpo.2.1.len (by rw [HL.out]; exact hs)
              have HR : Hid _ := hr
              have HX : Hid (Rx w w7 N v' (l ++ [⟨((L s).take i).drop p, p⟩])) := hx
              have hpi : p ≤ i := by omega
              clear hr hx hpo hZ
              go_wp2_with (at_builtin; refine Lib.wpList_append_run _ rfl (.tmp 46) (.tmp 53) _ _ rfl _ _ rfl rfl _ _ HR.out ?_)
              go_meet
              case rel => exact ⟨_, _, rfl, rfl, hlen, HX.out, HP.out⟩
          case rest =>
            clear cL cD H hll
            obtain ⟨v, l, rfl, rfl, hll, H⟩ := hcut
            have hx := HC.out.2
            have key : ∀ k : UInt8, sb s i = (k.toNat : Int) → c = k := fun k hk => UInt8.toNat_inj.1 (by omega)
            have HK : Hid (∀ k : UInt8, sb s i = (k.toNat : Int) → c = k) := key
            have HX : Hid (sb s i = (c.toNat : Int)) := hx
            clear key hx
            generalize sb s i = x at *
            by_cases hB : x = 10 ∨ x = 32 ∨ x = 9
            · have HN : Hid (Pz (L s) l (i + 1) (-1) false) := by
                refine H.out.2.go (rm := false) ?_
                rcases hB with h | h | h
                · exact lx_over _ i 10 (by rw [HC.out.1, HK.out 10 h]) rfl
                · exact lx_over _ i 32 (by rw [HC.out.1, HK.out 32 h]) rfl
                · exact lx_over _ i 9 (by rw [HC.out.1, HK.out 9 h]) rfl
              rcases hB with rfl | rfl | rfl
              all_goals
                go_wp2
                go_roundw
                case rel => exact ⟨i + 1, -1, false, _, l, rfl, by omega, by go_num, rfl, rfl, H.out.1, HN.out⟩
                case measure => simp [intOf]; omega
            · have n10 : (x == 10) = false := by rw [beq_eq_false_iff_ne]; omega
              have n32 : (x == 32) = false := by rw [beq_eq_false_iff_ne]; omega
              have n9 : (x == 9) = false := by rw [beq_eq_false_iff_ne]; omega
              by_cases h35 : x = 35
              · have HN : Hid (Pz (L s) l (i + 1) (-1) true) := H.out.2.rem (by rw [HC.out.1, HK.out 35 h35])
                subst h35
                clear hB
                go_wp2
                go_roundw
                case rel => exact ⟨i + 1, -1, true, _, l, rfl, by omega, by go_num, rfl, rfl, H.out.1, HN.out⟩
                case measure => simp [intOf]; omega
              · have n35 : (x == 35) = false := by rw [beq_eq_false_iff_ne]; exact h35
                have hB' : isB c = false := by
                  unfold isB
                  simp only [Bool.or_eq_false_iff, beq_eq_false_iff_ne]
                  refine ⟨⟨?_, ?_⟩, ?_⟩
                  · rintro rfl; exact hB (Or.inr (Or.inl HX.out))
                  · rintro rfl; exact hB (Or.inl HX.out)
                  · rintro rfl; exact hB (Or.inr (Or.inr HX.out))
                have h35' : (c == 35) = false := by
                  rw [beq_eq_false_iff_ne]; rintro rfl; exact h35 HX.out
                obtain ⟨hg, htl⟩ := tl_two (L s) i c HC.out.1 hB' h35' hw
                have HG : Hid (gap ((L s).drop i) = 0) := hg
                have cC := one_byte c
                have cE : ∀ w : World, Calls Tryd.prog 28 #[.string (s.extract i s.size), .string ⟨#[61, 61]⟩] w fun e w' => e = .returned (.bool ([61, 61].isPrefixOf ((L s).drop i))) ∧ w' = w := has_at s i [61, 61]
                have cN : ∀ w : World, Calls Tryd.prog 28 #[.string (s.extract i s.size), .string ⟨#[33, 61]⟩] w fun e w' => e = .returned (.bool ([33, 61].isPrefixOf ((L s).drop i))) ∧ w' = w := has_at s i [33, 61]
                have hex : s.extract i (i + 1) = ⟨#[c]⟩ := by
                  apply L_inj
                  rw [L_ext, List.take_add_one, HC.out.1, List.drop_append_of_le_length (by rw [List.length_take, HL.out]; omega), List.drop_of_length_le (by rw [List.length_take, HL.out]; omega)]
                  rfl
                have hB1 : [61, 61].isPrefixOf ((L s).drop i) = true → isM c = true := by
                  rw [two_at _ _ _ _ _ HC.out.1]
                  intro h
                  simp at h
                  rw [← h.1]; rfl
                clear hB h35 hB' h35' hw hg
                generalize [61, 61].isPrefixOf ((L s).drop i) = b1 at *
                generalize [33, 61].isPrefixOf ((L s).drop i) = b2 at *
                generalize isM c = b0 at *
                obtain ⟨T, hT⟩ : ∃ T, T = tl ((L s).drop i) := ⟨_, rfl⟩
                rw [← hT] at htl
                have hc := HC.out.1
                have hxs : i + 1 ≤ s.size := by omega
                cases b1 with
                | true =>
                  obtain rfl := hB1 rfl
                  simp only [Bool.true_or, if_true] at htl
                  have hm := H.out.2.mark (by rw [HL.out]; exact hlt) HG.out (hT.symm.trans htl) (by decide)
                  rw [HL.out] at hm
                  obtain ⟨Z, hZ⟩ : ∃ Z, Z = s.extract i (i + 2) := ⟨_, rfl⟩
                  have hZ' : s.extract i (i + 2) = Z := hZ.symm
                  obtain ⟨v', w7, hr, hx⟩ := H.out.1.app (((L s).take (i + 2)).drop i) i Z (by rw [hZ, ← L_ext, tx_L]) hll
                  have HN : Hid (Pz (L s) (l ++ [⟨((L s).take (i + 2)).drop i, i⟩]) (i + 2) (-1) false) := hm.2
                  have HX7 : Hid (Rx w w7 N v' (l ++ [⟨((L s).take (i + 2)).drop i, i⟩])) := hx
                  have HR : Hid _ := hr
                  have hin : i + 2 ≤ s.size := hm.1
                  clear hr hx hm hT htl hZ hc
                  go_wp2_with fail
                  refine (cC _).mono ?_
                  rintro e w4 ⟨rfl, rfl⟩
                  go_wp2_with fail
                  refine (cE _).mono ?_
                  rintro e w4 ⟨rfl, rfl⟩
                  go_wp2_with (at_builtin; refine Lib.wpList_append_run _ rfl (.tmp 106) (.tmp 115) _ _ rfl _ _ rfl rfl _ _ HR.out ?_)
                  go_roundw
                  case rel => exact ⟨i + 2, -1, false, _, _, rfl, hin, by go_num, rfl, rfl, HX7.out, HN.out⟩
                  case measure => simp [intOf]; omega
                | false =>
                  clear hB1
                  cases b2 with
                  | true =>
                    simp only [Bool.false_or, if_true] at htl
                    cases b0 with
                    | true =>
                      have hm := H.out.2.mark (by rw [HL.out]; exact hlt) HG.out (hT.symm.trans htl) (by decide)
                      rw [HL.out] at hm
                      obtain ⟨Z, hZ⟩ : ∃ Z, Z = s.extract i (i + 2) := ⟨_, rfl⟩
                      have hZ' : s.extract i (i + 2) = Z := hZ.symm
                      obtain ⟨v', w7, hr, hx⟩ := H.out.1.app (((L s).take (i + 2)).drop i) i Z (by rw [hZ, ← L_ext, tx_L]) hll
                      have HN : Hid (Pz (L s) (l ++ [⟨((L s).take (i + 2)).drop i, i⟩]) (i + 2) (-1) false) := hm.2
                      have HX7 : Hid (Rx w w7 N v' (l ++ [⟨((L s).take (i + 2)).drop i, i⟩])) := hx
                      have HR : Hid _ := hr
                      have hin : i + 2 ≤ s.size := hm.1
                      clear hr hx hm hT htl hZ hc
                      go_wp2_with fail
                      refine (cC _).mono ?_
                      rintro e w4 ⟨rfl, rfl⟩
                      go_wp2_with fail
                      refine (cE _).mono ?_
                      rintro e w4 ⟨rfl, rfl⟩
                      go_wp2_with fail
                      refine (cN _).mono ?_
                      rintro e w4 ⟨rfl, rfl⟩
                      go_wp2_with (at_builtin; refine Lib.wpList_append_run _ rfl (.tmp 106) (.tmp 115) _ _ rfl _ _ rfl rfl _ _ HR.out ?_)
                      go_roundw
                      case rel => exact ⟨i + 2, -1, false, _, _, rfl, hin, by go_num, rfl, rfl, HX7.out, HN.out⟩
                      case measure => simp [intOf]; omega

                    | false =>
                      have hm := H.out.2.mark (by rw [HL.out]; exact hlt) HG.out (hT.symm.trans htl) (by decide)
                      rw [HL.out] at hm
                      obtain ⟨Z, hZ⟩ : ∃ Z, Z = s.extract i (i + 2) := ⟨_, rfl⟩
                      have hZ' : s.extract i (i + 2) = Z := hZ.symm
                      obtain ⟨v', w7, hr, hx⟩ := H.out.1.app (((L s).take (i + 2)).drop i) i Z (by rw [hZ, ← L_ext, tx_L]) hll
                      have HN : Hid (Pz (L s) (l ++ [⟨((L s).take (i + 2)).drop i, i⟩]) (i + 2) (-1) false) := hm.2
                      have HX7 : Hid (Rx w w7 N v' (l ++ [⟨((L s).take (i + 2)).drop i, i⟩])) := hx
                      have HR : Hid _ := hr
                      have hin : i + 2 ≤ s.size := hm.1
                      clear hr hx hm hT htl hZ hc
                      go_wp2_with fail
                      refine (cC _).mono ?_
                      rintro e w4 ⟨rfl, rfl⟩
                      go_wp2_with fail
                      refine (cE _).mono ?_
                      rintro e w4 ⟨rfl, rfl⟩
                      go_wp2_with fail
                      refine (cN _).mono ?_
                      rintro e w4 ⟨rfl, rfl⟩
                      go_wp2_with (at_builtin; refine Lib.wpList_append_run _ rfl (.tmp 106) (.tmp 115) _ _ rfl _ _ rfl rfl _ _ HR.out ?_)
                      go_roundw
                      case rel => exact ⟨i + 2, -1, false, _, _, rfl, hin, by go_num, rfl, rfl, HX7.out, HN.out⟩
                      case measure => simp [intOf]; omega

                  | false =>
                    simp only [Bool.false_or, Bool.false_eq_true, if_false] at htl
                    cases b0 with
                    | true =>
                      simp only [if_true] at htl
                      have hm := H.out.2.mark (by rw [HL.out]; exact hlt) HG.out (hT.symm.trans htl) (by decide)
                      rw [HL.out] at hm
                      obtain ⟨v', w7, hr, hx⟩ := H.out.1.app (((L s).take (i + 1)).drop i) i ⟨#[c]⟩ (by rw [← hex, ← L_ext, tx_L]) hll
                      have HN : Hid (Pz (L s) (l ++ [⟨((L s).take (i + 1)).drop i, i⟩]) (i + 1) (-1) false) := hm.2
                      have HX7 : Hid (Rx w w7 N v' (l ++ [⟨((L s).take (i + 1)).drop i, i⟩])) := hx
                      have HR : Hid _ := hr
                      have hin : i + 1 ≤ s.size := hm.1
                      clear hr hx hm hT htl hc
                      go_wp2_with fail
                      refine (cC _).mono ?_
                      rintro e w4 ⟨rfl, rfl⟩
                      go_wp2_with fail
                      refine (cE _).mono ?_
                      rintro e w4 ⟨rfl, rfl⟩
                      go_wp2_with fail
                      refine (cN _).mono ?_
                      rintro e w4 ⟨rfl, rfl⟩
                      go_wp2_with (at_builtin; refine Lib.wpList_append_run _ rfl (.tmp 106) (.tmp 115) _ _ rfl _ _ rfl rfl _ _ HR.out ?_)
                      go_roundw
                      case rel => exact ⟨i + 1, -1, false, _, _, rfl, hin, by go_num, rfl, rfl, HX7.out, HN.out⟩
                      case measure => simp [intOf]; omega

                    | false =>
                      simp only [Bool.false_eq_true, if_false] at htl
                      have HBD : Hid ((lx (L s) 0).2 = some i) := H.out.2.bad (by rw [HL.out]; exact hlt) HG.out (hT.symm.trans htl)
                      have c0 : wc.cell? ⟨N, 0, none⟩ = some (.int .i64 0) := by rw [cell_of H.out.1.fv]; rfl
                      have c1 : wc.cell? ⟨N, 1, none⟩ = some (.int .i64 0) := by rw [cell_of H.out.1.fv]; rfl
                      have z0 : wc.frozen? ⟨N, 0, none⟩ = false := by simp [World.frozen?, H.out.1.fv]
                      have z1 : wc.frozen? ⟨N, 1, none⟩ = false := by simp [World.frozen?, H.out.1.fv]
                      clear hT htl hc
                      go_wp2_with fail
                      refine (cC _).mono ?_
                      rintro e w4 ⟨rfl, rfl⟩
                      go_wp2_with fail
                      refine (cE _).mono ?_
                      rintro e w4 ⟨rfl, rfl⟩
                      go_wp2_with fail
                      refine (cN _).mono ?_
                      rintro e w4 ⟨rfl, rfl⟩
                      go_wp2
                      obtain ⟨q1, q2, q3⟩ := H.out.1.told 3 (i : Int)
                      exact bodyPost_ret (v := .tuple #[.slice none 0 0, flt 3 (i : Int)]) (results_tmp_cell (p := 3) (u := 2) (ty := 26) rfl _ _ _ N (flt 3 (i : Int)) rfl (ldF _ _ _ _ q1)) rfl ⟨q2, Or.inr ⟨i, HBD.out, rfl⟩⟩
end Go.Proofs.YtfngcphklfjhjaaDoor.lx
