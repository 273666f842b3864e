/- A byte of a text in pieces: At; and what is wrong told by Edit, Slice and At. -/
import Derived.Test.YtkjlcgclabgkaaaDoorValRow
namespace Go.Proofs.YtkjlcgclabgkaaaDoor.pc
set_option linter.unusedVariables false
open Go.ChangeShapes Go.WideShapes Go.ChangeAt Go.RowKit
open mem

theorem node_of {t : Tr} (h : 0 < tot t.ps) : ∃ l s r, t = .node l s r := by
  cases t with
  | leaf => simp [Tr.ps, tot] at h
  | node l s r => exact ⟨l, s, r, rfl⟩
set_option maxRecDepth 100000 in
set_option maxHeartbeats 4000000 in
/-- At, where there is such a byte. -/
theorem At_at (p : Option Addr) (t : Tr) (i : Nat) (c : UInt8) (w : World) (h : Is w p t) (hf : fit t.ps) (hc : (cat t.ps)[i]? = some c) :
    Calls Tryd.prog 10 #[.agg #[.pointer p], .int .i64 (i : Int)] w fun e w' => e = .returned (.tuple #[.int .u8 (c.toNat : Int), .nilIface]) ∧ Bl w w' := by
  have hlt : i < tot t.ps := by rw [← cat_len]; exact (List.getElem?_eq_some_iff.1 hc).1
  have hto := hf.2
  obtain ⟨T, hT⟩ : ∃ T, T = tot t.ps := ⟨_, rfl⟩
  have cl := fun w' (k : Bl w w') => Len_at p t w' (h.bl k)
  rw [← hT] at cl hlt hto
  have k0 : (0 : Int) ≤ (i : Int) := by omega
  have k1 : ¬ (T : Int) ≤ (i : Int) := by omega
  have k1n : ¬ T ≤ i := by omega
  have hx0 := Bx.new w (.pointer p) 26
  have HB0 : Bl w (w.alloc (.cells #[.pointer p] 26)) := (Bl.refl w).alloc _
  obtain ⟨l, s, r, rfl⟩ := node_of (t := t) (by omega)
  obtain ⟨b, p0, p2, rfl, hn⟩ := h.nd
  have HT : Hid _ := hT
  clear hT
  go_enter Tryd.func10, Tryd.ntmps10
  go_wp2_with (go_at_call 7; refine (cl _ HB0).mono ?_; clear cl; rintro e w1 ⟨rfl, hb1⟩; have hx1 := hx0.bl hb1; have g0 := hx1.cell)
  have B1 := HB0.trans hb1
  go_loopw [1, 6] (fun iv nv wr => ∃ (j b : Nat) (l r : Tr) (s : ByteArray), iv = .int .i64 (j : Int) ∧ nv = .pointer (some ⟨b, 0, none⟩) ∧ Is wr (some ⟨b, 0, none⟩) (.node l s r) ∧ fit (Tr.node l s r).ps ∧ (cat (Tr.node l s r).ps)[j]? = some c ∧ Bl w wr) (fun iv nv wr => left wr nv)
  case atStart => exact ⟨i, b, l, r, s, rfl, rfl, h.bl B1, hf, hc, B1⟩
  case round =>
    clear hf hc h hn hx0 hx1 g0 HB0 hb1 B1 k0 k1 hlt hto HT
    obtain ⟨j, b, l, r, s, rfl, rfl, hi, hf, hc, hB⟩ := hrel
    obtain ⟨b', p0, p2, e, hn⟩ := hi.nd
    cases e
    have hlj : j < tot (Tr.node l s r).ps := by rw [← cat_len]; exact (List.getElem?_eq_some_iff.1 hc).1
    have e1 : tot (Tr.node l s r).ps = tot l.ps + s.size + tot r.ps := by rw [Tr.ps, tot_app, tot]; omega
    have hto := hf.2
    have cp := place_at b p0 l s wr hn.c0 hn.c1 hn.l (by omega)
    have hcat : cat (Tr.node l s r).ps = cat l.ps ++ (s.data.toList ++ cat r.ps) := by rw [Tr.ps, cat_app, cat]
    rw [hcat] at hc
    obtain ⟨B, hB'⟩ : ∃ B, B = tot l.ps := ⟨_, rfl⟩
    obtain ⟨E, hE⟩ : ∃ E, E = tot l.ps + s.size := ⟨_, rfl⟩
    rw [← hE, ← hB'] at cp
    have hcl := cat_len l.ps
    rcases (show j < B ∨ (B ≤ j ∧ j < E) ∨ E ≤ j by omega) with hj | ⟨hj, hj2⟩ | hj
    · rw [List.getElem?_append_left (by omega)] at hc
      obtain ⟨l', s', r', rfl⟩ := node_of (t := l) (by omega)
      obtain ⟨b2, p3, p4, rfl, hn2⟩ := hn.l.nd
      have hj1 : (j : Int) < (B : Int) := by omega
      have HM : Hid (∀ wr', Bl wr wr' → left wr' (.pointer (some ⟨b2, 0, none⟩)) < left wr (.pointer (some ⟨b, 0, none⟩))) := fun wr' k => by rw [left_eq (hn.l.bl k), left_eq hi]; simp [Tr.ps]
      have hfl : fit (Tr.node l' s' r').ps := hf.sub (by simp [Tr.ps])
      clear hf hto e1 hlj hcat hB' hE hcl
      go_wp2_with (go_at_call 21; refine cp.mono ?_; clear cp; rintro e w2 ⟨rfl, hb2⟩; have d0 := cell_bl hb2 hn.c0)
      go_roundw
      case rel => exact ⟨j, b2, l', r', s', rfl, rfl, hn.l.bl hb2, hfl, hc, hB.trans hb2⟩
      case measure => exact HM.out _ hb2
    · rw [List.getElem?_append_right (by omega), List.getElem?_append_left (by rw [bs_len]; omega)] at hc
      obtain ⟨J, hJ⟩ : ∃ J, J = j - B := ⟨_, rfl⟩
      rw [show j - (cat l.ps).length = J by omega] at hc
      have hw : IntKind.i64.wrap ((j : Int) - (B : Int)) = (J : Int) := by rw [IntKind.wrap_i64]; omega
      have hJ0 : (0 : Int) ≤ (J : Int) := by omega
      have hJ1 : (J : Int) < (s.size : Int) := by omega
      have hj1 : ¬ (j : Int) < (B : Int) := by omega
      have hj3 : (j : Int) < (E : Int) := by omega
      clear hf hto e1 hlj hcat hB' hE hcl
      go_wp2_with (go_at_call 21; refine cp.mono ?_; clear cp; rintro e w2 ⟨rfl, hb2⟩; have d0 := cell_bl hb2 hn.c1)
      have hs : ∀ (h' : j - B < s.size), s[j - B] = c := fun h' => by
        subst hJ
        have h2 := (List.getElem?_eq_some_iff.1 hc).2
        rw [← h2]
        rfl
      rename_i hlt'
      refine bodyPost_ret (v := .tuple #[.int .u8 (c.toNat : Int), .nilIface]) ?_ rfl ⟨rfl, hB.trans hb2⟩
      simp [results, Tryd.f10, go_sem, hs hlt']
    · rw [List.getElem?_append_right (by omega), List.getElem?_append_right (by rw [bs_len]; omega)] at hc
      obtain ⟨l', s', r', rfl⟩ := node_of (t := r) (by omega)
      obtain ⟨b2, p3, p4, rfl, hn2⟩ := hn.r.nd
      obtain ⟨J, hJ⟩ : ∃ J, J = j - E := ⟨_, rfl⟩
      rw [show j - (cat l.ps).length - s.data.toList.length = J by rw [bs_len]; omega] at hc
      have hw : IntKind.i64.wrap ((j : Int) - (E : Int)) = (J : Int) := by rw [IntKind.wrap_i64]; omega
      have hj1 : ¬ (j : Int) < (B : Int) := by omega
      have hj3 : ¬ (j : Int) < (E : Int) := by omega
      have HM : Hid (∀ wr', Bl wr wr' → left wr' (.pointer (some ⟨b2, 0, none⟩)) < left wr (.pointer (some ⟨b, 0, none⟩))) := fun wr' k => by rw [left_eq (hn.r.bl k), left_eq hi]; simp [Tr.ps]; omega
      have hfr : fit (Tr.node l' s' r').ps := hf.sub (by simp [Tr.ps])
      clear hf hto e1 hlj hcat hB' hE hcl hJ
      go_wp2_with (go_at_call 21; refine cp.mono ?_; clear cp; rintro e w2 ⟨rfl, hb2⟩; have d0 := cell_bl hb2 hn.c2)
      go_roundw
      case rel => exact ⟨J, b2, l', r', s', rfl, rfl, hn.r.bl hb2, hfr, hc, hB.trans hb2⟩
      case measure => exact HM.out _ hb2
end Go.Proofs.YtkjlcgclabgkaaaDoor.pc
