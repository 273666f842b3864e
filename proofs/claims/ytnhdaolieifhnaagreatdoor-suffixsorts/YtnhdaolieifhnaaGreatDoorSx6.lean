/- What Sort of package suffix answers. -/
import Derived.Test.YtnhdaolieifhnaaGreatDoorSx5
namespace Go.Proofs.YtnhdaolieifhnaaGreatDoor.sx
set_option linter.unusedVariables false
open Go.ChangeShapes Go.WideShapes Go.ChangeAt Go.RowKit
open mem rows fd

theorem tab_getD (rs : List Int) (N : Nat) (h : rs.length = N) : tab (fun i => rs.getD i 0) N = rs := by
  apply List.ext_getElem?
  intro j
  by_cases hj : j < N
  · simp [tab, hj, show j < rs.length by omega]
  · rw [List.getElem?_eq_none (by rw [tab_len]; omega), List.getElem?_eq_none (by omega)]
/-- Where the loop of Sort stands. -/
structure At (s : ByteArray) (w : World) (A : Nat) (rv : Value) (u n : Nat) (L : List Nat) (r : Nat → Int) (wr : World) : Prop where
  one : 1 ≤ n
  view : View wr rv (tab r s.size)
  rk : Rk (gs s) s.size n r
  row : RowI wr A (ints L)
  perm : L.Perm (List.range s.size)
  bl : Bl w wr
  ule : u ≤ s.size
  done : u = s.size → L.Pairwise (lt (gs s))
  more : u < s.size → n ≤ s.size
theorem At.next {s : ByteArray} {w : World} {A u n R : Nat} {L L' : List Nat} {r : Nat → Int} {wr wr' : World} {rv : Value} {rs : List Int} (h : At s w A rv u n L r wr) (hu : u < s.size) (hp : L'.Perm (List.range s.size))
    (hs : L'.Pairwise (fun x y => ¬ klt (kk r s.size n y) (kk r s.size n x))) (hrow : RowI wr' A (ints L')) (hR : RowI wr' R rs) (hrs : Rs L' (fun k => kk r s.size n (L'.getD k 0)) s.size s.size rs) (hb : Bl w wr') :
    At s w A (.slice (some ⟨R, 0, none⟩) s.size s.size) (crk (fun k => kk r s.size n (L'.getD k 0)) s.size) (n + n) L' (fun i => rs.getD i 0) wr' := by
  have hN : 0 < s.size := by omega
  have hc : crk (fun k => kk r s.size n (L'.getD k 0)) s.size = cnt (fun k => kk r s.size n (L'.getD k 0)) (s.size - 1) := by
    obtain ⟨m, hm⟩ : ∃ m, s.size = m + 1 := ⟨s.size - 1, by omega⟩
    rw [show s.size - 1 = m by omega]
    generalize (fun k => kk r s.size n (L'.getD k 0)) = Kf
    rw [hm]
    rfl
  rw [hc]
  have hT := gs_tx s
  have h1 := h.one
  refine ⟨by omega, ?_, ranked_rk hT h.rk h.one hp hs hrs.2, hrow, hp, hb, ?_, fun e => ranked_all hT h.rk h.one hp hs hN e, fun hlt => ?_⟩
  · rw [tab_getD rs s.size hrs.1]
    have := hR.view s.size
    rw [hrs.1] at this
    exact this
  · have := cnt_le (fun k => kk r s.size n (L'.getD k 0)) (s.size - 1)
    omega
  · rcases Nat.lt_or_ge s.size (n + n) with h2 | h2
    · have := ranked_end hT h.rk h.one hp hN (by omega)
      omega
    · exact h2
set_option maxRecDepth 10000 in
theorem Sort_at (s : ByteArray) (w : World) (hs : s.size ≤ 4000) :
    Calls Tryz.prog 4 #[.string s] w fun e w' => ∃ A, e = .returned (.tuple #[.slice (some ⟨A, 0, none⟩) s.size s.size, .nilIface]) ∧ w.heap.size ≤ A ∧ Bl w w' ∧ ∃ L, RowI w' A (ints L) ∧ IsSort (gs s) s.size L := by
  have hz : ¬ (4000 : Int) < (s.size : Int) := by omega
  have cB := byBytes_at s w hs
  go_enter Tryz.func4, Tryz.ntmps4
  go_wp2_with (go_at_call 16; refine cB.mono ?_; rintro e w1 ⟨A, B, rfl, hA, hAB, hr1, hr2, hb1⟩)
  clear cB
  have HH : Hid (At s w A (.slice (some ⟨B, 0, none⟩) s.size s.size) 0 1 (List.range s.size) (gs s) w1) := by
    refine ⟨Nat.le_refl _, ?_, Rk.one (gs_tx s), hr1, List.Perm.refl _, hb1, Nat.zero_le _, fun e => ?_, fun e => e⟩
    · have := hr2.view s.size
      rw [tab_len] at this
      exact this
    · rw [← e]; exact List.Pairwise.nil
  have HA : Hid (w.heap.size ≤ A) := hA
  clear hr1 hr2 hb1 hA hAB
  go_loopw [5, 6, 7] (fun rv uv nv wr => ∃ u n : Nat, uv = .int .i64 (u : Int) ∧ nv = .int .i64 (n : Int) ∧ n ≤ 8000 ∧ ∃ L r, At s w A rv u n L r wr) (fun _ _ nv _ => 8001 - (intOf nv).toNat)
  case atStart => exact ⟨0, 1, rfl, rfl, by omega, _, _, HH.out⟩
  case round =>
    obtain ⟨u, n, rfl, rfl, hn8, L, r, h⟩ := hrel
    by_cases hu : u < s.size
    · have hlz : (u : Int) < (s.size : Int) := by omega
      have hn := h.more hu
      have h1 := h.one
      have cK := keysOf_at _ r s.size n wr hs hn8 h.view
      go_wp2_with (fail)
      refine cK.mono ?_
      rintro e w2 ⟨K, rfl, hK, hk2, hb2⟩
      clear cK
      have hAl := h.row.lt
      have hrow2 := h.row.step hb2
      go_wp2_with (fail)
      obtain ⟨w3, hw3⟩ : ∃ w3, w3 = w2.alloc (Obj.cells #[Value.slice (some ⟨K, 0, none⟩) s.size s.size] 44) := ⟨_, rfl⟩
      have hb3 : Bl wr w3 := by rw [hw3]; exact hb2.alloc _
      have hX3 : w3.cell? ⟨w2.heap.size, 0, none⟩ = some (.slice (some ⟨K, 0, none⟩) s.size s.size) := by rw [hw3]; simp
      have hk3 : RowK w3 K (tab (kf r s.size n) (s.size * 2)) := by rw [hw3]; exact hk2.step ((Bl.refl _).alloc _)
      have hs2 := hb2.size
      rw [← hw3]
      have hX : A ≠ w2.heap.size := by omega
      generalize w2.heap.size = X at *
      have cS := sort_at L r s.size n X K A s.size w3 hs (by omega) h.perm (h.row.step hb3) hX3 hk3 hX (by omega)
      refine cS.mono ?_
      rintro e w4 ⟨rfl, hg4, L', hp', hs', hrow4⟩
      have hX4 := cell_grown hX3 hg4 hX
      have hk4 := rowK_grown hk3 hg4 (by omega)
      have hb4 : Bl w w4 := bl_grown (h.bl.trans hb3) hg4 (fun j e => by injection e with e; rw [← e]; exact HA.out)
      clear cS hX3 hk3 hg4 hb3 hb2 hk2 hrow2 hw3
      have hvw := hrow4.view s.size
      rw [ints_len, show L'.length = s.size by have := hp'.length_eq; rwa [List.length_range] at this] at hvw
      have cR := ranked_at _ L' r s.size n K w4 hs hvw hp' hk4
      go_wp2_with (fail)
      refine cR.mono ?_
      rintro e w5 ⟨R, rfl, hR, hb5, rs, hr5, hrs⟩
      have hnx := h.next hu hp' hs' (hrow4.step hb5) hr5 hrs (hb4.trans hb5)
      clear cR hvw
      generalize crk (fun k => kk r s.size n (L'.getD k 0)) s.size = u' at *
      go_wp2
      go_roundw
      case rel => exact ⟨u', n + n, rfl, by rw [show ((n + n : Nat) : Int) = (n : Int) * 2 by omega], by omega, L', _, hnx⟩
      case measure => simp [intOf]; omega
    · have hnl : ¬ (u : Int) < (s.size : Int) := by omega
      have HU : Hid (u = s.size) := by have := h.ule; unfold Hid; omega
      go_wp2
      go_ret2
      exact ⟨A, rfl, HA.out, h.bl, L, h.row, h.perm, h.done HU.out⟩
end Go.Proofs.YtnhdaolieifhnaaGreatDoor.sx
