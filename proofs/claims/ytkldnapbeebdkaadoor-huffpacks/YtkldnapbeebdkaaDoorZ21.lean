/- Texts laid together: Hi3, Hi4. -/
import Derived.Test.YtkldnapbeebdkaaDoorZ20
/- Which byte's sign begins at a bit. -/
namespace Go.Proofs.YtkldnapbeebdkaaDoor.hi
set_option linter.unusedVariables false
open Go.ChangeShapes Go.WideShapes Go.ChangeAt Go.RowKit Go.Maps
open mem rows hg hh bit bitw
theorem wrong_no (s : ByteArray) (A n : Nat) (w : World) (hs : s.size ≤ 100000) (hn : n ≤ 64) (hA : 8 * s.size < A + n) (hAb : A ≤ 10000000) :
    Calls Tryd.prog 73 #[.string s, .int .i64 A, .int .i64 n, .int .i64 1] w fun e w' => e = .returned (.iface 23 (.int .i64 2)) ∧ w' = w := by
  have h1 : ¬ (n : Int) < 0 := by omega
  have h2 : ¬ (64 : Int) < n := by omega
  have h3 : ¬ (A : Int) < 0 := by omega
  have h4 : 8 * (s.size : Int) - (n : Int) < (A : Int) := by omega
  go_enter Tryd.func73, Tryd.ntmps73
  go_wp2
  go_ret
  exact ⟨rfl, rfl⟩
theorem get_no (s : ByteArray) (A n : Nat) (w : World) (hs : s.size ≤ 100000) (hn : n ≤ 64) (hA : 8 * s.size < A + n) (hAb : A ≤ 10000000) :
    Calls Tryd.prog 67 #[.string s, .int .i64 A, .int .i64 n, .int .i64 1] w fun e w' => e = .returned (.tuple #[.int .u64 0, .iface 23 (.int .i64 2)]) ∧ w' = w := by
  have c := wrong_no s A n w hs hn hA hAb
  go_enter Tryd.func67, Tryd.ntmps67
  go_wp2_with fail
  refine c.mono ?_
  rintro e w1 ⟨rfl, rfl⟩
  clear c
  go_wp2
  go_ret2
  exact ⟨rfl, rfl⟩
/-- The number of n bits. -/
def nm (p : ByteArray) (A n : Nat) : Int := (gN (fun i => tbit p true (A + i)) n true : Nat)
/-- No sign of up to n bits begins at bit A. -/
def NoS (f : Int → Int → Option Int) (p : ByteArray) (A n : Nat) : Prop := ∀ m, 1 ≤ m → m ≤ n → A + m ≤ 8 * p.size → f m (nm p A m) = none
theorem nm_bd (p : ByteArray) (A n : Nat) (h : n ≤ 24) : 0 ≤ nm p A n ∧ nm p A n < 16777216 := by
  have h1 : gN (fun i => tbit p true (A + i)) n true < 2 ^ n := nb_lt _ n
  have h2 : (2 : Nat) ^ n ≤ 2 ^ 24 := Nat.pow_le_pow_right (by decide) h
  have h3 : (2 : Nat) ^ 24 = 16777216 := by decide
  unfold nm
  omega
theorem Mp.bl {w w' : World} {b c : Nat} {f : Int → Int → Option Int} (h : Mp w b f c) (hb : Bl w w') : Mp w' b f c := by
  obtain ⟨D, ⟨es, clock, h1, h3⟩, h2⟩ := h
  refine ⟨D, ⟨es, clock, ?_, h3⟩, h2⟩
  have hlt : b < w.heap.size := by
    rcases Nat.lt_or_ge b w.heap.size with h | h
    · exact h
    · rw [Array.getElem?_eq_none h] at h1; cases h1
  rw [Below.block hb b hlt]
  exact h1
set_option maxHeartbeats 4000000 in
theorem first_at (p : ByteArray) (A b c : Nat) (f : Int → Int → Option Int) (w : World) (hM : Mp w b f c) (hp : p.size ≤ 100000) (hA : A ≤ 10000000) :
    Calls Tryd.prog 51 #[.string p, .int .i64 A, .map (some b)] w fun e w' => Dr w w' ∧
      ((∃ n : Nat, ∃ x : Int, 1 ≤ n ∧ n ≤ 24 ∧ A + n ≤ 8 * p.size ∧ NoS f p A (n - 1) ∧ f n (nm p A n) = some x ∧ e = .returned (.tuple #[.int .u8 x, .int .i64 (n : Int), .nilIface])) ∨
       (NoS f p A 24 ∧ e = .returned (.tuple #[.int .u8 0, .int .i64 0, .iface 23 (.int .i64 3)]))) := by
  have HM : Hid (Mp w b f c) := hM
  clear hM
  go_enter Tryd.func51, Tryd.ntmps51
  go_wp2
  go_loopw [9, 10, 11, 12, 13] (fun v9 _ _ _ _ wr => ∃ n : Nat, 1 ≤ n ∧ n ≤ 25 ∧ v9 = .int .i64 (n : Int) ∧ Hid (NoS f p A (n - 1) ∧ Dr w wr)) (fun v9 _ _ _ _ _ => 26 - (intOf v9).toNat)
  case atStart => exact ⟨1, by omega, by omega, rfl, ⟨fun m h1 h2 => by omega, Dr.refl _⟩⟩
  case round =>
    obtain ⟨n, hn1, hn2, rfl, H⟩ := hrel
    by_cases h24 : n ≤ 24
    · have h24z : (n : Int) ≤ 24 := by omega
      by_cases hb : A + n ≤ 8 * p.size
      · have cG := get_any p A n true 1 wr rfl (by omega) (by omega) hb
        have hbd := nm_bd p A n h24
        go_wp2_with fail
        refine cG.mono ?_
        rintro e w2 ⟨rfl, hd2⟩
        clear cG
        have HD2 : Hid (Dr w w2) := by
          obtain ⟨q, rfl⟩ := hd2
          exact H.out.2.drewN q
        have hlk := (HM.out.bl HD2.out.bl).look (n : Int) (nm p A n) ⟨by omega, by omega⟩ ⟨by omega, by omega⟩
        have HN : Hid (NoS f p A (n - 1)) := H.out.1
        clear hd2 H
        have e0 : ((gN (fun i => tbit p true (A + i)) n true : Nat) : Int) = nm p A n := rfl
        rw [e0]
        clear e0
        rcases hf : f (n : Int) (nm p A n) with _ | x
        · have HN2 : Hid (NoS f p A n) := fun m h1 h2 h3 => by
            rcases Nat.lt_or_ge (n - 1) m with h | h
            · obtain rfl : m = n := by omega
              exact hf
            · exact HN.out m h1 h h3
          rw [hf] at hlk
          clear hf HN
          generalize nm p A n = v at hbd hlk ⊢
          go_wp2
          go_roundw
          case rel => exact ⟨n + 1, by omega, by omega, by go_num, ⟨HN2.out, HD2.out⟩⟩
          case measure => simp [intOf]; omega
        · have HF : Hid (f (n : Int) (nm p A n) = some x) := hf
          rw [hf] at hlk
          clear hf
          generalize nm p A n = v at hbd hlk ⊢
          go_wp2
          go_ret3
          exact ⟨HD2.out, Or.inl ⟨n, x, hn1, h24, hb, HN.out, HF.out, rfl⟩⟩
      · have cG := get_no p A n wr hp (by omega) (by omega) hA
        go_wp2_with fail
        refine cG.mono ?_
        rintro e w2 ⟨rfl, rfl⟩
        clear cG
        go_wp2
        go_ret3
        refine ⟨H.out.2, Or.inr ⟨fun m h1 h2 h3 => ?_, rfl⟩⟩
        exact H.out.1 m h1 (by omega) h3
    · have h24z : ¬ (n : Int) ≤ 24 := by omega
      obtain rfl : n = 25 := by omega
      go_wp2
      go_ret3
      exact ⟨H.out.2, Or.inr ⟨H.out.1, rfl⟩⟩
end Go.Proofs.YtkldnapbeebdkaaDoor.hi
/- The text whose signs stand at a text's beginning. -/
namespace Go.Proofs.YtkldnapbeebdkaaDoor.hi
set_option linter.unusedVariables false
open Go.ChangeShapes Go.WideShapes Go.ChangeAt Go.RowKit Go.Maps
open mem rows hg hh bit bitw
/-- A sign of n bits begins at bit A: byte x's. -/
def FS (f : Int → Int → Option Int) (p : ByteArray) (A n : Nat) (x : Int) : Prop := 1 ≤ n ∧ n ≤ 24 ∧ A + n ≤ 8 * p.size ∧ NoS f p A (n - 1) ∧ f n (nm p A n) = some x
theorem FS.same {f : Int → Int → Option Int} {p : ByteArray} {A n m : Nat} {x y : Int} (h : FS f p A n x) (k : FS f p A m y) : n = m ∧ x = y := by
  obtain ⟨h1, h2, h3, h4, h5⟩ := h
  obtain ⟨k1, k2, k3, k4, k5⟩ := k
  have e : n = m := by
    rcases Nat.lt_trichotomy n m with h | h | h
    · have := k4 n h1 (by omega) h3; rw [h5] at this; cases this
    · exact h
    · have := h4 m k1 (by omega) k3; rw [k5] at this; cases this
  subst e
  rw [h5] at k5
  exact ⟨rfl, Option.some.inj k5⟩
theorem FS.no {f : Int → Int → Option Int} {p : ByteArray} {A n : Nat} {x : Int} (h : FS f p A n x) (k : NoS f p A 24) : False := by
  obtain ⟨h1, h2, h3, h4, h5⟩ := h
  have := k n h1 h2 h3
  rw [h5] at this
  cases this
/-- The first k bytes, read sign by sign, end at bit A. -/
def Way (f : Int → Int → Option Int) (p : ByteArray) : Nat → List Int → Nat → Prop
  | 0, zs, A => zs = [] ∧ A = 0
  | k + 1, zs, A => ∃ zs' A' n x, Way f p k zs' A' ∧ FS f p A' n x ∧ zs = zs' ++ [x] ∧ A = A' + n
theorem Way.bd {f : Int → Int → Option Int} {p : ByteArray} : ∀ {k : Nat} {zs : List Int} {A : Nat}, Way f p k zs A → zs.length = k ∧ A ≤ 24 * k
  | 0, zs, A, h => by obtain ⟨rfl, rfl⟩ := h; simp
  | k + 1, zs, A, h => by
    obtain ⟨zs', A', n, x, h1, h2, rfl, rfl⟩ := h
    have := h1.bd
    have := h2.2.1
    simp
    omega
/-- The row when k bytes are read. -/
def rz (n : Nat) (zs : List Int) : List Int := zs ++ List.replicate (n - zs.length) 0
theorem rz_len {n : Nat} {zs : List Int} (h : zs.length ≤ n) : (rz n zs).length = n := by unfold rz; simp; omega
theorem rz_set {n : Nat} {zs : List Int} {k : Nat} (x : Int) (hk : zs.length = k) (h : k < n) : (rz n zs).set k x = rz n (zs ++ [x]) := by
  subst hk
  unfold rz
  obtain ⟨d, hd⟩ : ∃ d, n - zs.length = d + 1 := ⟨n - zs.length - 1, by omega⟩
  rw [List.set_append_right _ _ (Nat.le_refl _), Nat.sub_self, hd, List.replicate_succ, List.set_cons_zero, List.length_append, List.append_assoc]
  simp
  omega
theorem rz_all {n : Nat} {zs : List Int} (hk : zs.length = n) : rz n zs = zs := by unfold rz; rw [hk, Nat.sub_self]; simp
set_option maxHeartbeats 4000000 in
theorem read_at (p : ByteArray) (n b c : Nat) (f : Int → Int → Option Int) (w : World) (hM : Mp w b f c) (hp : p.size ≤ 100000) (hn : n ≤ 16777215) :
    Calls Tryd.prog 35 #[.string p, .int .i64 (n : Int), .map (some b)] w fun e w' => Bl w w' ∧
      ((∃ zs, n ≤ 4000 ∧ (∃ A, Way f p n zs A) ∧ e = .returned (.tuple #[.string (strOfNums zs), .nilIface])) ∨
       (∃ i, (4000 < n ∨ ∃ k zs A, k < n ∧ Way f p k zs A ∧ NoS f p A 24) ∧ e = .returned (.tuple #[.string "".toUTF8, .iface 23 (.int .i64 i)]))) := by
  have HM : Hid (Mp w b f c) := hM
  clear hM
  by_cases hn4 : n ≤ 4000
  · have hz4 : ¬ (4000 : Int) < n := by omega
    have hmk := fun w => run_make_row' (P := Tryd.prog) 66 5 (.int .u8 0) 1 Tryd.underlying66 infoU rfl .i64 .i64 n (by omega) (by omega) w
    obtain ⟨w2, hw2⟩ : ∃ w2, w2 = w.alloc (.cells (madeCells #[.int .u8 0] n) 5) := ⟨_, rfl⟩
    have HB2 : Hid (Bl w w2) := by rw [hw2]; exact (Bl.refl w).alloc _
    have HR0 : Hid (Row w2 5 w.heap.size (List.replicate n 0)) := by
      rw [hw2]
      exact Row.made w _ n
    go_enter Tryd.func35, Tryd.ntmps35
    go_wp2
    rw [← hw2]
    obtain ⟨B, hB⟩ : ∃ B, B = w.heap.size := ⟨_, rfl⟩
    rw [← hB] at HR0 ⊢
    have HB : Hid (B = w.heap.size) := hB
    clear hw2 hmk hB
    go_loopw [9, 10, 11, 12, 13, 21] (fun a _ _ _ _ i wr => ∃ k A : Nat, k ≤ n ∧ A ≤ 24 * k ∧ i = .int .i64 (k : Int) ∧ a = .int .i64 (A : Int) ∧ Hid (∃ zs, Way f p k zs A ∧ Row wr 5 B (rz n zs) ∧ Bl w wr)) (fun _ _ _ _ _ i _ => n - (intOf i).toNat)
    case atStart => exact ⟨0, 0, Nat.zero_le _, Nat.zero_le _, rfl, rfl, ⟨[], ⟨rfl, rfl⟩, HR0.out, HB2.out⟩⟩
    case round =>
      clear HR0 HB2
      obtain ⟨k, A, hk, hA, rfl, rfl, H⟩ := hrel
      by_cases hlt : k < n
      · have hltz : (k : Int) < n := by omega
        obtain ⟨zs, hw, hr, hb⟩ := H.out
        have hzl := hw.bd.1
        have cF := first_at p A b c f wr (HM.out.bl hb) hp (by omega)
        have HW : Hid (Way f p k zs A ∧ Row wr 5 B (rz n zs) ∧ Bl w wr ∧ zs.length = k) := ⟨hw, hr, hb, hzl⟩
        clear H hw hr hb hzl
        go_wp2_with fail
        refine cF.mono ?_
        clear cF
        rintro e w3 ⟨hd3, ⟨m, x, h1, h2, h3, h4, h5, rfl⟩ | ⟨h1, rfl⟩⟩
        · obtain ⟨q, rfl⟩ := hd3
          have HF : Hid (FS f p A m x) := ⟨h1, h2, h3, h4, h5⟩
          have hr3 : Row (wr.drewN q) 5 B (rz n zs) := HW.out.2.1
          have hc := hr3.cell (j := k) (by rw [rz_len (by have := HW.out.2.2.2; omega)]; exact hlt)
          have hf := hr3.frozen k
          have HS : Hid (Row ((wr.drewN q).setCell ⟨B, k, none⟩ (.int .u8 x)) 5 B (rz n (zs ++ [x])) ∧ Bl w ((wr.drewN q).setCell ⟨B, k, none⟩ (.int .u8 x))) := by
            refine ⟨?_, (HW.out.2.2.1.drewN q).setCell (by rw [HB.out]; exact Nat.le_refl _) _⟩
            rw [← rz_set x HW.out.2.2.2 hlt]
            exact hr3.set k x
          generalize (rz n zs).getD k 0 = old at hc
          clear h3 h4 h5 hr3
          generalize wr.drewN q = wq at hc hf HS ⊢
          go_wp2
          go_roundw
          case rel => exact ⟨k + 1, A + m, hlt, by omega, by go_num, by go_num, ⟨zs ++ [x], ⟨zs, A, m, x, HW.out.1, HF.out, rfl, rfl⟩, HS.out.1, HS.out.2⟩⟩
          case measure => simp [intOf]; omega
        · have HN : Hid (NoS f p A 24 ∧ Dr wr w3) := ⟨h1, hd3⟩
          clear h1 hd3
          go_wp2
          go_ret2
          exact ⟨HW.out.2.2.1.trans HN.out.2.bl, Or.inr ⟨_, Or.inr ⟨k, zs, A, hlt, HW.out.1, HN.out.1⟩, rfl⟩⟩
      · have hltz : ¬ (k : Int) < n := by omega
        obtain rfl : k = n := by omega
        obtain ⟨zs, hw, hr, hb⟩ := H.out
        have hzl := hw.bd.1
        rw [rz_all hzl] at hr
        have hcv := hr.text (P := Tryd.prog) Tryd.underlying66 Tryd.underlying5 Tryd.underlying9 k hzl
        have HW : Hid (Way f p k zs A ∧ Bl w wr) := ⟨hw, hb⟩
        clear H hw hr hb hzl
        go_wp2
        go_ret2
        exact ⟨HW.out.2, Or.inl ⟨zs, ⟨A, HW.out.1⟩, rfl⟩⟩
  · have hz4 : (4000 : Int) < n := by omega
    go_enter Tryd.func35, Tryd.ntmps35
    go_wp2
    go_ret2
    exact ⟨Bl.refl _, Or.inr ⟨_, Or.inl (by omega), rfl⟩⟩
end Go.Proofs.YtkldnapbeebdkaaDoor.hi
