/- Text of package expr. -/
import Derived.Test.YtfngcphklfjhjaaDoorEx5
import Derived.Test.YtfngcphklfjhjaaDoorExQ
import Derived.Test.YtfngcphklfjhjaaDoorBld
import Derived.Test.YtfngcphklfjhjaaDoorLayT
namespace Go.Proofs.YtfngcphklfjhjaaDoor.ex
set_option linter.unusedVariables false
open Go.ChangeShapes Go.WideShapes Go.ChangeAt Go.RowKit Go.Shelf
open mem lx bld

/-- An expression as text. -/
def txt : Ex → List UInt8
  | .num _ n => Lib.itoa n
  | .nam _ t => t
  | .bin _ o l r => (if top l < bd o then [40] ++ txt l ++ [41] else txt l) ++ ([32] ++ o ++ [32]) ++ (if top r < bd o + 1 then [40] ++ txt r ++ [41] else txt r)
def sdt (x : Ex) (m : Nat) : List UInt8 := if top x < m then [40] ++ txt x ++ [41] else txt x
theorem txt_bin (a : Nat) (o : List UInt8) (l r : Ex) : txt (.bin a o l r) = sdt l (bd o) ++ ([32] ++ o ++ [32]) ++ sdt r (bd o + 1) := by rw [txt]; rfl
/-- Numbers of 64 bits. -/
def Fit : Ex → Prop
  | .num _ n => -9223372036854775808 ≤ n ∧ n ≤ 9223372036854775807
  | .nam _ _ => True
  | .bin _ _ l r => Fit l ∧ Fit r
/-- The library's table of powers. -/
def Pw (w : World) : Prop := Lib.TabIs Tryd.prog w "internal/strconv.uint64pow10" .u64 Lib.pow10Tab
theorem gnP : Tryd.prog.globalNamed "internal/strconv.uint64pow10" = some 3 := by kernel_rfl
theorem Pw.below {B : Nat} {w w' : World} (h : Pw w) (hb : Below B w w') (hG : 3 < B) : Pw w' := by
  unfold Pw Lib.TabIs World.var? at h ⊢
  rw [gnP] at h ⊢
  have : w'.heap[3]? = w.heap[3]? := hb.block _ hG
  simpa [this] using h
theorem bd_typ {B b : Nat} {l : List UInt8} {w : World} (h : Bd B b l w) : ∃ c fz, w.heap[b]? = some (.cells c 73 fz) := by
  rcases h with h | h
  · obtain ⟨_, v, hc, _⟩ := h; exact ⟨_, _, hc⟩
  · obtain ⟨_, v, hc, _⟩ := h; exact ⟨_, _, hc⟩
theorem Kb.kx {B b : Nat} {l : List UInt8} {w w' : World} (h : Kb b w w') (hb : Bd B b l w) : Kx w w' := fun k cs hk => by
  refine h.same k _ hk ?_ ?_
  · intro e
    obtain ⟨c, fz, hc⟩ := bd_typ hb
    rw [e, hc] at hk
    simp at hk
  · intro c fz e
    simp at e
theorem bl_grow {w : World} (k : Nat) (os : Array Obj) : Bl w (Go.Sort.grow (w.drewN k) os) := by
  refine ⟨rfl, rfl, rfl, ?_, ?_⟩
  · show w.heap.size ≤ (w.heap ++ os).size
    simp
  · intro k hk
    show (w.heap ++ os)[k]? = _
    rw [Array.getElem?_append_left hk]
theorem Itoa_at (n : Int) (w : World) (h0 : -9223372036854775808 ≤ n) (h1 : n ≤ 9223372036854775807) (h : Pw w) : Calls Tryd.prog 52 #[.int .i64 n] w fun e w' => e = .returned (.string (tx (Lib.itoa n))) ∧ Bl w w' := by
  refine (Any.strconv_Itoa layT.laid n h0 h1 w h).mono ?_
  rintro e w' ⟨rfl, k, os, rfl⟩
  exact ⟨rfl, bl_grow k os⟩
/-- What writing does. -/
def Wrote (B b : Nat) (l t : List UInt8) (w : World) (e : Ending) (w' : World) : Prop := e = .returned (.tuple #[]) ∧ Bd B b (l ++ t) w' ∧ Below B w w' ∧ Kb b w w'
def WriteC (x : Ex) : Prop := ∀ (B b : Nat) (l : List UInt8) (v : Value) (w : World), Bd B b l w → IsX w v x → Pw w → 3 < B → Fit x → l.length + (txt x).length ≤ 100000000 →
  Calls Tryd.prog 38 #[.pointer (some ⟨b, 0, none⟩), v] w fun e w' => Wrote B b l (txt x) w e w'
def SideC (x : Ex) : Prop := ∀ (m : Nat) (B b : Nat) (l : List UInt8) (v : Value) (w : World), m ≤ 4 → Bd B b l w → IsX w v x → Pw w → 3 < B → Fit x → l.length + (sdt x m).length ≤ 100000000 →
  Calls Tryd.prog 53 #[.pointer (some ⟨b, 0, none⟩), v, .int .i64 (m : Int)] w fun e w' => Wrote B b l (sdt x m) w e w'
set_option maxRecDepth 10000 in
theorem side_of (x : Ex) (h : WriteC x) : SideC x := by
  intro m B b l v w hm hB hx hP hG hF hl
  have c1 := fun (l' : List UInt8) (wx : World) (h1 : Bd B b l' wx) (h2 : Kx w wx) (h3 : Below B w wx) (h4 : l'.length + (txt x).length ≤ 100000000) => h B b l' v wx h1 (hx.keep h2) (hP.below h3 hG) hG hF h4
  by_cases ht : top x < m
  · -- in brackets
    have hs : sdt x m = [40] ++ txt x ++ [41] := by unfold sdt; rw [if_pos ht]
    rw [hs] at hl
    simp only [List.length_append, List.length_cons, List.length_nil] at hl
    cases x with
    | num a n => exact absurd ht (by show ¬ 4 < m; omega)
    | nam a t => exact absurd ht (by show ¬ 4 < m; omega)
    | bin a o xl xr =>
      obtain ⟨xb, vl, vr, rfl, hc, _, _⟩ := hx
      have k0 : w.cell? ⟨xb, 0, none⟩ = some (.int .i64 3) := by rw [cell_of hc]; rfl
      have k4 : w.cell? ⟨xb, 4, none⟩ = some (.string (tx o)) := by rw [cell_of hc]; rfl
      have ht' : bd o < m := ht
      obtain ⟨k, hk⟩ : ∃ k, k = bd o := ⟨_, rfl⟩
      have hge : decide (m ≤ k) = false := decide_eq_false (by omega)
      have hge' : ¬ m ≤ k := by omega
      have cB := binds_at o
      rw [← hk] at cB
      have hx' : IsX w (.pointer (some ⟨xb, 0, none⟩)) (.bin a o xl xr) := ⟨_, _, _, rfl, hc, ‹_›, ‹_›⟩
      have cO := writeb_at B b l 40 40 rfl w hB (by omega)
      go_enter Tryd.func53, Tryd.ntmps53
      go_wp2_with fail
      refine (cB _).mono ?_
      rintro e w1 ⟨rfl, rfl⟩
      go_wp2_with fail
      refine cO.mono ?_
      rintro e w2 ⟨rfl, hB2, hb2, hk2⟩
      have hkx2 := Kb.kx hk2 hB
      have c2 := c1 (l ++ [40]) w2 hB2 hkx2 hb2 (by simp only [List.length_append, List.length_cons, List.length_nil]; omega)
      go_wp2_with fail
      refine c2.mono ?_
      rintro e w3 ⟨rfl, hB3, hb3, hk3⟩
      have c3 := writeb_at B b _ 41 41 rfl w3 hB3 (by simp only [List.length_append, List.length_cons, List.length_nil]; omega)
      go_wp2_with fail
      refine c3.mono ?_
      rintro e w4 ⟨rfl, hB4, hb4, hk4⟩
      go_wp2
      go_end0
      refine ⟨rfl, ?_, (hb2.trans hb3).trans hb4, (hk2.trans hk3).trans hk4⟩
      rw [hs]
      have e : l ++ ([40] ++ txt (.bin a o xl xr) ++ [41]) = l ++ [40] ++ txt (.bin a o xl xr) ++ [41] := by simp
      rw [e]
      exact hB4
  · have hs : sdt x m = txt x := by unfold sdt; rw [if_neg ht]
    rw [hs] at hl
    have c2 := c1 l w hB (Kx.bl (Bl.refl _)) (Below.refl _ _) hl
    have fin : ∀ e w', Wrote B b l (txt x) w e w' → Wrote B b l (sdt x m) w e w' := fun e w' h => by rw [hs]; exact h
    cases x with
    | num a n =>
      obtain ⟨xb, rfl, hc⟩ := hx
      have k0 : w.cell? ⟨xb, 0, none⟩ = some (.int .i64 1) := by rw [cell_of hc]; rfl
      go_enter Tryd.func53, Tryd.ntmps53
      go_wp2_with fail
      refine c2.mono ?_
      rintro e w2 ⟨rfl, hB2, hb2, hk2⟩
      go_wp2
      go_end0
      exact fin _ _ ⟨rfl, hB2, hb2, hk2⟩
    | nam a t =>
      obtain ⟨xb, rfl, hc⟩ := hx
      have k0 : w.cell? ⟨xb, 0, none⟩ = some (.int .i64 2) := by rw [cell_of hc]; rfl
      go_enter Tryd.func53, Tryd.ntmps53
      go_wp2_with fail
      refine c2.mono ?_
      rintro e w2 ⟨rfl, hB2, hb2, hk2⟩
      go_wp2
      go_end0
      exact fin _ _ ⟨rfl, hB2, hb2, hk2⟩
    | bin a o xl xr =>
      obtain ⟨xb, vl, vr, rfl, hc, _, _⟩ := hx
      have k0 : w.cell? ⟨xb, 0, none⟩ = some (.int .i64 3) := by rw [cell_of hc]; rfl
      have k4 : w.cell? ⟨xb, 4, none⟩ = some (.string (tx o)) := by rw [cell_of hc]; rfl
      have ht' : ¬ bd o < m := ht
      obtain ⟨k, hk⟩ : ∃ k, k = bd o := ⟨_, rfl⟩
      have hge : decide (m ≤ k) = true := decide_eq_true (by omega)
      have hge' : m ≤ k := by omega
      have cB := binds_at o
      rw [← hk] at cB
      clear ht ht' hk
      go_enter Tryd.func53, Tryd.ntmps53
      go_wp2_with fail
      refine (cB _).mono ?_
      rintro e w1 ⟨rfl, rfl⟩
      go_wp2_with fail
      refine c2.mono ?_
      rintro e w2 ⟨rfl, hB2, hb2, hk2⟩
      go_wp2
      go_end0
      exact fin _ _ ⟨rfl, hB2, hb2, hk2⟩
set_option maxRecDepth 10000 in
set_option maxHeartbeats 1000000 in
theorem write_of (x : Ex) : WriteC x := by
  induction x with
  | num a n =>
    intro B b l v w hB hx hP hG hF hl
    obtain ⟨xb, rfl, hc⟩ := hx
    have k0 : w.cell? ⟨xb, 0, none⟩ = some (.int .i64 1) := by rw [cell_of hc]; rfl
    have k2 : w.cell? ⟨xb, 2, none⟩ = some (.int .i64 n) := by rw [cell_of hc]; rfl
    have cI := Itoa_at n w hF.1 hF.2 hP
    have et : txt (.num a n) = Lib.itoa n := by rw [txt]
    rw [et] at hl
    go_enter Tryd.func38, Tryd.ntmps38
    go_wp2_with fail
    refine cI.mono ?_
    rintro e w1 ⟨rfl, hb1⟩
    have cW := write_at B b l (tx (Lib.itoa n)) w1 (hB.bl hb1) (by rw [tx_size]; omega)
    go_wp2_with fail
    refine cW.mono ?_
    rintro e w2 ⟨rfl, hB2, hb2, hk2⟩
    go_wp2
    go_end0
    refine ⟨rfl, ?_, (Below.mono hb1 hB.le).trans hb2, (Kb.bl hb1).trans hk2⟩
    rw [et]
    have e1 : (tx (Lib.itoa n)).data.toList = Lib.itoa n := L_tx _
    rw [e1] at hB2
    exact hB2
  | nam a t =>
    intro B b l v w hB hx hP hG hF hl
    obtain ⟨xb, rfl, hc⟩ := hx
    have k0 : w.cell? ⟨xb, 0, none⟩ = some (.int .i64 2) := by rw [cell_of hc]; rfl
    have k3 : w.cell? ⟨xb, 3, none⟩ = some (.string (tx t)) := by rw [cell_of hc]; rfl
    have et : txt (.nam a t) = t := by rw [txt]
    rw [et] at hl
    have cW := write_at B b l (tx t) w hB (by rw [tx_size]; omega)
    go_enter Tryd.func38, Tryd.ntmps38
    go_wp2_with fail
    refine cW.mono ?_
    rintro e w2 ⟨rfl, hB2, hb2, hk2⟩
    go_wp2
    go_end0
    refine ⟨rfl, ?_, hb2, hk2⟩
    rw [et]
    have e1 : (tx t).data.toList = t := L_tx _
    rw [e1] at hB2
    exact hB2
  | bin a o xl xr il ir =>
    intro B b l v w hB hx hP hG hF hl
    obtain ⟨xb, vl, vr, rfl, hc, hxl, hxr⟩ := hx
    have k0 : w.cell? ⟨xb, 0, none⟩ = some (.int .i64 3) := by rw [cell_of hc]; rfl
    have k4 : w.cell? ⟨xb, 4, none⟩ = some (.string (tx o)) := by rw [cell_of hc]; rfl
    have k5 : w.cell? ⟨xb, 5, none⟩ = some vl := by rw [cell_of hc]; rfl
    have k6 : w.cell? ⟨xb, 6, none⟩ = some vr := by rw [cell_of hc]; rfl
    have et := txt_bin a o xl xr
    rw [et] at hl
    simp only [List.length_append, List.length_cons, List.length_nil] at hl
    have hbd := bd_le o
    have cB := binds_at o
    have cL := side_of xl il (bd o) B b l vl w (by omega) hB hxl hP hG hF.1 (by omega)
    have cR := fun (l' : List UInt8) (wx : World) (h1 : Bd B b l' wx) (h2 : Kx w wx) (h3 : Below B w wx) (h4 : l'.length + (sdt xr (bd o + 1)).length ≤ 100000000) => side_of xr ir (bd o + 1) B b l' vr wx (by omega) h1 (hxr.keep h2) (hP.below h3 hG) hG hF.2 h4
    obtain ⟨vbl, rfl, _⟩ := hxl.ptr
    obtain ⟨vbr, rfl, _⟩ := hxr.ptr
    have node : ∀ wx, Kx w wx → wx.cell? ⟨xb, 4, none⟩ = some (.string (tx o)) ∧ wx.cell? ⟨xb, 6, none⟩ = some (.pointer (some ⟨vbr, 0, none⟩)) := fun wx hk => by
      have := hk xb _ hc
      exact ⟨by rw [cell_of this]; rfl, by rw [cell_of this]; rfl⟩
    obtain ⟨k, hk⟩ : ∃ k, k = bd o := ⟨_, rfl⟩
    rw [← hk] at cB cL cR hl hbd
    rw [show (((k + 1 : Nat) : Nat) : Int) = (k : Int) + 1 by omega] at cR
    have HK : Hid (k = bd o) := hk
    clear hk
    go_enter Tryd.func38, Tryd.ntmps38
    go_wp2_with fail
    refine (cB _).mono ?_
    rintro e w1 ⟨rfl, rfl⟩
    go_wp2_with fail
    refine cL.mono ?_
    rintro e w2 ⟨rfl, hB2, hb2, hk2⟩
    have hx2 := Kb.kx hk2 hB
    obtain ⟨q4, q6⟩ := node w2 hx2
    have cW := write_at B b (l ++ sdt xl k) (⟨#[32]⟩ ++ tx o ++ ⟨#[32]⟩) w2 hB2 (by simp only [List.length_append, ByteArray.size_append, tx_size]; show _ + (1 + _ + 1) ≤ _; omega)
    have hos : (tx o).size ≤ 100000000 := by rw [tx_size]; omega
    go_wp2_with fail
    refine cW.mono ?_
    rintro e w3 ⟨rfl, hB3, hb3, hk3⟩
    have e3 : (⟨#[32]⟩ ++ tx o ++ ⟨#[32]⟩ : ByteArray).data.toList = [32] ++ o ++ [32] := by simp [tx]
    rw [e3] at hB3
    have hx3 := hx2.trans (Kb.kx hk3 hB2)
    obtain ⟨r4, r6⟩ := node w3 hx3
    have c3 := cR _ w3 hB3 hx3 (hb2.trans hb3) (by simp only [List.length_append, List.length_cons, List.length_nil]; omega)
    go_wp2_with fail
    refine c3.mono ?_
    rintro e w4 ⟨rfl, hB4, hb4, hk4⟩
    go_wp2
    go_end0
    refine ⟨rfl, ?_, (hb2.trans hb3).trans hb4, (hk2.trans hk3).trans hk4⟩
    rw [et, ← HK.out]
    have e9 : l ++ (sdt xl k ++ ([32] ++ o ++ [32]) ++ sdt xr (k + 1)) = l ++ sdt xl k ++ ([32] ++ o ++ [32]) ++ sdt xr (k + 1) := by simp
    rw [e9]
    exact hB4
theorem Text_at (x : Ex) (v : Value) (w : World) (hx : IsX w v x) (hP : Pw w) (hG : 3 < w.heap.size) (hF : Fit x) (hl : (txt x).length ≤ 100000000) :
    Calls Tryd.prog 20 #[v] w fun e w' => e = .returned (.string (tx (txt x))) ∧ Bl w w' := by
  have hb0 := Bd.new w
  have hbl : Bl w (w.alloc (.cells #[.pointer none, .slice none 0 0] 73)) := (Bl.refl _).alloc _
  have cW := write_of x w.heap.size w.heap.size [] v _ hb0 (hx.keep (Kx.bl hbl)) (hP.below hbl hG) hG hF (by simpa using hl)
  go_enter Tryd.func20, Tryd.ntmps20
  go_wp2_with fail
  refine cW.mono ?_
  rintro e w2 ⟨rfl, hB2, hb2, hk2⟩
  go_wp2_with fail
  refine (string_at _ _ _ _ hB2).mono ?_
  rintro e w3 ⟨rfl, hb3, _⟩
  go_wp2
  go_ret
  exact ⟨rfl, (Below.trans hbl hb2).trans hb3⟩
end Go.Proofs.YtfngcphklfjhjaaDoor.ex
