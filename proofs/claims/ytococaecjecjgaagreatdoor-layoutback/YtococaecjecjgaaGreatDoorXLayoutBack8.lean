/- Texts laid together: Bld, LayT, Ex6, Ex9, ExT. -/
import Derived.Test.YtococaecjecjgaaGreatDoorXLayoutBack2
import Derived.Test.YtococaecjecjgaaGreatDoorXLayoutBack7
import Derived.Test.YtococaecjecjgaaGreatDoorChecked
import Derived.Shelf.Strconv.Itoa3
import Derived.Test.YtococaecjecjgaaGreatDoorXLayoutBack6
/- A strings.Builder of the call's own: what is written into it, what it holds, and what stays as it was. -/
namespace Go.Proofs.YtococaecjecjgaaGreatDoor.bld
set_option linter.unusedVariables false
open Go.ChangeShapes Go.WideShapes Go.ChangeAt Go.RowKit Go.Shelf
open mem lx

/-- A builder that holds these bytes. -/
def Bd (B b : Nat) (l : List UInt8) (w : World) : Prop := Lib.IsBuilderF 81 5 B b (Lib.byteCells l) w
theorem lt_of_some {w : World} {g : Nat} {o : Obj} (h : w.heap[g]? = some o) : g < w.heap.size := lt_of_heap h
theorem atF_bl {T e : TypeId} {B b : Nat} {p : Value} {bs : List Value} {W W' : World} (h : Lib.BuilderAtF T e B b p bs W) (hg : Bl W W') : Lib.BuilderAtF T e B b p bs W' := by
  have key : ∀ k c t fz, W.heap[k]? = some (Obj.cells c t fz) → W'.heap[k]? = some (Obj.cells c t fz) := fun k c t fz hk => by
    rw [Below.block hg k (lt_of_heap hk)]
    exact hk
  obtain ⟨hB, v, hb, hown, hne⟩ := h
  refine ⟨hB, v, key _ _ _ _ hb, ⟨hown.1, ?_⟩, hne⟩
  rcases hown.2 with hn | ⟨g, cap, cur, fz, hv, hbg, hgg, rest⟩
  · exact .inl hn
  · exact .inr ⟨g, cap, cur, fz, hv, hbg, key _ _ _ _ hgg, rest⟩
theorem Bd.bl {B b : Nat} {l : List UInt8} {W W' : World} (h : Bd B b l W) (hb : Bl W W') : Bd B b l W' :=
  h.elim (fun x => .inl (atF_bl x hb)) (fun x => .inr (atF_bl x hb))
theorem Bd.cells {B b : Nat} {l : List UInt8} {W : World} (h : Bd B b l W) : ∃ c t fz, W.heap[b]? = some (Obj.cells c t fz) := by
  rcases h with h | h
  · obtain ⟨_, v, hc, _⟩ := h; exact ⟨_, _, _, hc⟩
  · obtain ⟨_, v, hc, _⟩ := h; exact ⟨_, _, _, hc⟩
theorem Bd.lt {B b : Nat} {l : List UInt8} {W : World} (h : Bd B b l W) : b < W.heap.size := by
  obtain ⟨c, t, fz, hc⟩ := h.cells
  exact lt_of_some hc
theorem Bd.base {B b : Nat} {l : List UInt8} {W : World} (h : Bd B b l W) : B ≤ b := by
  rcases h with h | h
  · exact h.1
  · exact h.1
theorem Bd.le {B b : Nat} {l : List UInt8} {W : World} (h : Bd B b l W) : B ≤ W.heap.size := Nat.le_trans h.base (Nat.le_of_lt h.lt)
theorem Bd.new (w : World) : Bd w.heap.size w.heap.size [] (w.alloc (.cells #[.pointer none, .slice none 0 0] 81)) := by
  refine .inl ⟨Nat.le_refl _, .slice none 0 0, ?_, ⟨rfl, .inl ⟨rfl, rfl⟩⟩, ?_⟩
  · show (w.heap.push _)[w.heap.size]? = _
    rw [Array.getElem?_push, if_pos rfl]
  · intro h; cases h
/-- What is no row of bytes and not the builder stays as it was. -/
structure Kb (b : Nat) (w w' : World) : Prop where
  size : w.heap.size ≤ w'.heap.size
  same : ∀ (k : Nat) (o : Obj), w.heap[k]? = some o → k ≠ b → (∀ c fz, o ≠ .cells c 5 fz) → w'.heap[k]? = some o
theorem Kb.refl (b : Nat) (w : World) : Kb b w w := ⟨Nat.le_refl _, fun _ _ h _ _ => h⟩
theorem Kb.trans {b : Nat} {x y z : World} (h : Kb b x y) (k : Kb b y z) : Kb b x z := ⟨Nat.le_trans h.size k.size, fun i o h1 h2 h3 => k.same i o (h.same i o h1 h2 h3) h2 h3⟩
theorem Kb.bl {b : Nat} {w w' : World} (h : Bl w w') : Kb b w w' := ⟨h.size, fun k o hk _ _ => by rw [Below.block h k (lt_of_some hk)]; exact hk⟩
theorem str_cells (s : ByteArray) : Lib.strCells s = Lib.byteCells s.data.toList := rfl
theorem byte_cells_app (a b : List UInt8) : Lib.byteCells (a ++ b) = Lib.byteCells a ++ Lib.byteCells b := by simp [Lib.byteCells]
/-- WriteString. -/
theorem write_at (B b : Nat) (l : List UInt8) (s : ByteArray) (w : World) (h : Bd B b l w) (hl : l.length + s.size ≤ 140737488355328) :
    Calls Tryz.prog 93 #[.pointer (some ⟨b, 0, none⟩), .string s] w fun e w' => e = .returned (.tuple #[.int .i64 s.size, .nilIface]) ∧ Bd B b (l ++ s.data.toList) w' ∧ Below B w w' ∧ Kb b w w' := by
  refine Calls.mono (Any.Builder_WriteString_k lay.laid166 lay.extra B b (Lib.byteCells l) s w h (by rw [Lib.byteCells_length]; exact hl) h.le) ?_
  rintro e w' ⟨rfl, h1, h2, h3⟩
  refine ⟨rfl, ?_, h2, ⟨h2.size, fun k o hk hne ho => h3 k o hk (fun e => hne (by injection e)) ho⟩⟩
  unfold Bd
  rw [byte_cells_app, ← str_cells]
  exact .inr h1
theorem writeb_at (B b : Nat) (l : List UInt8) (c : UInt8) (z : Int) (hz : z = (c.toNat : Int)) (w : World) (h : Bd B b l w) (hl : l.length + 1 ≤ 140737488355328) :
    Calls Tryz.prog 190 #[.pointer (some ⟨b, 0, none⟩), .int .u8 z] w fun e w' => e = .returned .nilIface ∧ Bd B b (l ++ [c]) w' ∧ Below B w w' ∧ Kb b w w' := by
  subst hz
  refine Calls.mono (Any.Builder_WriteByte_k lay.laid167 lay.extra B b (Lib.byteCells l) (c.toNat : Int) w h (by rw [Lib.byteCells_length]; exact hl) h.le) ?_
  rintro e w' ⟨rfl, h1, h2, h3⟩
  refine ⟨rfl, ?_, h2, ⟨h2.size, fun k o hk hne ho => h3 k o hk (fun e => hne (by injection e)) ho⟩⟩
  unfold Bd
  rw [byte_cells_app]
  exact .inr h1
theorem string_at (B b : Nat) (l : List UInt8) (w : World) (h : Bd B b l w) :
    Calls Tryz.prog 66 #[.pointer (some ⟨b, 0, none⟩)] w fun e w' => e = .returned (.string ⟨l.toArray⟩) ∧ Below B w w' ∧ Kb b w w' := by
  refine Calls.mono (Any.Builder_String_any_k lay.laid169 lay.extra B b l w h h.le) ?_
  rintro e w' ⟨rfl, h1, h2, h3⟩
  exact ⟨rfl, h2, ⟨h2.size, fun k o hk hne ho => h3 k o hk (fun e => hne (by injection e)) ho⟩⟩
end Go.Proofs.YtococaecjecjgaaGreatDoor.bld
/- The library's own texts that a call comes to, as this program has them: laid on the shelf's. -/
namespace Go.Proofs.YtococaecjecjgaaGreatDoor.layT
open Go.Shelf
def rf : FuncId → FuncId
  | 129 => 217
  | 171 => 172
  | 243 => 189
  | 246 => 203
  | 283 => 208
  | 284 => 209
  | 285 => 210
  | 286 => 211
  | 317 => 216
  | 318 => 218
  | 319 => 219
  | 320 => 220
  | 337 => 224
  | 338 => 225
  | x => x
def rt : TypeId → TypeId
  | 0 => 0
  | 2 => 2
  | 3 => 3
  | 4 => 4
  | 5 => 5
  | 9 => 9
  | 20 => 20
  | 37 => 79
  | 46 => 85
  | 51 => 260
  | 53 => 102
  | 171 => 280
  | 173 => 283
  | 212 => 287
  | 213 => 288
  | 232 => 298
  | 233 => 299
  | x => x
def rg : Nat → Nat
  | 17 => 5
  | 18 => 6
  | 19 => 7
  | x => x
def ren : Ren := ⟨rf, rt, rg⟩
set_option maxRecDepth 100000 in
theorem laid : LaysM.n171 Tryz.prog ren where
  mixed := by kernel_rfl
  f129 := by kernel_rfl
  f171 := by kernel_rfl
  f243 := by kernel_rfl
  f246 := by kernel_rfl
  f283 := by kernel_rfl
  f284 := by kernel_rfl
  f285 := by kernel_rfl
  f286 := by kernel_rfl
  f317 := by kernel_rfl
  f318 := by kernel_rfl
  f319 := by kernel_rfl
  f320 := by kernel_rfl
  f337 := by kernel_rfl
  f338 := by kernel_rfl
  t0 := by kernel_rfl
  a0 := fun _ => by kernel_rfl
  z0 := fun _ => by kernel_rfl
  v0 := fun _ => by kernel_rfl
  t2 := by kernel_rfl
  a2 := fun _ => by kernel_rfl
  z2 := fun _ => by kernel_rfl
  v2 := fun _ => by kernel_rfl
  t3 := by kernel_rfl
  a3 := fun _ => by kernel_rfl
  z3 := fun _ => by kernel_rfl
  v3 := fun _ => by kernel_rfl
  t4 := by kernel_rfl
  a4 := fun _ => by kernel_rfl
  z4 := fun _ => by kernel_rfl
  v4 := fun _ => by kernel_rfl
  t5 := by kernel_rfl
  a5 := fun _ => by kernel_rfl
  z5 := fun _ => by kernel_rfl
  v5 := fun _ => by kernel_rfl
  t9 := by kernel_rfl
  a9 := fun _ => by kernel_rfl
  z9 := fun _ => by kernel_rfl
  v9 := fun _ => by kernel_rfl
  t20 := by kernel_rfl
  a20 := fun _ => by kernel_rfl
  z20 := fun _ => by kernel_rfl
  v20 := fun _ => by kernel_rfl
  t37 := by kernel_rfl
  a37 := fun _ => by kernel_rfl
  z37 := fun _ => by kernel_rfl
  v37 := fun _ => by kernel_rfl
  t46 := by kernel_rfl
  a46 := fun _ => by kernel_rfl
  z46 := fun _ => by kernel_rfl
  v46 := fun _ => by kernel_rfl
  t51 := by kernel_rfl
  a51 := fun _ => by kernel_rfl
  z51 := fun _ => by kernel_rfl
  v51 := fun _ => by kernel_rfl
  t53 := by kernel_rfl
  a53 := fun _ => by kernel_rfl
  z53 := fun _ => by kernel_rfl
  v53 := fun _ => by kernel_rfl
  t171 := by kernel_rfl
  a171 := fun _ => by kernel_rfl
  z171 := fun _ => by kernel_rfl
  v171 := fun _ => by kernel_rfl
  t173 := by kernel_rfl
  a173 := fun _ => by kernel_rfl
  z173 := fun _ => by kernel_rfl
  v173 := fun _ => by kernel_rfl
  t212 := by kernel_rfl
  a212 := fun _ => by kernel_rfl
  z212 := fun _ => by kernel_rfl
  v212 := fun _ => by kernel_rfl
  t213 := by kernel_rfl
  a213 := fun _ => by kernel_rfl
  z213 := fun _ => by kernel_rfl
  t232 := by kernel_rfl
  a232 := fun _ => by kernel_rfl
  z232 := fun _ => by kernel_rfl
  v232 := fun _ => by kernel_rfl
  t233 := by kernel_rfl
  a233 := fun _ => by kernel_rfl
  z233 := fun _ => by kernel_rfl
  v233 := fun _ => by kernel_rfl
  g17 := by kernel_rfl
  g18 := by kernel_rfl
  g19 := by kernel_rfl
  i0 := by kernel_rfl
  i2 := by kernel_rfl
  i3 := by kernel_rfl
  i4 := by kernel_rfl
  i5 := by kernel_rfl
  i9 := by kernel_rfl
  i20 := by kernel_rfl
  i37 := by kernel_rfl
  i46 := by kernel_rfl
  i51 := by kernel_rfl
  i53 := by kernel_rfl
  i171 := by kernel_rfl
  i173 := by kernel_rfl
  i212 := by kernel_rfl
  i232 := by kernel_rfl
  i233 := by kernel_rfl
  m17 := by kernel_rfl
  m18 := by kernel_rfl
  m19 := by kernel_rfl
end Go.Proofs.YtococaecjecjgaaGreatDoor.layT
/- Text of package expr. -/
namespace Go.Proofs.YtococaecjecjgaaGreatDoor.ex
set_option linter.unusedVariables false
open Go.ChangeShapes Go.WideShapes Go.ChangeAt Go.RowKit Go.Shelf
open mem lx bld

/-- An expression as text. -/
def txt : Ex → List UInt8
  | .num _ n => Lib.itoa n
  | .nam _ t => t
  | .bin _ o l r => (if top l < bd o then [40] ++ txt l ++ [41] else txt l) ++ ([32] ++ o ++ [32]) ++ (if top r < bd o + 1 then [40] ++ txt r ++ [41] else txt r)
def sdt (x : Ex) (m : Nat) : List UInt8 := if top x < m then [40] ++ txt x ++ [41] else txt x
theorem txt_bin (a : Nat) (o : List UInt8) (l r : Ex) : txt (.bin a o l r) = sdt l (bd o) ++ ([32] ++ o ++ [32]) ++ sdt r (bd o + 1) := by rw [txt]; rfl
/-- Numbers of 64 bits. -/
def Fit : Ex → Prop
  | .num _ n => -9223372036854775808 ≤ n ∧ n ≤ 9223372036854775807
  | .nam _ _ => True
  | .bin _ _ l r => Fit l ∧ Fit r
/-- The library's table of powers. -/
def Pw (w : World) : Prop := Lib.TabIs Tryz.prog w "internal/strconv.uint64pow10" .u64 Lib.pow10Tab
theorem gnP : Tryz.prog.globalNamed "internal/strconv.uint64pow10" = some 5 := by kernel_rfl
theorem Pw.below {B : Nat} {w w' : World} (h : Pw w) (hb : Below B w w') (hG : 5 < B) : Pw w' := by
  unfold Pw Lib.TabIs World.var? at h ⊢
  rw [gnP] at h ⊢
  have : w'.heap[5]? = w.heap[5]? := hb.block _ hG
  simpa [this] using h
theorem bd_typ {B b : Nat} {l : List UInt8} {w : World} (h : Bd B b l w) : ∃ c fz, w.heap[b]? = some (.cells c 81 fz) := by
  rcases h with h | h
  · obtain ⟨_, v, hc, _⟩ := h; exact ⟨_, _, hc⟩
  · obtain ⟨_, v, hc, _⟩ := h; exact ⟨_, _, hc⟩
theorem Kb.kx {B b : Nat} {l : List UInt8} {w w' : World} (h : Kb b w w') (hb : Bd B b l w) : Kx w w' := fun k cs hk => by
  refine h.same k _ hk ?_ ?_
  · intro e
    obtain ⟨c, fz, hc⟩ := bd_typ hb
    rw [e, hc] at hk
    simp at hk
  · intro c fz e
    simp at e
theorem bl_grow {w : World} (k : Nat) (os : Array Obj) : Bl w (Go.Sort.grow (w.drewN k) os) := by
  refine ⟨rfl, rfl, rfl, ?_, ?_⟩
  · show w.heap.size ≤ (w.heap ++ os).size
    simp
  · intro k hk
    show (w.heap ++ os)[k]? = _
    rw [Array.getElem?_append_left hk]
theorem Itoa_at (n : Int) (w : World) (h0 : -9223372036854775808 ≤ n) (h1 : n ≤ 9223372036854775807) (h : Pw w) : Calls Tryz.prog 172 #[.int .i64 n] w fun e w' => e = .returned (.string (tx (Lib.itoa n))) ∧ Bl w w' := by
  refine (Any.strconv_Itoa layT.laid n h0 h1 w h).mono ?_
  rintro e w' ⟨rfl, k, os, rfl⟩
  exact ⟨rfl, bl_grow k os⟩
/-- What writing does. -/
def Wrote (B b : Nat) (l t : List UInt8) (w : World) (e : Ending) (w' : World) : Prop := e = .returned (.tuple #[]) ∧ Bd B b (l ++ t) w' ∧ Below B w w' ∧ Kb b w w'
def WriteC (x : Ex) : Prop := ∀ (B b : Nat) (l : List UInt8) (v : Value) (w : World), Bd B b l w → IsX w v x → Pw w → 5 < B → Fit x → l.length + (txt x).length ≤ 100000000 →
  Calls Tryz.prog 155 #[.pointer (some ⟨b, 0, none⟩), v] w fun e w' => Wrote B b l (txt x) w e w'
def SideC (x : Ex) : Prop := ∀ (m : Nat) (B b : Nat) (l : List UInt8) (v : Value) (w : World), m ≤ 4 → Bd B b l w → IsX w v x → Pw w → 5 < B → Fit x → l.length + (sdt x m).length ≤ 100000000 →
  Calls Tryz.prog 174 #[.pointer (some ⟨b, 0, none⟩), v, .int .i64 (m : Int)] w fun e w' => Wrote B b l (sdt x m) w e w'
set_option maxRecDepth 10000 in
theorem side_of (x : Ex) (h : WriteC x) : SideC x := by
  intro m B b l v w hm hB hx hP hG hF hl
  have c1 := fun (l' : List UInt8) (wx : World) (h1 : Bd B b l' wx) (h2 : Kx w wx) (h3 : Below B w wx) (h4 : l'.length + (txt x).length ≤ 100000000) => h B b l' v wx h1 (hx.keep h2) (hP.below h3 hG) hG hF h4
  by_cases ht : top x < m
  · -- in brackets
    have hs : sdt x m = [40] ++ txt x ++ [41] := by unfold sdt; rw [if_pos ht]
    rw [hs] at hl
    simp only [List.length_append, List.length_cons, List.length_nil] at hl
    cases x with
    | num a n => exact absurd ht (by show ¬ 4 < m; omega)
    | nam a t => exact absurd ht (by show ¬ 4 < m; omega)
    | bin a o xl xr =>
      obtain ⟨xb, vl, vr, rfl, hc, _, _⟩ := hx
      have k0 : w.cell? ⟨xb, 0, none⟩ = some (.int .i64 3) := by rw [cell_of hc]; rfl
      have k4 : w.cell? ⟨xb, 4, none⟩ = some (.string (tx o)) := by rw [cell_of hc]; rfl
      have ht' : bd o < m := ht
      obtain ⟨k, hk⟩ : ∃ k, k = bd o := ⟨_, rfl⟩
      have hge : decide (m ≤ k) = false := decide_eq_false (by omega)
      have hge' : ¬ m ≤ k := by omega
      have cB := binds_at o
      rw [← hk] at cB
      have hx' : IsX w (.pointer (some ⟨xb, 0, none⟩)) (.bin a o xl xr) := ⟨_, _, _, rfl, hc, ‹_›, ‹_›⟩
      have cO := writeb_at B b l 40 40 rfl w hB (by omega)
      go_enter Tryz.func174, Tryz.ntmps174
      go_wp2_with fail
      refine (cB _).mono ?_
      rintro e w1 ⟨rfl, rfl⟩
      go_wp2_with fail
      refine cO.mono ?_
      rintro e w2 ⟨rfl, hB2, hb2, hk2⟩
      have hkx2 := Kb.kx hk2 hB
      have c2 := c1 (l ++ [40]) w2 hB2 hkx2 hb2 (by simp only [List.length_append, List.length_cons, List.length_nil]; omega)
      go_wp2_with fail
      refine c2.mono ?_
      rintro e w3 ⟨rfl, hB3, hb3, hk3⟩
      have c3 := writeb_at B b _ 41 41 rfl w3 hB3 (by simp only [List.length_append, List.length_cons, List.length_nil]; omega)
      go_wp2_with fail
      refine c3.mono ?_
      rintro e w4 ⟨rfl, hB4, hb4, hk4⟩
      go_wp2
      go_end0
      refine ⟨rfl, ?_, (hb2.trans hb3).trans hb4, (hk2.trans hk3).trans hk4⟩
      rw [hs]
      have e : l ++ ([40] ++ txt (.bin a o xl xr) ++ [41]) = l ++ [40] ++ txt (.bin a o xl xr) ++ [41] := by simp
      rw [e]
      exact hB4
  · have hs : sdt x m = txt x := by unfold sdt; rw [if_neg ht]
    rw [hs] at hl
    have c2 := c1 l w hB (Kx.bl (Bl.refl _)) (Below.refl _ _) hl
    have fin : ∀ e w', Wrote B b l (txt x) w e w' → Wrote B b l (sdt x m) w e w' := fun e w' h => by rw [hs]; exact h
    cases x with
    | num a n =>
      obtain ⟨xb, rfl, hc⟩ := hx
      have k0 : w.cell? ⟨xb, 0, none⟩ = some (.int .i64 1) := by rw [cell_of hc]; rfl
      go_enter Tryz.func174, Tryz.ntmps174
      go_wp2_with fail
      refine c2.mono ?_
      rintro e w2 ⟨rfl, hB2, hb2, hk2⟩
      go_wp2
      go_end0
      exact fin _ _ ⟨rfl, hB2, hb2, hk2⟩
    | nam a t =>
      obtain ⟨xb, rfl, hc⟩ := hx
      have k0 : w.cell? ⟨xb, 0, none⟩ = some (.int .i64 2) := by rw [cell_of hc]; rfl
      go_enter Tryz.func174, Tryz.ntmps174
      go_wp2_with fail
      refine c2.mono ?_
      rintro e w2 ⟨rfl, hB2, hb2, hk2⟩
      go_wp2
      go_end0
      exact fin _ _ ⟨rfl, hB2, hb2, hk2⟩
    | bin a o xl xr =>
      obtain ⟨xb, vl, vr, rfl, hc, _, _⟩ := hx
      have k0 : w.cell? ⟨xb, 0, none⟩ = some (.int .i64 3) := by rw [cell_of hc]; rfl
      have k4 : w.cell? ⟨xb, 4, none⟩ = some (.string (tx o)) := by rw [cell_of hc]; rfl
      have ht' : ¬ bd o < m := ht
      obtain ⟨k, hk⟩ : ∃ k, k = bd o := ⟨_, rfl⟩
      have hge : decide (m ≤ k) = true := decide_eq_true (by omega)
      have hge' : m ≤ k := by omega
      have cB := binds_at o
      rw [← hk] at cB
      clear ht ht' hk
      go_enter Tryz.func174, Tryz.ntmps174
      go_wp2_with fail
      refine (cB _).mono ?_
      rintro e w1 ⟨rfl, rfl⟩
      go_wp2_with fail
      refine c2.mono ?_
      rintro e w2 ⟨rfl, hB2, hb2, hk2⟩
      go_wp2
      go_end0
      exact fin _ _ ⟨rfl, hB2, hb2, hk2⟩
set_option maxRecDepth 10000 in
set_option maxHeartbeats 1000000 in
theorem write_of (x : Ex) : WriteC x := by
  induction x with
  | num a n =>
    intro B b l v w hB hx hP hG hF hl
    obtain ⟨xb, rfl, hc⟩ := hx
    have k0 : w.cell? ⟨xb, 0, none⟩ = some (.int .i64 1) := by rw [cell_of hc]; rfl
    have k2 : w.cell? ⟨xb, 2, none⟩ = some (.int .i64 n) := by rw [cell_of hc]; rfl
    have cI := Itoa_at n w hF.1 hF.2 hP
    have et : txt (.num a n) = Lib.itoa n := by rw [txt]
    rw [et] at hl
    go_enter Tryz.func155, Tryz.ntmps155
    go_wp2_with fail
    refine cI.mono ?_
    rintro e w1 ⟨rfl, hb1⟩
    have cW := write_at B b l (tx (Lib.itoa n)) w1 (hB.bl hb1) (by rw [tx_size]; omega)
    go_wp2_with fail
    refine cW.mono ?_
    rintro e w2 ⟨rfl, hB2, hb2, hk2⟩
    go_wp2
    go_end0
    refine ⟨rfl, ?_, (Below.mono hb1 hB.le).trans hb2, (Kb.bl hb1).trans hk2⟩
    rw [et]
    have e1 : (tx (Lib.itoa n)).data.toList = Lib.itoa n := L_tx _
    rw [e1] at hB2
    exact hB2
  | nam a t =>
    intro B b l v w hB hx hP hG hF hl
    obtain ⟨xb, rfl, hc⟩ := hx
    have k0 : w.cell? ⟨xb, 0, none⟩ = some (.int .i64 2) := by rw [cell_of hc]; rfl
    have k3 : w.cell? ⟨xb, 3, none⟩ = some (.string (tx t)) := by rw [cell_of hc]; rfl
    have et : txt (.nam a t) = t := by rw [txt]
    rw [et] at hl
    have cW := write_at B b l (tx t) w hB (by rw [tx_size]; omega)
    go_enter Tryz.func155, Tryz.ntmps155
    go_wp2_with fail
    refine cW.mono ?_
    rintro e w2 ⟨rfl, hB2, hb2, hk2⟩
    go_wp2
    go_end0
    refine ⟨rfl, ?_, hb2, hk2⟩
    rw [et]
    have e1 : (tx t).data.toList = t := L_tx _
    rw [e1] at hB2
    exact hB2
  | bin a o xl xr il ir =>
    intro B b l v w hB hx hP hG hF hl
    obtain ⟨xb, vl, vr, rfl, hc, hxl, hxr⟩ := hx
    have k0 : w.cell? ⟨xb, 0, none⟩ = some (.int .i64 3) := by rw [cell_of hc]; rfl
    have k4 : w.cell? ⟨xb, 4, none⟩ = some (.string (tx o)) := by rw [cell_of hc]; rfl
    have k5 : w.cell? ⟨xb, 5, none⟩ = some vl := by rw [cell_of hc]; rfl
    have k6 : w.cell? ⟨xb, 6, none⟩ = some vr := by rw [cell_of hc]; rfl
    have et := txt_bin a o xl xr
    rw [et] at hl
    simp only [List.length_append, List.length_cons, List.length_nil] at hl
    have hbd := bd_le o
    have cB := binds_at o
    have cL := side_of xl il (bd o) B b l vl w (by omega) hB hxl hP hG hF.1 (by omega)
    have cR := fun (l' : List UInt8) (wx : World) (h1 : Bd B b l' wx) (h2 : Kx w wx) (h3 : Below B w wx) (h4 : l'.length + (sdt xr (bd o + 1)).length ≤ 100000000) => side_of xr ir (bd o + 1) B b l' vr wx (by omega) h1 (hxr.keep h2) (hP.below h3 hG) hG hF.2 h4
    obtain ⟨vbl, rfl, _⟩ := hxl.ptr
    obtain ⟨vbr, rfl, _⟩ := hxr.ptr
    have node : ∀ wx, Kx w wx → wx.cell? ⟨xb, 4, none⟩ = some (.string (tx o)) ∧ wx.cell? ⟨xb, 6, none⟩ = some (.pointer (some ⟨vbr, 0, none⟩)) := fun wx hk => by
      have := hk xb _ hc
      exact ⟨by rw [cell_of this]; rfl, by rw [cell_of this]; rfl⟩
    obtain ⟨k, hk⟩ : ∃ k, k = bd o := ⟨_, rfl⟩
    rw [← hk] at cB cL cR hl hbd
    rw [show (((k + 1 : Nat) : Nat) : Int) = (k : Int) + 1 by omega] at cR
    have HK : Hid (k = bd o) := hk
    clear hk
    go_enter Tryz.func155, Tryz.ntmps155
    go_wp2_with fail
    refine (cB _).mono ?_
    rintro e w1 ⟨rfl, rfl⟩
    go_wp2_with fail
    refine cL.mono ?_
    rintro e w2 ⟨rfl, hB2, hb2, hk2⟩
    have hx2 := Kb.kx hk2 hB
    obtain ⟨q4, q6⟩ := node w2 hx2
    have cW := write_at B b (l ++ sdt xl k) (⟨#[32]⟩ ++ tx o ++ ⟨#[32]⟩) w2 hB2 (by simp only [List.length_append, ByteArray.size_append, tx_size]; show _ + (1 + _ + 1) ≤ _; omega)
    have hos : (tx o).size ≤ 100000000 := by rw [tx_size]; omega
    go_wp2_with fail
    refine cW.mono ?_
    rintro e w3 ⟨rfl, hB3, hb3, hk3⟩
    have e3 : (⟨#[32]⟩ ++ tx o ++ ⟨#[32]⟩ : ByteArray).data.toList = [32] ++ o ++ [32] := by simp [tx]
    rw [e3] at hB3
    have hx3 := hx2.trans (Kb.kx hk3 hB2)
    obtain ⟨r4, r6⟩ := node w3 hx3
    have c3 := cR _ w3 hB3 hx3 (hb2.trans hb3) (by simp only [List.length_append, List.length_cons, List.length_nil]; omega)
    go_wp2_with fail
    refine c3.mono ?_
    rintro e w4 ⟨rfl, hB4, hb4, hk4⟩
    go_wp2
    go_end0
    refine ⟨rfl, ?_, (hb2.trans hb3).trans hb4, (hk2.trans hk3).trans hk4⟩
    rw [et, ← HK.out]
    have e9 : l ++ (sdt xl k ++ ([32] ++ o ++ [32]) ++ sdt xr (k + 1)) = l ++ sdt xl k ++ ([32] ++ o ++ [32]) ++ sdt xr (k + 1) := by simp
    rw [e9]
    exact hB4
theorem Text_at (x : Ex) (v : Value) (w : World) (hx : IsX w v x) (hP : Pw w) (hG : 5 < w.heap.size) (hF : Fit x) (hl : (txt x).length ≤ 100000000) :
    Calls Tryz.prog 126 #[v] w fun e w' => e = .returned (.string (tx (txt x))) ∧ Bl w w' := by
  have hb0 := Bd.new w
  have hbl : Bl w (w.alloc (.cells #[.pointer none, .slice none 0 0] 81)) := (Bl.refl _).alloc _
  have cW := write_of x w.heap.size w.heap.size [] v _ hb0 (hx.keep (Kx.bl hbl)) (hP.below hbl hG) hG hF (by simpa using hl)
  go_enter Tryz.func126, Tryz.ntmps126
  go_wp2_with fail
  refine cW.mono ?_
  rintro e w2 ⟨rfl, hB2, hb2, hk2⟩
  go_wp2_with fail
  refine (string_at _ _ _ _ hB2).mono ?_
  rintro e w3 ⟨rfl, hb3, _⟩
  go_wp2
  go_ret
  exact ⟨rfl, (Below.trans hbl hb2).trans hb3⟩
end Go.Proofs.YtococaecjecjgaaGreatDoor.ex
/- Numbers as they are written are read; words of expressions. -/
namespace Go.Proofs.YtococaecjecjgaaGreatDoor.ex
set_option linter.unusedVariables false
open Go.ChangeShapes Go.WideShapes Go.ChangeAt Go.RowKit
open mem lx dig digs

theorem based_one {s t t' : ByteArray} {b b' : Int} (h : Based s t b) (h' : Based s t' b') : t = t' ∧ b = b' := by
  rcases h with ⟨h1, rfl, rfl⟩ | ⟨h1, h2, rfl, rfl⟩ | ⟨h1, h2, rfl, rfl⟩ <;> rcases h' with ⟨g1, rfl, rfl⟩ | ⟨g1, g2, rfl, rfl⟩ | ⟨g1, g2, rfl, rfl⟩ <;> simp_all
theorem parsed_one {b : Int} {s : ByteArray} {v v' : Nat} {e e' : Int} (h : Parsed b s v e) (h' : Parsed b s v' e') : v = v' ∧ e = e' := by
  rcases h with ⟨h1, rfl, rfl⟩ | ⟨h1, h2, rfl, rfl⟩ | ⟨h1, h2, h3, rfl, rfl⟩ | ⟨h1, h2, h3, rfl, rfl⟩ <;> rcases h' with ⟨g1, rfl, rfl⟩ | ⟨g1, g2, rfl, rfl⟩ | ⟨g1, g2, g3, rfl, rfl⟩ | ⟨g1, g2, g3, rfl, rfl⟩ <;> first | exact ⟨rfl, rfl⟩ | exact absurd h1 g1 | exact absurd g1 h1 | exact absurd g2 h2 | exact absurd h2 g2 | omega
theorem told_one {n : Bool} {v : Nat} {f m m' e e' : Int} (h : digs.Told n v f m e) (h' : digs.Told n v f m' e') : m = m' ∧ e = e' := by
  rcases h with ⟨h1, rfl, rfl⟩ | ⟨h1, h2, rfl, rfl⟩ | ⟨h1, h2, h3, rfl, rfl⟩ <;> rcases h' with ⟨g1, rfl, rfl⟩ | ⟨g1, g2, rfl, rfl⟩ | ⟨g1, g2, g3, rfl, rfl⟩ <;> first | exact ⟨rfl, rfl⟩ | exact absurd h1 g1 | exact absurd g1 h1 | (exfalso; cases n <;> simp_all <;> omega)
theorem numbered_one {s : ByteArray} {m m' e e' : Int} (h : Numbered s m e) (h' : Numbered s m' e') : m = m' ∧ e = e' := by
  obtain ⟨n, t, b, v, f, h1, h2, h3, h4⟩ := h
  obtain ⟨n', t', b', v', f', g1, g2, g3, g4⟩ := h'
  obtain rfl : n = n' := h1.symm.trans g1
  obtain ⟨rfl, rfl⟩ := based_one h2 g2
  obtain ⟨rfl, rfl⟩ := parsed_one h3 g3
  exact told_one h4 g4
theorem nb_eq {t : List UInt8} {m e : Int} (h : Numbered (tx t) m e) : nb t = (m, e) := by
  obtain ⟨h1, h2⟩ := numbered_one (nb_is t) h
  exact Prod.ext h1 h2
/-- What digits come to. -/
theorem pv_snoc (l : List UInt8) (c : UInt8) : ∀ k, k ≤ l.length → pv 10 (tx (l ++ [c])) k = pv 10 (tx l) k := by
  intro k
  induction k with
  | zero => intro _; rfl
  | succ k ih =>
    intro hk
    have e : dig.sb (tx (l ++ [c])) k = dig.sb (tx l) k := by
      unfold dig.sb tx
      simp only [List.getD_eq_getElem?_getD]
      rw [List.getElem?_append_left (by omega)]
    rw [pv, pv, ih (by omega), e]
theorem sb_last (l : List UInt8) (c : UInt8) : dig.sb (tx (l ++ [c])) l.length = (c.toNat : Int) := by
  unfold dig.sb tx
  simp
theorem dd_all (u : Nat) : (∀ c ∈ Lib.decDigits u, ∃ k, k < 10 ∧ c = UInt8.ofNat (48 + k)) ∧ Lib.decDigits u ≠ [] := by
  induction u using Nat.strongRecOn with
  | _ u ih =>
    rw [Lib.decDigits]
    split
    · rename_i h
      exact ⟨fun c hc => ⟨u, h, by simpa using hc⟩, by simp⟩
    · rename_i h
      obtain ⟨i1, i2⟩ := ih (u / 10) (by omega)
      refine ⟨fun c hc => ?_, by simp⟩
      rw [List.mem_append] at hc
      rcases hc with hc | hc
      · exact i1 c hc
      · exact ⟨u % 10, by omega, by simpa using hc⟩
theorem ch_toNat (k : Nat) (h : k < 10) : ((UInt8.ofNat (48 + k)).toNat : Int) = 48 + (k : Int) := by
  simp [UInt8.toNat_ofNat]
  omega
theorem dv_digit (k : Nat) (h : k < 10) : dv (48 + (k : Int)) = (k : Int) := by
  unfold dv
  rw [if_pos (by omega)]
  omega
theorem pv_one (c : UInt8) (k : Nat) (hk : k < 10) (hc : (c.toNat : Int) = 48 + (k : Int)) : pv 10 (tx [c]) 1 = k := by
  have h := sb_last [] c
  rw [show ([] : List UInt8).length = 0 from rfl, List.nil_append] at h
  rw [pv, pv, h, hc, dv_digit k hk]
  simp
theorem pv_more (l : List UInt8) (c : UInt8) (k : Nat) (hk : k < 10) (hc : (c.toNat : Int) = 48 + (k : Int)) : pv 10 (tx (l ++ [c])) (l.length + 1) = pv 10 (tx l) l.length * 10 + k := by
  rw [pv, pv_snoc _ _ _ (Nat.le_refl _), sb_last, hc, dv_digit k hk]
  simp
theorem dd_val (u : Nat) : pv 10 (tx (Lib.decDigits u)) (Lib.decDigits u).length = u := by
  induction u using Nat.strongRecOn with
  | _ u ih =>
    by_cases h : u < 10
    · have e : Lib.decDigits u = [UInt8.ofNat (48 + u)] := by rw [Lib.decDigits, dif_pos h]
      have hc := ch_toNat u h
      rw [e]
      generalize UInt8.ofNat (48 + u) = c at hc ⊢
      exact pv_one c u h hc
    · have e : Lib.decDigits u = Lib.decDigits (u / 10) ++ [UInt8.ofNat (48 + u % 10)] := by rw [Lib.decDigits, dif_neg h]
      have hc := ch_toNat (u % 10) (by omega)
      have hi := ih (u / 10) (by omega)
      rw [e]
      generalize UInt8.ofNat (48 + u % 10) = c at hc ⊢
      rw [List.length_append, show ([c] : List UInt8).length = 1 from rfl, pv_more _ c (u % 10) (by omega) hc, hi]
      omega
theorem dd_ok (u : Nat) : okD 10 (tx (Lib.decDigits u)) := by
  obtain ⟨h1, h2⟩ := dd_all u
  refine ⟨?_, fun i hi => ?_⟩
  · rw [tx_size]
    exact List.length_pos_iff.2 h2
  · rw [tx_size] at hi
    obtain ⟨k, hk, e⟩ := h1 _ (List.getElem_mem hi)
    have : dig.sb (tx (Lib.decDigits u)) i = 48 + (k : Int) := by
      unfold dig.sb tx
      simp only [List.getD_eq_getElem?_getD]
      rw [List.getElem?_eq_getElem hi, e]
      exact ch_toNat k hk
    rw [this, dv_digit k hk]
    omega
theorem dd_head (u : Nat) : ∃ k r, k < 10 ∧ Lib.decDigits u = UInt8.ofNat (48 + k) :: r ∧ (r ≠ [] → k ≠ 0) := by
  induction u using Nat.strongRecOn with
  | _ u ih =>
    by_cases h : u < 10
    · exact ⟨u, [], h, by rw [Lib.decDigits, dif_pos h], fun h => absurd rfl h⟩
    · have e : Lib.decDigits u = Lib.decDigits (u / 10) ++ [UInt8.ofNat (48 + u % 10)] := by rw [Lib.decDigits, dif_neg h]
      obtain ⟨k, r, h1, h2, h3⟩ := ih (u / 10) (by omega)
      refine ⟨k, r ++ [UInt8.ofNat (48 + u % 10)], h1, by rw [e, h2]; rfl, fun _ => ?_⟩
      cases r with
      | cons c r => exact h3 (by simp)
      | nil =>
        rintro rfl
        have hv := dd_val (u / 10)
        rw [h2, show ([UInt8.ofNat (48 + 0)] : List UInt8).length = 1 from rfl, pv_one _ 0 (by omega) (ch_toNat 0 (by omega))] at hv
        omega
theorem dg_digit (k : Nat) (h : k < 10) : isD (UInt8.ofNat (48 + k)) = true ∧ isL (UInt8.ofNat (48 + k)) = false := by
  have key : ∀ k : Fin 10, isD (UInt8.ofNat (48 + k.1)) = true ∧ isL (UInt8.ofNat (48 + k.1)) = false := by decide
  exact key ⟨k, h⟩
theorem pre_false (s : ByteArray) (p : ByteArray) (h : ∀ c, s.data.toList.head? = some c → p.data.toList.head? ≠ some c) (hp : 0 < p.size) : pre s p = false := by
  unfold pre
  by_cases hs : p.size ≤ s.size
  · rw [decide_eq_true hs, Bool.true_and, beq_eq_false_iff_ne]
    intro e
    rw [ByteArray.toList_eq, ByteArray.toList_eq] at e
    have e1 : (s.extract 0 p.size).data.toList = s.data.toList.take p.size := by simp [ByteArray.data_extract]
    rw [e1] at e
    cases hl : s.data.toList with
    | nil =>
      have : s.size = 0 := by
        have := congrArg List.length hl
        simpa using this
      omega
    | cons c r =>
      refine h c (by rw [hl]; rfl) ?_
      rw [← e, hl]
      cases hz : p.size with
      | zero => omega
      | succ z => rfl
  · rw [decide_eq_false hs]; rfl
theorem itoa_pos (n : Int) (h : 0 ≤ n) : Lib.itoa n = Lib.decDigits n.toNat := by unfold Lib.itoa; rw [if_neg (by omega)]
/-- AS IT IS WRITTEN A NUMBER IS READ. -/
theorem nb_itoa (n : Int) (h0 : 0 ≤ n) (h1 : n < 9223372036854775808) : isN (Lib.itoa n) = false ∧ isU (Lib.itoa n) = true ∧ nb (Lib.itoa n) = (n, 0) ∧ (∀ c ∈ Lib.itoa n, isW c = true) ∧ Lib.itoa n ≠ [] := by
  rw [itoa_pos n h0]
  obtain ⟨k, r, hk, e, hz⟩ := dd_head n.toNat
  obtain ⟨d1, d2⟩ := dg_digit k hk
  refine ⟨by rw [e]; exact d2, by rw [e]; exact d1, ?_, ?_, (dd_all _).2⟩
  · apply nb_eq
    have hpm : pre (tx (Lib.decDigits n.toNat)) pm = false := by
      refine pre_false _ _ (fun c hc => ?_) (by decide)
      show (some 45 : Option UInt8) ≠ some c
      rw [show (tx (Lib.decDigits n.toNat)).data.toList = Lib.decDigits n.toNat from L_tx _, e] at hc
      intro e2
      injection e2 with e2
      injection hc with hc
      rw [← hc] at e2
      have : ((45 : UInt8).toNat : Int) = ((UInt8.ofNat (48 + k)).toNat : Int) := by rw [e2]
      rw [ch_toNat k hk] at this
      have h45 : ((45 : UInt8).toNat : Int) = 45 := rfl
      omega
    have hno : ∀ (c2 : UInt8), isD c2 = false → pre (tx (Lib.decDigits n.toNat)) (tx [48, c2]) = false := by
      intro c2 hc2
      unfold pre
      by_cases hs : (tx [48, c2]).size ≤ (tx (Lib.decDigits n.toNat)).size
      · rw [decide_eq_true hs, Bool.true_and, beq_eq_false_iff_ne]
        intro e2
        rw [ByteArray.toList_eq, ByteArray.toList_eq] at e2
        have e1 : ((tx (Lib.decDigits n.toNat)).extract 0 (tx [48, c2]).size).data.toList = (Lib.decDigits n.toNat).take 2 := by
          simp [ByteArray.data_extract, tx]
          rfl
        have e3 : (tx [48, c2]).data.toList = [48, c2] := L_tx _
        rw [e1, e3, e] at e2
        cases r with
        | nil => simp at e2
        | cons c r =>
          simp at e2
          obtain ⟨k', hk', ek⟩ := (dd_all n.toNat).1 c (by rw [e]; simp)
          have := (dg_digit k' hk').1
          rw [← ek, e2.2, hc2] at this
          cases this
      · rw [decide_eq_false hs]; rfl
    refine ⟨false, _, 10, n.toNat, 0, hpm, Or.inr (Or.inr ⟨hno 120 (by decide), hno 98 (by decide), rfl, rfl⟩), Or.inr (Or.inr (Or.inr ⟨by unfold okB; omega, dd_ok _, ?_, ?_, rfl⟩)), Or.inr (Or.inr ⟨rfl, by omega, by omega, ?_, rfl⟩)⟩
    · show pv 10 (tx _) (tx _).size < _
      rw [tx_size, dd_val]; omega
    · show n.toNat = pv 10 (tx _) (tx _).size
      rw [tx_size, dd_val]
    · simp; omega
  · intro c hc
    obtain ⟨k', hk', rfl⟩ := (dd_all n.toNat).1 c hc
    unfold isW
    rw [(dg_digit k' hk').1]
    simp
/-- A number that is read is from 0 on. -/
theorem nb_range (t : List UInt8) (h : isU t = true) (h0 : (nb t).2 = 0) : 0 ≤ (nb t).1 ∧ (nb t).1 < 9223372036854775808 := by
  have hn := nb_is t
  obtain ⟨n, t', b, v, f, h1, h2, h3, h4⟩ := hn
  have hpm : pre (tx t) pm = false := by
    refine pre_false _ _ (fun c hc => ?_) (by decide)
    show (some 45 : Option UInt8) ≠ some c
    rw [show (tx t).data.toList = t from L_tx _] at hc
    intro e2
    injection e2 with e2
    unfold isU at h
    rw [hc, ← e2] at h
    revert h; decide
  rw [hpm] at h1
  subst h1
  rw [h0] at h4
  rcases h4 with ⟨g1, _, g3⟩ | ⟨_, _, _, g4⟩ | ⟨_, g2, g3, g4, _⟩
  · exact absurd g3.symm g1
  · omega
  · rw [g4]
    have : v ≠ 9223372036854775808 := fun e => by have := g3 e; cases this
    simp
    omega
end Go.Proofs.YtococaecjecjgaaGreatDoor.ex
/- Expressions, written, are read: the whole way. -/
namespace Go.Proofs.YtococaecjecjgaaGreatDoor.ex
set_option linter.unusedVariables false
open Go.RowKit
open mem lx

theorem told_hdec : ∀ t, isU t = true → (nb t).2 = 0 → isN (Lib.itoa (nb t).1) = false ∧ isU (Lib.itoa (nb t).1) = true ∧ nb (Lib.itoa (nb t).1) = ((nb t).1, 0) := fun t h h0 => by
  obtain ⟨h1, h2⟩ := nb_range t h h0
  obtain ⟨a, b, c, _⟩ := nb_itoa _ h1 h2
  exact ⟨a, b, c⟩
/-- What reading tells, besides: names are words, numbers are from 0 on; how many parts there are. -/
def Nw : Ex → Prop
  | .num _ n => 0 ≤ n ∧ n < 9223372036854775808
  | .nam _ t => (∀ c ∈ t, isW c = true) ∧ t ≠ [] ∧ t.length ≤ 12
  | .bin _ _ l r => Nw l ∧ Nw r
def sz : Ex → Nat
  | .num _ _ => 1
  | .nam _ _ => 1
  | .bin _ _ l r => sz l + sz r + 1
theorem word_of {t : List UInt8} (h : IsT t) (hn : isN t = true) : (∀ c ∈ t, isW c = true) ∧ t ≠ [] := by
  rcases h with ⟨h1, h2⟩ | ⟨c, rfl, hc⟩ | rfl | rfl
  · exact ⟨h2, h1⟩
  · exfalso
    have h3 := (isM_not c (Or.inl hc)).2.2
    have h4 : isL c = true := hn
    unfold isW at h3
    rw [h4] at h3
    cases h3
  · revert hn; decide
  · revert hn; decide
theorem nw_all {en : Nat} (f : Nat) :
    (∀ m d ts x r, (∀ t ∈ ts, IsT t.t) → row nb en f m d ts = some (.ok (x, r)) → Nw x ∧ sz x + r.length ≤ ts.length) ∧
    (∀ m d y ts x r, (∀ t ∈ ts, IsT t.t) → Nw y → lp nb en f m d y ts = some (.ok (x, r)) → Nw x ∧ sz x + r.length ≤ sz y + ts.length) ∧
    (∀ d ts x r, (∀ t ∈ ts, IsT t.t) → one nb en f d ts = some (.ok (x, r)) → Nw x ∧ sz x + r.length ≤ ts.length) := by
  induction f with
  | zero => exact ⟨fun _ _ _ _ _ _ h => by simp [row] at h, fun _ _ _ _ _ _ _ _ h => by simp [lp] at h, fun _ _ _ _ _ h => by simp [one] at h⟩
  | succ f ih =>
    obtain ⟨i1, i2, i3⟩ := ih
    obtain ⟨m1, m2, m3⟩ := mem_all (en := en) f
    refine ⟨?_, ?_, ?_⟩
    · intro m d ts x r hT h
      by_cases hm : 3 < m
      · rw [row_top _ _ _ _ hm] at h
        exact i3 _ _ _ _ hT h
      · rw [row_low _ _ _ _ hm] at h
        split at h
        · cases h
        · cases h
        · rename_i y r' hr
          obtain ⟨g1, g2⟩ := i1 _ _ _ _ _ hT hr
          obtain ⟨g3, g4⟩ := i2 _ _ _ _ _ _ (fun t ht => hT t (m1 _ _ _ _ _ hr t ht)) g1 h
          exact ⟨g3, by omega⟩
    · intro m d y ts x r hT hy h
      cases ts with
      | nil =>
        simp only [lp, Option.some.injEq, Except.ok.injEq, Prod.mk.injEq] at h
        obtain ⟨rfl, rfl⟩ := h
        exact ⟨hy, Nat.le_refl _⟩
      | cons t ts =>
        rw [lp] at h
        split at h
        · split at h
          · cases h
          · cases h
          · rename_i z r' hr
            have hT' : ∀ t ∈ ts, IsT t.t := fun u hu => hT u (List.mem_cons_of_mem _ hu)
            obtain ⟨g1, g2⟩ := i1 _ _ _ _ _ hT' hr
            obtain ⟨g3, g4⟩ := i2 _ _ _ _ _ _ (fun u hu => hT' u (m1 _ _ _ _ _ hr u hu)) (show Nw (.bin t.a t.t y z) from ⟨hy, g1⟩) h
            refine ⟨g3, ?_⟩
            have : sz (.bin t.a t.t y z) = sz y + sz z + 1 := by rw [sz]
            simp only [List.length_cons]
            omega
        · simp only [Option.some.injEq, Except.ok.injEq, Prod.mk.injEq] at h
          obtain ⟨rfl, rfl⟩ := h
          exact ⟨hy, Nat.le_refl _⟩
    · intro d ts x r hT h
      cases ts with
      | nil => simp [one] at h
      | cons t ts =>
        have hT' : ∀ t ∈ ts, IsT t.t := fun u hu => hT u (List.mem_cons_of_mem _ hu)
        rw [one] at h
        split at h
        · rename_i hN
          split at h
          · simp at h
          · rename_i h12
            simp at h
            obtain ⟨rfl, rfl⟩ := h
            obtain ⟨w1, w2⟩ := word_of (hT t (by simp)) hN
            exact ⟨⟨w1, w2, by omega⟩, by rw [sz]; simp; omega⟩
        · split at h
          · rename_i hU
            split at h
            · rename_i h0
              simp at h
              obtain ⟨rfl, rfl⟩ := h
              exact ⟨nb_range _ hU h0, by rw [sz]; simp; omega⟩
            · simp at h
          · split at h
            · split at h
              · simp at h
              · split at h
                · cases h
                · cases h
                · rename_i z r' hr
                  obtain ⟨g1, g2⟩ := i1 _ _ _ _ _ hT' hr
                  split at h
                  · simp at h
                    obtain ⟨rfl, rfl⟩ := h
                    refine ⟨g1, ?_⟩
                    rw [List.length_tail]
                    simp only [List.length_cons]
                    omega
                  · simp at h
            · simp at h
theorem dd_len (u k : Nat) (h : u < 10 ^ (k + 1)) : (Lib.decDigits u).length ≤ k + 1 := by
  induction k generalizing u with
  | zero =>
    have : u < 10 := by simpa using h
    rw [Lib.decDigits, dif_pos this]
    simp
  | succ k ih =>
    by_cases h10 : u < 10
    · rw [Lib.decDigits, dif_pos h10]; simp
    · rw [Lib.decDigits, dif_neg h10, List.length_append]
      have := ih (u / 10) (by rw [Nat.div_lt_iff_lt_mul (by omega)]; rw [Nat.pow_succ] at h; exact h)
      simp
      omega
theorem bd_cases {o : List UInt8} (h : 0 < bd o) : o = [61, 61] ∨ o = [33, 61] ∨ o = [60] ∨ o = [62] ∨ o = [43] ∨ o = [45] ∨ o = [124] ∨ o = [42] ∨ o = [38] := by
  unfold bd at h
  split at h
  · rename_i h1; rcases h1 with h1 | h1 | h1 | h1 <;> simp [h1]
  · split at h
    · rename_i h1; rcases h1 with h1 | h1 | h1 <;> simp [h1]
    · split at h
      · rename_i h1; rcases h1 with h1 | h1 <;> simp [h1]
      · omega
theorem bd_len {o : List UInt8} (h : 0 < bd o) : o.length ≤ 2 := by
  rcases bd_cases h with rfl | rfl | rfl | rfl | rfl | rfl | rfl | rfl | rfl <;> simp
theorem mark_tok (c : UInt8) (h1 : isM c = true) (h2 : isW c = false) (h3 : c ≠ 61) : IsT [c] ∧ ¬ (∀ d ∈ [c], isW d = true) ∧ [c] ≠ [61] := by
  refine ⟨Or.inr (Or.inl ⟨c, rfl, h1⟩), fun h => ?_, by simpa using h3⟩
  have := h c (by simp)
  rw [h2] at this
  cases this
theorem bd_tok {o : List UInt8} (h : 0 < bd o) : IsT o ∧ ¬ (∀ c ∈ o, isW c = true) ∧ o ≠ [61] := by
  rcases bd_cases h with rfl | rfl | rfl | rfl | rfl | rfl | rfl | rfl | rfl
  · exact ⟨Or.inr (Or.inr (Or.inl rfl)), by decide, by decide⟩
  · exact ⟨Or.inr (Or.inr (Or.inr rfl)), by decide, by decide⟩
  all_goals exact mark_tok _ (by decide) (by decide) (by decide)
theorem txt_len {x : Ex} (h : Nw x) (ho : Okb x) : (txt x).length + 10 ≤ 40 * sz x := by
  induction x with
  | num a n =>
    rw [txt, itoa_pos n h.1, show sz (.num a n) = 1 by rw [sz]]
    have := dd_len n.toNat 19 (by have := h.2; omega)
    omega
  | nam a t =>
    rw [txt, show sz (.nam a t) = 1 by rw [sz]]
    have := h.2.2
    omega
  | bin a o l r il ir =>
    have h1 := il h.1 ho.2.1
    have h2 := ir h.2 ho.2.2
    have h5 := bd_len ho.1
    rw [txt_bin, show sz (.bin a o l r) = sz l + sz r + 1 by rw [sz]]
    have hs : ∀ (x : Ex) (m : Nat), (sdt x m).length ≤ (txt x).length + 2 := fun x m => by unfold sdt; split <;> simp
    have h3 := hs l (bd o)
    have h4 := hs r (bd o + 1)
    simp only [List.length_append, List.length_cons, List.length_nil]
    omega
/-- The same, wherever it stands. -/
theorem Sm.txt {x y : Ex} (h : Sm x y) : txt y = txt x ∧ top y = top x := by
  induction h with
  | num a b k => exact ⟨by rw [ex.txt, ex.txt], rfl⟩
  | nam a b t => exact ⟨by rw [ex.txt, ex.txt], rfl⟩
  | bin a b o l l' r r' _ _ il ir =>
    refine ⟨?_, rfl⟩
    rw [txt_bin, txt_bin]
    unfold sdt
    rw [il.1, il.2, ir.1, ir.2]
theorem Sm.okb {x y : Ex} (h : Sm x y) (hx : Okb x) : Okb y := by
  induction h with
  | num a b k => trivial
  | nam a b t => exact hx
  | bin a b o l l' r r' _ _ il ir => exact ⟨hx.1, il hx.2.1, ir hx.2.2⟩
/-- Alike, but for the place. -/
def Eqv (p q : Except Nat Int) : Prop := (∃ n, p = .ok n ∧ q = .ok n) ∨ ∃ a b, p = .error a ∧ q = .error b
theorem Sm.ev {env : List UInt8 → Option Int} {x y : Ex} (h : Sm x y) : Eqv (ev env x) (ev env y) := by
  induction h with
  | num a b k => exact Or.inl ⟨k, by rw [ex.ev], by rw [ex.ev]⟩
  | nam a b t =>
    rw [ex.ev, ex.ev]
    cases env t with
    | some n => exact Or.inl ⟨n, rfl, rfl⟩
    | none => exact Or.inr ⟨a, b, rfl, rfl⟩
  | bin a b o l l' r r' _ _ il ir =>
    rw [ex.ev, ex.ev]
    rcases il with ⟨n, h1, h2⟩ | ⟨p, q, h1, h2⟩
    · rw [h1, h2]
      rcases ir with ⟨k, g1, g2⟩ | ⟨p, q, g1, g2⟩
      · rw [g1, g2]; exact Or.inl ⟨_, rfl, rfl⟩
      · rw [g1, g2]; exact Or.inr ⟨_, _, rfl, rfl⟩
    · rw [h1, h2]; exact Or.inr ⟨_, _, rfl, rfl⟩
theorem Wf.okb {x : Ex} (h : Wf (nb := nb) Lib.itoa x) : Okb x := by
  induction x with
  | num a n => trivial
  | nam a t => have := h.2; show t.length ≤ 3000; omega
  | bin a o l r il ir => exact ⟨h.1, il h.2.1, ir h.2.2⟩
/-- THE TOKENS OF WHAT IS WRITTEN. -/
def Cut (t : List UInt8) (l : List (List UInt8)) : Prop := ∀ (y : List UInt8) (a : Nat), (∀ c, y.head? = some c → isW c = false) → ∃ us : List Tk, us.map Tk.t = l ∧ lx (t ++ y) a = (us ++ (lx y (a + t.length)).1, (lx y (a + t.length)).2)
theorem Cut.side {x : Ex} (h : Cut (txt x) (tk Lib.itoa x)) (m : Nat) : Cut (sdt x m) (sk Lib.itoa x m) := by
  unfold sdt sk
  by_cases ht : top x < m
  · rw [if_pos ht, if_pos ht]
    intro y a hy
    obtain ⟨us, h1, h2⟩ := h ([41] ++ y) (a + 1) (fun c hc => by simp at hc; rw [← hc]; decide)
    have e1 : [40] ++ txt x ++ [41] ++ y = [40] ++ (txt x ++ ([41] ++ y)) := by simp
    have e2 := lx_app [40] (txt x ++ ([41] ++ y)) a (Or.inr (Or.inl ⟨40, rfl, by decide⟩)) (fun h => absurd h (by decide)) (fun h => absurd h (by decide))
    have e3 := lx_app [41] y (a + 1 + (txt x).length) (Or.inr (Or.inl ⟨41, rfl, by decide⟩)) (fun h => absurd h (by decide)) (fun h => absurd h (by decide))
    refine ⟨⟨[40], a⟩ :: us ++ [⟨[41], a + 1 + (txt x).length⟩], by simp [h1], ?_⟩
    rw [e1, e2]
    rw [show ([40] : List UInt8).length = 1 from rfl, h2, e3]
    have e4 : a + 1 + (txt x).length + ([41] : List UInt8).length = a + ([40] ++ txt x ++ [41]).length := by simp; omega
    rw [e4]
    simp
  · rw [if_neg ht, if_neg ht]
    exact h
theorem cut_word {t : List UInt8} (h1 : ∀ c ∈ t, isW c = true) (h2 : t ≠ []) : Cut t [t] := by
  intro y a hy
  refine ⟨[⟨t, a⟩], rfl, ?_⟩
  rw [lx_app t y a (Or.inl ⟨h2, h1⟩) (fun _ => hy) (fun e => by
    subst e
    exact absurd (h1 61 (by simp)) (by decide))]
  rfl
theorem cut_txt {x : Ex} (h : Nw x) (ho : Okb x) : Cut (txt x) (tk Lib.itoa x) := by
  induction x with
  | num a n =>
    obtain ⟨_, _, _, w1, w2⟩ := nb_itoa n h.1 h.2
    rw [ex.txt, tk]
    exact cut_word w1 w2
  | nam a t =>
    rw [ex.txt, tk]
    exact cut_word h.1 h.2.1
  | bin a o l r il ir =>
    have cl := (il h.1 ho.2.1).side (bd o)
    have cr := (ir h.2 ho.2.2).side (bd o + 1)
    obtain ⟨b1, b2, b3⟩ := bd_tok ho.1
    rw [txt_bin, tk_bin]
    intro y p hy
    obtain ⟨us, u1, u2⟩ := cl ([32] ++ (o ++ ([32] ++ (sdt r (bd o + 1) ++ y)))) p (fun c hc => by simp at hc; rw [← hc]; decide)
    obtain ⟨vs, v1, v2⟩ := cr y (p + (sdt l (bd o)).length + 1 + o.length + 1) hy
    have e1 : sdt l (bd o) ++ ([32] ++ o ++ [32]) ++ sdt r (bd o + 1) ++ y = sdt l (bd o) ++ ([32] ++ (o ++ ([32] ++ (sdt r (bd o + 1) ++ y)))) := by simp
    have e2 : lx ([32] ++ (o ++ ([32] ++ (sdt r (bd o + 1) ++ y)))) (p + (sdt l (bd o)).length) = lx (o ++ ([32] ++ (sdt r (bd o + 1) ++ y))) (p + (sdt l (bd o)).length + 1) := lx_blank 32 _ _ rfl
    have e3 := lx_app o ([32] ++ (sdt r (bd o + 1) ++ y)) (p + (sdt l (bd o)).length + 1) b1 (fun h => absurd h b2) (fun h => absurd h b3)
    have e4 : lx ([32] ++ (sdt r (bd o + 1) ++ y)) (p + (sdt l (bd o)).length + 1 + o.length) = lx (sdt r (bd o + 1) ++ y) (p + (sdt l (bd o)).length + 1 + o.length + 1) := lx_blank 32 _ _ rfl
    refine ⟨us ++ ⟨o, p + (sdt l (bd o)).length + 1⟩ :: vs, by simp [u1, v1], ?_⟩
    rw [e1, u2, e2, e3, e4, v2]
    have e5 : p + (sdt l (bd o)).length + 1 + o.length + 1 + (sdt r (bd o + 1)).length = p + (sdt l (bd o) ++ ([32] ++ o ++ [32]) ++ sdt r (bd o + 1)).length := by simp; omega
    rw [e5]
    simp
end Go.Proofs.YtococaecjecjgaaGreatDoor.ex
