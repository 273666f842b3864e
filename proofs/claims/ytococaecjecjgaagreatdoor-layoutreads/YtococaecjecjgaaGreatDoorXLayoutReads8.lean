/- Texts laid together: LayT, Ex6, Ex9, ExT, ExU. -/
import Derived.Test.YtococaecjecjgaaGreatDoorChecked
import Derived.Shelf.Strconv.Itoa3
import Derived.Test.YtococaecjecjgaaGreatDoorXLayoutReads6
import Derived.Test.YtococaecjecjgaaGreatDoorXLayoutReads7
/- The library's own texts that a call comes to, as this program has them: laid on the shelf's. -/
namespace Go.Proofs.YtococaecjecjgaaGreatDoor.layT
open Go.Shelf
def rf : FuncId → FuncId
  | 129 => 217
  | 171 => 172
  | 243 => 189
  | 246 => 203
  | 283 => 208
  | 284 => 209
  | 285 => 210
  | 286 => 211
  | 317 => 216
  | 318 => 218
  | 319 => 219
  | 320 => 220
  | 337 => 224
  | 338 => 225
  | x => x
def rt : TypeId → TypeId
  | 0 => 0
  | 2 => 2
  | 3 => 3
  | 4 => 4
  | 5 => 5
  | 9 => 9
  | 20 => 20
  | 37 => 79
  | 46 => 85
  | 51 => 260
  | 53 => 102
  | 171 => 280
  | 173 => 283
  | 212 => 287
  | 213 => 288
  | 232 => 298
  | 233 => 299
  | x => x
def rg : Nat → Nat
  | 17 => 5
  | 18 => 6
  | 19 => 7
  | x => x
def ren : Ren := ⟨rf, rt, rg⟩
set_option maxRecDepth 100000 in
theorem laid : LaysM.n171 Tryz.prog ren where
  mixed := by kernel_rfl
  f129 := by kernel_rfl
  f171 := by kernel_rfl
  f243 := by kernel_rfl
  f246 := by kernel_rfl
  f283 := by kernel_rfl
  f284 := by kernel_rfl
  f285 := by kernel_rfl
  f286 := by kernel_rfl
  f317 := by kernel_rfl
  f318 := by kernel_rfl
  f319 := by kernel_rfl
  f320 := by kernel_rfl
  f337 := by kernel_rfl
  f338 := by kernel_rfl
  t0 := by kernel_rfl
  a0 := fun _ => by kernel_rfl
  z0 := fun _ => by kernel_rfl
  v0 := fun _ => by kernel_rfl
  t2 := by kernel_rfl
  a2 := fun _ => by kernel_rfl
  z2 := fun _ => by kernel_rfl
  v2 := fun _ => by kernel_rfl
  t3 := by kernel_rfl
  a3 := fun _ => by kernel_rfl
  z3 := fun _ => by kernel_rfl
  v3 := fun _ => by kernel_rfl
  t4 := by kernel_rfl
  a4 := fun _ => by kernel_rfl
  z4 := fun _ => by kernel_rfl
  v4 := fun _ => by kernel_rfl
  t5 := by kernel_rfl
  a5 := fun _ => by kernel_rfl
  z5 := fun _ => by kernel_rfl
  v5 := fun _ => by kernel_rfl
  t9 := by kernel_rfl
  a9 := fun _ => by kernel_rfl
  z9 := fun _ => by kernel_rfl
  v9 := fun _ => by kernel_rfl
  t20 := by kernel_rfl
  a20 := fun _ => by kernel_rfl
  z20 := fun _ => by kernel_rfl
  v20 := fun _ => by kernel_rfl
  t37 := by kernel_rfl
  a37 := fun _ => by kernel_rfl
  z37 := fun _ => by kernel_rfl
  v37 := fun _ => by kernel_rfl
  t46 := by kernel_rfl
  a46 := fun _ => by kernel_rfl
  z46 := fun _ => by kernel_rfl
  v46 := fun _ => by kernel_rfl
  t51 := by kernel_rfl
  a51 := fun _ => by kernel_rfl
  z51 := fun _ => by kernel_rfl
  v51 := fun _ => by kernel_rfl
  t53 := by kernel_rfl
  a53 := fun _ => by kernel_rfl
  z53 := fun _ => by kernel_rfl
  v53 := fun _ => by kernel_rfl
  t171 := by kernel_rfl
  a171 := fun _ => by kernel_rfl
  z171 := fun _ => by kernel_rfl
  v171 := fun _ => by kernel_rfl
  t173 := by kernel_rfl
  a173 := fun _ => by kernel_rfl
  z173 := fun _ => by kernel_rfl
  v173 := fun _ => by kernel_rfl
  t212 := by kernel_rfl
  a212 := fun _ => by kernel_rfl
  z212 := fun _ => by kernel_rfl
  v212 := fun _ => by kernel_rfl
  t213 := by kernel_rfl
  a213 := fun _ => by kernel_rfl
  z213 := fun _ => by kernel_rfl
  t232 := by kernel_rfl
  a232 := fun _ => by kernel_rfl
  z232 := fun _ => by kernel_rfl
  v232 := fun _ => by kernel_rfl
  t233 := by kernel_rfl
  a233 := fun _ => by kernel_rfl
  z233 := fun _ => by kernel_rfl
  v233 := fun _ => by kernel_rfl
  g17 := by kernel_rfl
  g18 := by kernel_rfl
  g19 := by kernel_rfl
  i0 := by kernel_rfl
  i2 := by kernel_rfl
  i3 := by kernel_rfl
  i4 := by kernel_rfl
  i5 := by kernel_rfl
  i9 := by kernel_rfl
  i20 := by kernel_rfl
  i37 := by kernel_rfl
  i46 := by kernel_rfl
  i51 := by kernel_rfl
  i53 := by kernel_rfl
  i171 := by kernel_rfl
  i173 := by kernel_rfl
  i212 := by kernel_rfl
  i232 := by kernel_rfl
  i233 := by kernel_rfl
  m17 := by kernel_rfl
  m18 := by kernel_rfl
  m19 := by kernel_rfl
end Go.Proofs.YtococaecjecjgaaGreatDoor.layT
/- Text of package expr. -/
namespace Go.Proofs.YtococaecjecjgaaGreatDoor.ex
set_option linter.unusedVariables false
open Go.ChangeShapes Go.WideShapes Go.ChangeAt Go.RowKit Go.Shelf
open mem lx bld

/-- An expression as text. -/
def txt : Ex → List UInt8
  | .num _ n => Lib.itoa n
  | .nam _ t => t
  | .bin _ o l r => (if top l < bd o then [40] ++ txt l ++ [41] else txt l) ++ ([32] ++ o ++ [32]) ++ (if top r < bd o + 1 then [40] ++ txt r ++ [41] else txt r)
def sdt (x : Ex) (m : Nat) : List UInt8 := if top x < m then [40] ++ txt x ++ [41] else txt x
theorem txt_bin (a : Nat) (o : List UInt8) (l r : Ex) : txt (.bin a o l r) = sdt l (bd o) ++ ([32] ++ o ++ [32]) ++ sdt r (bd o + 1) := by rw [txt]; rfl
/-- Numbers of 64 bits. -/
def Fit : Ex → Prop
  | .num _ n => -9223372036854775808 ≤ n ∧ n ≤ 9223372036854775807
  | .nam _ _ => True
  | .bin _ _ l r => Fit l ∧ Fit r
/-- The library's table of powers. -/
def Pw (w : World) : Prop := Lib.TabIs Tryz.prog w "internal/strconv.uint64pow10" .u64 Lib.pow10Tab
theorem gnP : Tryz.prog.globalNamed "internal/strconv.uint64pow10" = some 5 := by kernel_rfl
theorem Pw.below {B : Nat} {w w' : World} (h : Pw w) (hb : Below B w w') (hG : 5 < B) : Pw w' := by
  unfold Pw Lib.TabIs World.var? at h ⊢
  rw [gnP] at h ⊢
  have : w'.heap[5]? = w.heap[5]? := hb.block _ hG
  simpa [this] using h
theorem bd_typ {B b : Nat} {l : List UInt8} {w : World} (h : Bd B b l w) : ∃ c fz, w.heap[b]? = some (.cells c 81 fz) := by
  rcases h with h | h
  · obtain ⟨_, v, hc, _⟩ := h; exact ⟨_, _, hc⟩
  · obtain ⟨_, v, hc, _⟩ := h; exact ⟨_, _, hc⟩
theorem Kb.kx {B b : Nat} {l : List UInt8} {w w' : World} (h : Kb b w w') (hb : Bd B b l w) : Kx w w' := fun k cs hk => by
  refine h.same k _ hk ?_ ?_
  · intro e
    obtain ⟨c, fz, hc⟩ := bd_typ hb
    rw [e, hc] at hk
    simp at hk
  · intro c fz e
    simp at e
end Go.Proofs.YtococaecjecjgaaGreatDoor.ex
/- Numbers as they are written are read; words of expressions. -/
namespace Go.Proofs.YtococaecjecjgaaGreatDoor.ex
set_option linter.unusedVariables false
open Go.ChangeShapes Go.WideShapes Go.ChangeAt Go.RowKit
open mem lx dig digs

theorem based_one {s t t' : ByteArray} {b b' : Int} (h : Based s t b) (h' : Based s t' b') : t = t' ∧ b = b' := by
  rcases h with ⟨h1, rfl, rfl⟩ | ⟨h1, h2, rfl, rfl⟩ | ⟨h1, h2, rfl, rfl⟩ <;> rcases h' with ⟨g1, rfl, rfl⟩ | ⟨g1, g2, rfl, rfl⟩ | ⟨g1, g2, rfl, rfl⟩ <;> simp_all
theorem parsed_one {b : Int} {s : ByteArray} {v v' : Nat} {e e' : Int} (h : Parsed b s v e) (h' : Parsed b s v' e') : v = v' ∧ e = e' := by
  rcases h with ⟨h1, rfl, rfl⟩ | ⟨h1, h2, rfl, rfl⟩ | ⟨h1, h2, h3, rfl, rfl⟩ | ⟨h1, h2, h3, rfl, rfl⟩ <;> rcases h' with ⟨g1, rfl, rfl⟩ | ⟨g1, g2, rfl, rfl⟩ | ⟨g1, g2, g3, rfl, rfl⟩ | ⟨g1, g2, g3, rfl, rfl⟩ <;> first | exact ⟨rfl, rfl⟩ | exact absurd h1 g1 | exact absurd g1 h1 | exact absurd g2 h2 | exact absurd h2 g2 | omega
theorem told_one {n : Bool} {v : Nat} {f m m' e e' : Int} (h : digs.Told n v f m e) (h' : digs.Told n v f m' e') : m = m' ∧ e = e' := by
  rcases h with ⟨h1, rfl, rfl⟩ | ⟨h1, h2, rfl, rfl⟩ | ⟨h1, h2, h3, rfl, rfl⟩ <;> rcases h' with ⟨g1, rfl, rfl⟩ | ⟨g1, g2, rfl, rfl⟩ | ⟨g1, g2, g3, rfl, rfl⟩ <;> first | exact ⟨rfl, rfl⟩ | exact absurd h1 g1 | exact absurd g1 h1 | (exfalso; cases n <;> simp_all <;> omega)
theorem numbered_one {s : ByteArray} {m m' e e' : Int} (h : Numbered s m e) (h' : Numbered s m' e') : m = m' ∧ e = e' := by
  obtain ⟨n, t, b, v, f, h1, h2, h3, h4⟩ := h
  obtain ⟨n', t', b', v', f', g1, g2, g3, g4⟩ := h'
  obtain rfl : n = n' := h1.symm.trans g1
  obtain ⟨rfl, rfl⟩ := based_one h2 g2
  obtain ⟨rfl, rfl⟩ := parsed_one h3 g3
  exact told_one h4 g4
theorem nb_eq {t : List UInt8} {m e : Int} (h : Numbered (tx t) m e) : nb t = (m, e) := by
  obtain ⟨h1, h2⟩ := numbered_one (nb_is t) h
  exact Prod.ext h1 h2
/-- What digits come to. -/
theorem pv_snoc (l : List UInt8) (c : UInt8) : ∀ k, k ≤ l.length → pv 10 (tx (l ++ [c])) k = pv 10 (tx l) k := by
  intro k
  induction k with
  | zero => intro _; rfl
  | succ k ih =>
    intro hk
    have e : dig.sb (tx (l ++ [c])) k = dig.sb (tx l) k := by
      unfold dig.sb tx
      simp only [List.getD_eq_getElem?_getD]
      rw [List.getElem?_append_left (by omega)]
    rw [pv, pv, ih (by omega), e]
theorem sb_last (l : List UInt8) (c : UInt8) : dig.sb (tx (l ++ [c])) l.length = (c.toNat : Int) := by
  unfold dig.sb tx
  simp
theorem dd_all (u : Nat) : (∀ c ∈ Lib.decDigits u, ∃ k, k < 10 ∧ c = UInt8.ofNat (48 + k)) ∧ Lib.decDigits u ≠ [] := by
  induction u using Nat.strongRecOn with
  | _ u ih =>
    rw [Lib.decDigits]
    split
    · rename_i h
      exact ⟨fun c hc => ⟨u, h, by simpa using hc⟩, by simp⟩
    · rename_i h
      obtain ⟨i1, i2⟩ := ih (u / 10) (by omega)
      refine ⟨fun c hc => ?_, by simp⟩
      rw [List.mem_append] at hc
      rcases hc with hc | hc
      · exact i1 c hc
      · exact ⟨u % 10, by omega, by simpa using hc⟩
theorem ch_toNat (k : Nat) (h : k < 10) : ((UInt8.ofNat (48 + k)).toNat : Int) = 48 + (k : Int) := by
  simp [UInt8.toNat_ofNat]
  omega
theorem dv_digit (k : Nat) (h : k < 10) : dv (48 + (k : Int)) = (k : Int) := by
  unfold dv
  rw [if_pos (by omega)]
  omega
theorem pv_one (c : UInt8) (k : Nat) (hk : k < 10) (hc : (c.toNat : Int) = 48 + (k : Int)) : pv 10 (tx [c]) 1 = k := by
  have h := sb_last [] c
  rw [show ([] : List UInt8).length = 0 from rfl, List.nil_append] at h
  rw [pv, pv, h, hc, dv_digit k hk]
  simp
theorem pv_more (l : List UInt8) (c : UInt8) (k : Nat) (hk : k < 10) (hc : (c.toNat : Int) = 48 + (k : Int)) : pv 10 (tx (l ++ [c])) (l.length + 1) = pv 10 (tx l) l.length * 10 + k := by
  rw [pv, pv_snoc _ _ _ (Nat.le_refl _), sb_last, hc, dv_digit k hk]
  simp
theorem dd_val (u : Nat) : pv 10 (tx (Lib.decDigits u)) (Lib.decDigits u).length = u := by
  induction u using Nat.strongRecOn with
  | _ u ih =>
    by_cases h : u < 10
    · have e : Lib.decDigits u = [UInt8.ofNat (48 + u)] := by rw [Lib.decDigits, dif_pos h]
      have hc := ch_toNat u h
      rw [e]
      generalize UInt8.ofNat (48 + u) = c at hc ⊢
      exact pv_one c u h hc
    · have e : Lib.decDigits u = Lib.decDigits (u / 10) ++ [UInt8.ofNat (48 + u % 10)] := by rw [Lib.decDigits, dif_neg h]
      have hc := ch_toNat (u % 10) (by omega)
      have hi := ih (u / 10) (by omega)
      rw [e]
      generalize UInt8.ofNat (48 + u % 10) = c at hc ⊢
      rw [List.length_append, show ([c] : List UInt8).length = 1 from rfl, pv_more _ c (u % 10) (by omega) hc, hi]
      omega
theorem dd_ok (u : Nat) : okD 10 (tx (Lib.decDigits u)) := by
  obtain ⟨h1, h2⟩ := dd_all u
  refine ⟨?_, fun i hi => ?_⟩
  · rw [tx_size]
    exact List.length_pos_iff.2 h2
  · rw [tx_size] at hi
    obtain ⟨k, hk, e⟩ := h1 _ (List.getElem_mem hi)
    have : dig.sb (tx (Lib.decDigits u)) i = 48 + (k : Int) := by
      unfold dig.sb tx
      simp only [List.getD_eq_getElem?_getD]
      rw [List.getElem?_eq_getElem hi, e]
      exact ch_toNat k hk
    rw [this, dv_digit k hk]
    omega
theorem dd_head (u : Nat) : ∃ k r, k < 10 ∧ Lib.decDigits u = UInt8.ofNat (48 + k) :: r ∧ (r ≠ [] → k ≠ 0) := by
  induction u using Nat.strongRecOn with
  | _ u ih =>
    by_cases h : u < 10
    · exact ⟨u, [], h, by rw [Lib.decDigits, dif_pos h], fun h => absurd rfl h⟩
    · have e : Lib.decDigits u = Lib.decDigits (u / 10) ++ [UInt8.ofNat (48 + u % 10)] := by rw [Lib.decDigits, dif_neg h]
      obtain ⟨k, r, h1, h2, h3⟩ := ih (u / 10) (by omega)
      refine ⟨k, r ++ [UInt8.ofNat (48 + u % 10)], h1, by rw [e, h2]; rfl, fun _ => ?_⟩
      cases r with
      | cons c r => exact h3 (by simp)
      | nil =>
        rintro rfl
        have hv := dd_val (u / 10)
        rw [h2, show ([UInt8.ofNat (48 + 0)] : List UInt8).length = 1 from rfl, pv_one _ 0 (by omega) (ch_toNat 0 (by omega))] at hv
        omega
theorem dg_digit (k : Nat) (h : k < 10) : isD (UInt8.ofNat (48 + k)) = true ∧ isL (UInt8.ofNat (48 + k)) = false := by
  have key : ∀ k : Fin 10, isD (UInt8.ofNat (48 + k.1)) = true ∧ isL (UInt8.ofNat (48 + k.1)) = false := by decide
  exact key ⟨k, h⟩
theorem pre_false (s : ByteArray) (p : ByteArray) (h : ∀ c, s.data.toList.head? = some c → p.data.toList.head? ≠ some c) (hp : 0 < p.size) : pre s p = false := by
  unfold pre
  by_cases hs : p.size ≤ s.size
  · rw [decide_eq_true hs, Bool.true_and, beq_eq_false_iff_ne]
    intro e
    rw [ByteArray.toList_eq, ByteArray.toList_eq] at e
    have e1 : (s.extract 0 p.size).data.toList = s.data.toList.take p.size := by simp [ByteArray.data_extract]
    rw [e1] at e
    cases hl : s.data.toList with
    | nil =>
      have : s.size = 0 := by
        have := congrArg List.length hl
        simpa using this
      omega
    | cons c r =>
      refine h c (by rw [hl]; rfl) ?_
      rw [← e, hl]
      cases hz : p.size with
      | zero => omega
      | succ z => rfl
  · rw [decide_eq_false hs]; rfl
theorem itoa_pos (n : Int) (h : 0 ≤ n) : Lib.itoa n = Lib.decDigits n.toNat := by unfold Lib.itoa; rw [if_neg (by omega)]
/-- AS IT IS WRITTEN A NUMBER IS READ. -/
theorem nb_itoa (n : Int) (h0 : 0 ≤ n) (h1 : n < 9223372036854775808) : isN (Lib.itoa n) = false ∧ isU (Lib.itoa n) = true ∧ nb (Lib.itoa n) = (n, 0) ∧ (∀ c ∈ Lib.itoa n, isW c = true) ∧ Lib.itoa n ≠ [] := by
  rw [itoa_pos n h0]
  obtain ⟨k, r, hk, e, hz⟩ := dd_head n.toNat
  obtain ⟨d1, d2⟩ := dg_digit k hk
  refine ⟨by rw [e]; exact d2, by rw [e]; exact d1, ?_, ?_, (dd_all _).2⟩
  · apply nb_eq
    have hpm : pre (tx (Lib.decDigits n.toNat)) pm = false := by
      refine pre_false _ _ (fun c hc => ?_) (by decide)
      show (some 45 : Option UInt8) ≠ some c
      rw [show (tx (Lib.decDigits n.toNat)).data.toList = Lib.decDigits n.toNat from L_tx _, e] at hc
      intro e2
      injection e2 with e2
      injection hc with hc
      rw [← hc] at e2
      have : ((45 : UInt8).toNat : Int) = ((UInt8.ofNat (48 + k)).toNat : Int) := by rw [e2]
      rw [ch_toNat k hk] at this
      have h45 : ((45 : UInt8).toNat : Int) = 45 := rfl
      omega
    have hno : ∀ (c2 : UInt8), isD c2 = false → pre (tx (Lib.decDigits n.toNat)) (tx [48, c2]) = false := by
      intro c2 hc2
      unfold pre
      by_cases hs : (tx [48, c2]).size ≤ (tx (Lib.decDigits n.toNat)).size
      · rw [decide_eq_true hs, Bool.true_and, beq_eq_false_iff_ne]
        intro e2
        rw [ByteArray.toList_eq, ByteArray.toList_eq] at e2
        have e1 : ((tx (Lib.decDigits n.toNat)).extract 0 (tx [48, c2]).size).data.toList = (Lib.decDigits n.toNat).take 2 := by
          simp [ByteArray.data_extract, tx]
          rfl
        have e3 : (tx [48, c2]).data.toList = [48, c2] := L_tx _
        rw [e1, e3, e] at e2
        cases r with
        | nil => simp at e2
        | cons c r =>
          simp at e2
          obtain ⟨k', hk', ek⟩ := (dd_all n.toNat).1 c (by rw [e]; simp)
          have := (dg_digit k' hk').1
          rw [← ek, e2.2, hc2] at this
          cases this
      · rw [decide_eq_false hs]; rfl
    refine ⟨false, _, 10, n.toNat, 0, hpm, Or.inr (Or.inr ⟨hno 120 (by decide), hno 98 (by decide), rfl, rfl⟩), Or.inr (Or.inr (Or.inr ⟨by unfold okB; omega, dd_ok _, ?_, ?_, rfl⟩)), Or.inr (Or.inr ⟨rfl, by omega, by omega, ?_, rfl⟩)⟩
    · show pv 10 (tx _) (tx _).size < _
      rw [tx_size, dd_val]; omega
    · show n.toNat = pv 10 (tx _) (tx _).size
      rw [tx_size, dd_val]
    · simp; omega
  · intro c hc
    obtain ⟨k', hk', rfl⟩ := (dd_all n.toNat).1 c hc
    unfold isW
    rw [(dg_digit k' hk').1]
    simp
/-- A number that is read is from 0 on. -/
theorem nb_range (t : List UInt8) (h : isU t = true) (h0 : (nb t).2 = 0) : 0 ≤ (nb t).1 ∧ (nb t).1 < 9223372036854775808 := by
  have hn := nb_is t
  obtain ⟨n, t', b, v, f, h1, h2, h3, h4⟩ := hn
  have hpm : pre (tx t) pm = false := by
    refine pre_false _ _ (fun c hc => ?_) (by decide)
    show (some 45 : Option UInt8) ≠ some c
    rw [show (tx t).data.toList = t from L_tx _] at hc
    intro e2
    injection e2 with e2
    unfold isU at h
    rw [hc, ← e2] at h
    revert h; decide
  rw [hpm] at h1
  subst h1
  rw [h0] at h4
  rcases h4 with ⟨g1, _, g3⟩ | ⟨_, _, _, g4⟩ | ⟨_, g2, g3, g4, _⟩
  · exact absurd g3.symm g1
  · omega
  · rw [g4]
    have : v ≠ 9223372036854775808 := fun e => by have := g3 e; cases this
    simp
    omega
end Go.Proofs.YtococaecjecjgaaGreatDoor.ex
/- Expressions, written, are read: the whole way. -/
namespace Go.Proofs.YtococaecjecjgaaGreatDoor.ex
set_option linter.unusedVariables false
open Go.RowKit
open mem lx

theorem told_hdec : ∀ t, isU t = true → (nb t).2 = 0 → isN (Lib.itoa (nb t).1) = false ∧ isU (Lib.itoa (nb t).1) = true ∧ nb (Lib.itoa (nb t).1) = ((nb t).1, 0) := fun t h h0 => by
  obtain ⟨h1, h2⟩ := nb_range t h h0
  obtain ⟨a, b, c, _⟩ := nb_itoa _ h1 h2
  exact ⟨a, b, c⟩
/-- What reading tells, besides: names are words, numbers are from 0 on; how many parts there are. -/
def Nw : Ex → Prop
  | .num _ n => 0 ≤ n ∧ n < 9223372036854775808
  | .nam _ t => (∀ c ∈ t, isW c = true) ∧ t ≠ [] ∧ t.length ≤ 12
  | .bin _ _ l r => Nw l ∧ Nw r
def sz : Ex → Nat
  | .num _ _ => 1
  | .nam _ _ => 1
  | .bin _ _ l r => sz l + sz r + 1
theorem word_of {t : List UInt8} (h : IsT t) (hn : isN t = true) : (∀ c ∈ t, isW c = true) ∧ t ≠ [] := by
  rcases h with ⟨h1, h2⟩ | ⟨c, rfl, hc⟩ | rfl | rfl
  · exact ⟨h2, h1⟩
  · exfalso
    have h3 := (isM_not c (Or.inl hc)).2.2
    have h4 : isL c = true := hn
    unfold isW at h3
    rw [h4] at h3
    cases h3
  · revert hn; decide
  · revert hn; decide
theorem nw_all {en : Nat} (f : Nat) :
    (∀ m d ts x r, (∀ t ∈ ts, IsT t.t) → row nb en f m d ts = some (.ok (x, r)) → Nw x ∧ sz x + r.length ≤ ts.length) ∧
    (∀ m d y ts x r, (∀ t ∈ ts, IsT t.t) → Nw y → lp nb en f m d y ts = some (.ok (x, r)) → Nw x ∧ sz x + r.length ≤ sz y + ts.length) ∧
    (∀ d ts x r, (∀ t ∈ ts, IsT t.t) → one nb en f d ts = some (.ok (x, r)) → Nw x ∧ sz x + r.length ≤ ts.length) := by
  induction f with
  | zero => exact ⟨fun _ _ _ _ _ _ h => by simp [row] at h, fun _ _ _ _ _ _ _ _ h => by simp [lp] at h, fun _ _ _ _ _ h => by simp [one] at h⟩
  | succ f ih =>
    obtain ⟨i1, i2, i3⟩ := ih
    obtain ⟨m1, m2, m3⟩ := mem_all (en := en) f
    refine ⟨?_, ?_, ?_⟩
    · intro m d ts x r hT h
      by_cases hm : 3 < m
      · rw [row_top _ _ _ _ hm] at h
        exact i3 _ _ _ _ hT h
      · rw [row_low _ _ _ _ hm] at h
        split at h
        · cases h
        · cases h
        · rename_i y r' hr
          obtain ⟨g1, g2⟩ := i1 _ _ _ _ _ hT hr
          obtain ⟨g3, g4⟩ := i2 _ _ _ _ _ _ (fun t ht => hT t (m1 _ _ _ _ _ hr t ht)) g1 h
          exact ⟨g3, by omega⟩
    · intro m d y ts x r hT hy h
      cases ts with
      | nil =>
        simp only [lp, Option.some.injEq, Except.ok.injEq, Prod.mk.injEq] at h
        obtain ⟨rfl, rfl⟩ := h
        exact ⟨hy, Nat.le_refl _⟩
      | cons t ts =>
        rw [lp] at h
        split at h
        · split at h
          · cases h
          · cases h
          · rename_i z r' hr
            have hT' : ∀ t ∈ ts, IsT t.t := fun u hu => hT u (List.mem_cons_of_mem _ hu)
            obtain ⟨g1, g2⟩ := i1 _ _ _ _ _ hT' hr
            obtain ⟨g3, g4⟩ := i2 _ _ _ _ _ _ (fun u hu => hT' u (m1 _ _ _ _ _ hr u hu)) (show Nw (.bin t.a t.t y z) from ⟨hy, g1⟩) h
            refine ⟨g3, ?_⟩
            have : sz (.bin t.a t.t y z) = sz y + sz z + 1 := by rw [sz]
            simp only [List.length_cons]
            omega
        · simp only [Option.some.injEq, Except.ok.injEq, Prod.mk.injEq] at h
          obtain ⟨rfl, rfl⟩ := h
          exact ⟨hy, Nat.le_refl _⟩
    · intro d ts x r hT h
      cases ts with
      | nil => simp [one] at h
      | cons t ts =>
        have hT' : ∀ t ∈ ts, IsT t.t := fun u hu => hT u (List.mem_cons_of_mem _ hu)
        rw [one] at h
        split at h
        · rename_i hN
          split at h
          · simp at h
          · rename_i h12
            simp at h
            obtain ⟨rfl, rfl⟩ := h
            obtain ⟨w1, w2⟩ := word_of (hT t (by simp)) hN
            exact ⟨⟨w1, w2, by omega⟩, by rw [sz]; simp; omega⟩
        · split at h
          · rename_i hU
            split at h
            · rename_i h0
              simp at h
              obtain ⟨rfl, rfl⟩ := h
              exact ⟨nb_range _ hU h0, by rw [sz]; simp; omega⟩
            · simp at h
          · split at h
            · split at h
              · simp at h
              · split at h
                · cases h
                · cases h
                · rename_i z r' hr
                  obtain ⟨g1, g2⟩ := i1 _ _ _ _ _ hT' hr
                  split at h
                  · simp at h
                    obtain ⟨rfl, rfl⟩ := h
                    refine ⟨g1, ?_⟩
                    rw [List.length_tail]
                    simp only [List.length_cons]
                    omega
                  · simp at h
            · simp at h
theorem dd_len (u k : Nat) (h : u < 10 ^ (k + 1)) : (Lib.decDigits u).length ≤ k + 1 := by
  induction k generalizing u with
  | zero =>
    have : u < 10 := by simpa using h
    rw [Lib.decDigits, dif_pos this]
    simp
  | succ k ih =>
    by_cases h10 : u < 10
    · rw [Lib.decDigits, dif_pos h10]; simp
    · rw [Lib.decDigits, dif_neg h10, List.length_append]
      have := ih (u / 10) (by rw [Nat.div_lt_iff_lt_mul (by omega)]; rw [Nat.pow_succ] at h; exact h)
      simp
      omega
theorem bd_cases {o : List UInt8} (h : 0 < bd o) : o = [61, 61] ∨ o = [33, 61] ∨ o = [60] ∨ o = [62] ∨ o = [43] ∨ o = [45] ∨ o = [124] ∨ o = [42] ∨ o = [38] := by
  unfold bd at h
  split at h
  · rename_i h1; rcases h1 with h1 | h1 | h1 | h1 <;> simp [h1]
  · split at h
    · rename_i h1; rcases h1 with h1 | h1 | h1 <;> simp [h1]
    · split at h
      · rename_i h1; rcases h1 with h1 | h1 <;> simp [h1]
      · omega
theorem bd_len {o : List UInt8} (h : 0 < bd o) : o.length ≤ 2 := by
  rcases bd_cases h with rfl | rfl | rfl | rfl | rfl | rfl | rfl | rfl | rfl <;> simp
theorem mark_tok (c : UInt8) (h1 : isM c = true) (h2 : isW c = false) (h3 : c ≠ 61) : IsT [c] ∧ ¬ (∀ d ∈ [c], isW d = true) ∧ [c] ≠ [61] := by
  refine ⟨Or.inr (Or.inl ⟨c, rfl, h1⟩), fun h => ?_, by simpa using h3⟩
  have := h c (by simp)
  rw [h2] at this
  cases this
theorem bd_tok {o : List UInt8} (h : 0 < bd o) : IsT o ∧ ¬ (∀ c ∈ o, isW c = true) ∧ o ≠ [61] := by
  rcases bd_cases h with rfl | rfl | rfl | rfl | rfl | rfl | rfl | rfl | rfl
  · exact ⟨Or.inr (Or.inr (Or.inl rfl)), by decide, by decide⟩
  · exact ⟨Or.inr (Or.inr (Or.inr rfl)), by decide, by decide⟩
  all_goals exact mark_tok _ (by decide) (by decide) (by decide)
theorem txt_len {x : Ex} (h : Nw x) (ho : Okb x) : (txt x).length + 10 ≤ 40 * sz x := by
  induction x with
  | num a n =>
    rw [txt, itoa_pos n h.1, show sz (.num a n) = 1 by rw [sz]]
    have := dd_len n.toNat 19 (by have := h.2; omega)
    omega
  | nam a t =>
    rw [txt, show sz (.nam a t) = 1 by rw [sz]]
    have := h.2.2
    omega
  | bin a o l r il ir =>
    have h1 := il h.1 ho.2.1
    have h2 := ir h.2 ho.2.2
    have h5 := bd_len ho.1
    rw [txt_bin, show sz (.bin a o l r) = sz l + sz r + 1 by rw [sz]]
    have hs : ∀ (x : Ex) (m : Nat), (sdt x m).length ≤ (txt x).length + 2 := fun x m => by unfold sdt; split <;> simp
    have h3 := hs l (bd o)
    have h4 := hs r (bd o + 1)
    simp only [List.length_append, List.length_cons, List.length_nil]
    omega
/-- The same, wherever it stands. -/
theorem Sm.txt {x y : Ex} (h : Sm x y) : txt y = txt x ∧ top y = top x := by
  induction h with
  | num a b k => exact ⟨by rw [ex.txt, ex.txt], rfl⟩
  | nam a b t => exact ⟨by rw [ex.txt, ex.txt], rfl⟩
  | bin a b o l l' r r' _ _ il ir =>
    refine ⟨?_, rfl⟩
    rw [txt_bin, txt_bin]
    unfold sdt
    rw [il.1, il.2, ir.1, ir.2]
theorem Sm.okb {x y : Ex} (h : Sm x y) (hx : Okb x) : Okb y := by
  induction h with
  | num a b k => trivial
  | nam a b t => exact hx
  | bin a b o l l' r r' _ _ il ir => exact ⟨hx.1, il hx.2.1, ir hx.2.2⟩
theorem Sm.nw {x y : Ex} (h : Sm x y) (hx : Nw x) : Nw y := by
  induction h with
  | num a b k => exact hx
  | nam a b t => exact hx
  | bin a b o l l' r r' _ _ il ir => exact ⟨il hx.1, ir hx.2⟩
/-- Alike, but for the place. -/
def Eqv (p q : Except Nat Int) : Prop := (∃ n, p = .ok n ∧ q = .ok n) ∨ ∃ a b, p = .error a ∧ q = .error b
theorem Sm.ev {env : List UInt8 → Option Int} {x y : Ex} (h : Sm x y) : Eqv (ev env x) (ev env y) := by
  induction h with
  | num a b k => exact Or.inl ⟨k, by rw [ex.ev], by rw [ex.ev]⟩
  | nam a b t =>
    rw [ex.ev, ex.ev]
    cases env t with
    | some n => exact Or.inl ⟨n, rfl, rfl⟩
    | none => exact Or.inr ⟨a, b, rfl, rfl⟩
  | bin a b o l l' r r' _ _ il ir =>
    rw [ex.ev, ex.ev]
    rcases il with ⟨n, h1, h2⟩ | ⟨p, q, h1, h2⟩
    · rw [h1, h2]
      rcases ir with ⟨k, g1, g2⟩ | ⟨p, q, g1, g2⟩
      · rw [g1, g2]; exact Or.inl ⟨_, rfl, rfl⟩
      · rw [g1, g2]; exact Or.inr ⟨_, _, rfl, rfl⟩
    · rw [h1, h2]; exact Or.inr ⟨_, _, rfl, rfl⟩
theorem Wf.okb {x : Ex} (h : Wf (nb := nb) Lib.itoa x) : Okb x := by
  induction x with
  | num a n => trivial
  | nam a t => have := h.2; show t.length ≤ 3000; omega
  | bin a o l r il ir => exact ⟨h.1, il h.2.1, ir h.2.2⟩
/-- THE TOKENS OF WHAT IS WRITTEN. -/
def Cut (t : List UInt8) (l : List (List UInt8)) : Prop := ∀ (y : List UInt8) (a : Nat), (∀ c, y.head? = some c → isW c = false) → ∃ us : List Tk, us.map Tk.t = l ∧ lx (t ++ y) a = (us ++ (lx y (a + t.length)).1, (lx y (a + t.length)).2)
theorem Cut.side {x : Ex} (h : Cut (txt x) (tk Lib.itoa x)) (m : Nat) : Cut (sdt x m) (sk Lib.itoa x m) := by
  unfold sdt sk
  by_cases ht : top x < m
  · rw [if_pos ht, if_pos ht]
    intro y a hy
    obtain ⟨us, h1, h2⟩ := h ([41] ++ y) (a + 1) (fun c hc => by simp at hc; rw [← hc]; decide)
    have e1 : [40] ++ txt x ++ [41] ++ y = [40] ++ (txt x ++ ([41] ++ y)) := by simp
    have e2 := lx_app [40] (txt x ++ ([41] ++ y)) a (Or.inr (Or.inl ⟨40, rfl, by decide⟩)) (fun h => absurd h (by decide)) (fun h => absurd h (by decide))
    have e3 := lx_app [41] y (a + 1 + (txt x).length) (Or.inr (Or.inl ⟨41, rfl, by decide⟩)) (fun h => absurd h (by decide)) (fun h => absurd h (by decide))
    refine ⟨⟨[40], a⟩ :: us ++ [⟨[41], a + 1 + (txt x).length⟩], by simp [h1], ?_⟩
    rw [e1, e2]
    rw [show ([40] : List UInt8).length = 1 from rfl, h2, e3]
    have e4 : a + 1 + (txt x).length + ([41] : List UInt8).length = a + ([40] ++ txt x ++ [41]).length := by simp; omega
    rw [e4]
    simp
  · rw [if_neg ht, if_neg ht]
    exact h
theorem cut_word {t : List UInt8} (h1 : ∀ c ∈ t, isW c = true) (h2 : t ≠ []) : Cut t [t] := by
  intro y a hy
  refine ⟨[⟨t, a⟩], rfl, ?_⟩
  rw [lx_app t y a (Or.inl ⟨h2, h1⟩) (fun _ => hy) (fun e => by
    subst e
    exact absurd (h1 61 (by simp)) (by decide))]
  rfl
theorem cut_txt {x : Ex} (h : Nw x) (ho : Okb x) : Cut (txt x) (tk Lib.itoa x) := by
  induction x with
  | num a n =>
    obtain ⟨_, _, _, w1, w2⟩ := nb_itoa n h.1 h.2
    rw [ex.txt, tk]
    exact cut_word w1 w2
  | nam a t =>
    rw [ex.txt, tk]
    exact cut_word h.1 h.2.1
  | bin a o l r il ir =>
    have cl := (il h.1 ho.2.1).side (bd o)
    have cr := (ir h.2 ho.2.2).side (bd o + 1)
    obtain ⟨b1, b2, b3⟩ := bd_tok ho.1
    rw [txt_bin, tk_bin]
    intro y p hy
    obtain ⟨us, u1, u2⟩ := cl ([32] ++ (o ++ ([32] ++ (sdt r (bd o + 1) ++ y)))) p (fun c hc => by simp at hc; rw [← hc]; decide)
    obtain ⟨vs, v1, v2⟩ := cr y (p + (sdt l (bd o)).length + 1 + o.length + 1) hy
    have e1 : sdt l (bd o) ++ ([32] ++ o ++ [32]) ++ sdt r (bd o + 1) ++ y = sdt l (bd o) ++ ([32] ++ (o ++ ([32] ++ (sdt r (bd o + 1) ++ y)))) := by simp
    have e2 : lx ([32] ++ (o ++ ([32] ++ (sdt r (bd o + 1) ++ y)))) (p + (sdt l (bd o)).length) = lx (o ++ ([32] ++ (sdt r (bd o + 1) ++ y))) (p + (sdt l (bd o)).length + 1) := lx_blank 32 _ _ rfl
    have e3 := lx_app o ([32] ++ (sdt r (bd o + 1) ++ y)) (p + (sdt l (bd o)).length + 1) b1 (fun h => absurd h b2) (fun h => absurd h b3)
    have e4 : lx ([32] ++ (sdt r (bd o + 1) ++ y)) (p + (sdt l (bd o)).length + 1 + o.length) = lx (sdt r (bd o + 1) ++ y) (p + (sdt l (bd o)).length + 1 + o.length + 1) := lx_blank 32 _ _ rfl
    refine ⟨us ++ ⟨o, p + (sdt l (bd o)).length + 1⟩ :: vs, by simp [u1, v1], ?_⟩
    rw [e1, u2, e2, e3, e4, v2]
    have e5 : p + (sdt l (bd o)).length + 1 + o.length + 1 + (sdt r (bd o + 1)).length = p + (sdt l (bd o) ++ ([32] ++ o ++ [32]) ++ sdt r (bd o + 1)).length := by simp; omega
    rw [e5]
    simp
end Go.Proofs.YtococaecjecjgaaGreatDoor.ex
/- Expressions, written, are read: what comes of it. -/
namespace Go.Proofs.YtococaecjecjgaaGreatDoor.ex
set_option linter.unusedVariables false
open Go.RowKit
open mem lx

/-- What is known of what Parse told. -/
structure Kn (l : List UInt8) (x : Ex) : Prop where
  wf : Wf (nb := nb) Lib.itoa x
  nw : Nw x
  dp : dp x ≤ 8
  sz : sz x ≤ l.length
theorem top_one {x : Ex} (h : Okb x) : ¬ top x < 1 := by
  cases x with
  | num a n => show ¬ 4 < 1; omega
  | nam a t => show ¬ 4 < 1; omega
  | bin a o l r => have := h.1; show ¬ bd o < 1; omega
theorem sd_one {x : Ex} (h : Okb x) : sd x 1 = dp x := by unfold sd; rw [if_neg (top_one h)]
theorem sk_one {x : Ex} (h : Okb x) : sk Lib.itoa x 1 = tk Lib.itoa x := by unfold sk; rw [if_neg (top_one h)]
theorem prs_of {l : List UInt8} {ts : List Tk} {q : Res} {f : Nat} (h1 : lx l 0 = (ts, none)) (h2 : row nb l.length f 1 0 ts = some q) : prs l = whole q := by
  refine prs_is (ts := ts) (by rw [h1]) (by rw [h1]) ?_
  cases h : row nb l.length (10 * ts.length + 10) 1 0 ts with
  | none => exact absurd h ((some_all _).1 1 0 ts (by omega) (by omega))
  | some q' => rw [row_one h h2]
/-- WHAT IS WRITTEN IS READ. -/
theorem again {x : Ex} (hw : Wf (nb := nb) Lib.itoa x) (hn : Nw x) (hd : dp x ≤ 8) : ∃ x', Sm x x' ∧ prs (txt x) = .ok x' := by
  obtain ⟨us, u1, u2⟩ := cut_txt hn hw.okb [] 0 (fun c hc => by simp at hc)
  rw [List.append_nil] at u2
  rw [show (lx [] (0 + (txt x).length)) = ([], none) from rfl] at u2
  dsimp only at u2
  rw [List.append_nil] at u2
  obtain ⟨x', hx, hr⟩ := reads (en := (txt x).length) x hw 3 1 0 us [] (by omega) (by omega) (by rw [sd_one hw.okb]; omega) (by rw [sk_one hw.okb]; exact u1) (by show 0 ≤ 1; omega)
  obtain ⟨f, hf⟩ := hr 1 _ (lp_stop 0 1 0 x' [] (by show 0 < 1; omega))
  rw [List.append_nil] at hf
  exact ⟨x', hx, prs_of u2 hf⟩
theorem err_up {en d : Nat} {us : List Tk} {e : Int × Nat} : ∀ (k m f : Nat), m + k = 4 → one nb en f d us = some (.error e) → ∃ f, row nb en f m d us = some (.error e) := by
  intro k
  induction k with
  | zero =>
    intro m f hm h
    exact ⟨f + 1, by rw [row_top _ _ _ _ (by omega)]; exact h⟩
  | succ k ih =>
    intro m f hm h
    obtain ⟨f', hf⟩ := ih (m + 1) f (by omega) h
    exact ⟨f' + 1, by rw [row_low _ _ _ _ (by omega), hf]⟩
theorem nb_one : isN [49] = false ∧ isU [49] = true ∧ nb [49] = (1, 0) := by
  obtain ⟨h1, h2, h3, _⟩ := nb_itoa 1 (by omega) (by omega)
  have e : Lib.itoa 1 = [49] := by rw [itoa_pos 1 (by omega)]; rw [Lib.decDigits]; rfl
  rw [e] at h1 h2 h3
  exact ⟨h1, h2, h3⟩
/-- .. with brackets about it, and times 1. -/
theorem about {x : Ex} (hw : Wf (nb := nb) Lib.itoa x) (hn : Nw x) (hd : dp x ≤ 8) : (∃ x' a b, Sm x x' ∧ prs ([40] ++ txt x ++ [41, 42, 49]) = .ok (.bin a [42] x' (.num b 1))) ∨ ∃ p, prs ([40] ++ txt x ++ [41, 42, 49]) = .error (4, p) := by
  obtain ⟨us, u1, u2⟩ := cut_txt hn hw.okb [41, 42, 49] 1 (fun c hc => by simp at hc; rw [← hc]; decide)
  have t41 : ∀ a, lx [41, 42, 49] a = ([⟨[41], a⟩, ⟨[42], a + 1⟩, ⟨[49], a + 1 + 1⟩], none) := by
    intro a
    have e1 := lx_app [41] [42, 49] a (Or.inr (Or.inl ⟨41, rfl, by decide⟩)) (fun h => absurd h (by decide)) (fun h => absurd h (by decide))
    have e2 := lx_app [42] [49] (a + 1) (Or.inr (Or.inl ⟨42, rfl, by decide⟩)) (fun h => absurd h (by decide)) (fun h => absurd h (by decide))
    have e3 := lx_app [49] [] (a + 1 + 1) (Or.inl ⟨by simp, by decide⟩) (fun _ c hc => by simp at hc) (fun h => absurd h (by decide))
    have e1' : lx [41, 42, 49] a = _ := e1
    have e2' : lx [42, 49] (a + 1) = _ := e2
    have e3' : lx [49] (a + 1 + 1) = _ := e3
    rw [e1', show ([41] : List UInt8).length = 1 from rfl, e2', show ([42] : List UInt8).length = 1 from rfl, e3']
    rfl
  have e0 := lx_app [40] (txt x ++ [41, 42, 49]) 0 (Or.inr (Or.inl ⟨40, rfl, by decide⟩)) (fun h => absurd h (by decide)) (fun h => absurd h (by decide))
  rw [show 0 + ([40] : List UInt8).length = 1 from rfl, u2, t41] at e0
  obtain ⟨L0, hL0⟩ : ∃ L0, L0 = ([40] ++ txt x ++ [41, 42, 49]).length := ⟨_, rfl⟩
  have e00 : lx ([40] ++ txt x ++ [41, 42, 49]) 0 = ((⟨[40], 0⟩ : Tk) :: (us ++ [⟨[41], 1 + (txt x).length⟩, ⟨[42], 1 + (txt x).length + 1⟩, ⟨[49], 1 + (txt x).length + 1 + 1⟩]), none) := by
    rw [List.append_assoc]; exact e0
  obtain ⟨p1, hp1⟩ : ∃ p1, p1 = 1 + (txt x).length := ⟨_, rfl⟩
  rw [← hp1] at e00
  by_cases h8 : dp x + 1 ≤ 8
  · left
    obtain ⟨x', hx, hr⟩ := reads (en := L0) x hw 3 1 1 us [⟨[41], p1⟩, ⟨[42], p1 + 1⟩, ⟨[49], p1 + 1 + 1⟩] (by omega) (by omega) (by rw [sd_one hw.okb]; omega) (by rw [sk_one hw.okb]; exact u1) (by show bd [41] ≤ 1; decide)
    obtain ⟨f, hf⟩ := hr 1 _ (lp_stop 0 1 1 x' _ (by show bd [41] < 1; decide))
    have ho := in_brackets (p := 0) (show (0 : Nat) ≠ 8 by omega) hf
    obtain ⟨g1, g2, g3⟩ := nb_one
    have hlp : lp nb L0 3 3 0 x' [⟨[42], p1 + 1⟩, ⟨[49], p1 + 1 + 1⟩] = some (.ok (.bin (p1 + 1) [42] x' (.num (p1 + 1 + 1) 1), [])) := by
      rw [lp, if_pos (by show bd [42] = 3; decide), row_top _ _ _ _ (by omega), one, if_neg (by show ¬ isN [49] = true; rw [g1]; decide), if_pos (by exact g2)]
      rw [show nb (⟨[49], p1 + 1 + 1⟩ : Tk).t = (1, 0) from g3, if_pos rfl]
      dsimp only
      rw [lp]
    obtain ⟨f3, h3⟩ := climb 1 3 0 _ 3 _ _ x' _ (by omega) (by show bd [42] ≤ 3; decide) ho hlp
    refine ⟨x', p1 + 1, p1 + 1 + 1, hx, ?_⟩
    have h2 : row nb L0 (f3 + 1 + 1) 2 0 ((⟨[40], 0⟩ : Tk) :: (us ++ [⟨[41], p1⟩, ⟨[42], p1 + 1⟩, ⟨[49], p1 + 1 + 1⟩])) = some (.ok (.bin (p1 + 1) [42] x' (.num (p1 + 1 + 1) 1), [])) := by
      rw [row_low _ _ _ _ (by omega), up_row h3 (Nat.le_succ _)]
      exact lp_stop _ _ _ _ _ (by show 0 < 2; omega)
    have h1 : row nb L0 (f3 + 1 + 1 + 1) 1 0 ((⟨[40], 0⟩ : Tk) :: (us ++ [⟨[41], p1⟩, ⟨[42], p1 + 1⟩, ⟨[49], p1 + 1 + 1⟩])) = some (.ok (.bin (p1 + 1) [42] x' (.num (p1 + 1 + 1) 1), [])) := by
      rw [row_low _ _ _ _ (by omega), h2]
      exact lp_stop _ _ _ _ _ (by show 0 < 1; omega)
    rw [hL0] at h1
    rw [prs_of e00 h1]
    rfl
  · right
    obtain ⟨f, p, hf⟩ := too_deep (en := L0) x hw 3 1 1 us [⟨[41], p1⟩, ⟨[42], p1 + 1⟩, ⟨[49], p1 + 1 + 1⟩] (by omega) (by omega) (by omega) (by rw [sd_one hw.okb]; omega) (by rw [sk_one hw.okb]; exact u1)
    have ho : one nb L0 (f + 1) 0 ((⟨[40], 0⟩ : Tk) :: (us ++ [⟨[41], p1⟩, ⟨[42], p1 + 1⟩, ⟨[49], p1 + 1 + 1⟩])) = some (.error (4, p)) := by
      rw [one, if_neg (by show ¬ isN [40] = true; decide), if_neg (by show ¬ isU [40] = true; decide), if_pos rfl, if_neg (by omega), hf]
    obtain ⟨f', hf'⟩ := err_up 3 1 _ (by omega) ho
    rw [hL0] at hf'
    exact ⟨p, prs_of e00 hf'⟩
/-- Numbers of 64 bits. -/
def R64 (n : Int) : Prop := -9223372036854775808 ≤ n ∧ n < 9223372036854775808
theorem wrap_r (n : Int) : R64 (wrap64 n) := by
  unfold wrap64 R64
  omega
theorem bits_r (o : BinOp) (a b : Int) : R64 (bits o .i64 a b) := by
  unfold bits
  rw [IntKind.wrap_i64]
  unfold R64
  omega
theorem jn_r (o : List UInt8) (a b : Int) : R64 (jn o a b) := by
  unfold jn
  repeat' split
  all_goals first | exact wrap_r _ | exact bits_r _ _ _ | (unfold R64; omega)
theorem ev_r {env : List UInt8 → Option Int} (he : ∀ t n, env t = some n → R64 n) {x : Ex} (hx : Nw x) {n : Int} (h : ev env x = .ok n) : R64 n := by
  cases x with
  | num a k => rw [ev] at h; injection h with h; rw [← h]; obtain ⟨h1, h2⟩ := hx; unfold R64; omega
  | nam a t =>
    rw [ev] at h
    cases hv : env t with
    | none => rw [hv] at h; cases h
    | some k => rw [hv] at h; injection h with h; rw [← h]; exact he t k hv
  | bin a o l r =>
    rw [ev] at h
    split at h
    · cases h
    · split at h
      · cases h
      · injection h with h
        rw [← h]
        exact jn_r _ _ _
theorem Nw.fit {x : Ex} (h : Nw x) : Fit x := by
  induction x with
  | num a n => obtain ⟨h1, h2⟩ := h; show _ ∧ _; omega
  | nam a t => trivial
  | bin a o l r il ir => exact ⟨il h.1, ir h.2⟩
end Go.Proofs.YtococaecjecjgaaGreatDoor.ex
