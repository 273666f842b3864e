/- Texts laid together: LayR, Tm5, Tm6, Tm7, Tm8. -/
import Derived.Test.YtococaecjecjgaaGreatDoorChecked
import Derived.Shelf.Strings.Repeat
import Derived.Test.YtococaecjecjgaaGreatDoorXLayoutReads11
import Derived.Deep.RegionHeld3
import Derived.Deep.MidRow
/- The library's own texts that a call comes to, as this program has them: laid on the shelf's. -/
namespace Go.Proofs.YtococaecjecjgaaGreatDoor.layR
open Go.Shelf
def rf : FuncId → FuncId
  | 99 => 109
  | 105 => 179
  | 165 => 196
  | 166 => 93
  | 169 => 66
  | 170 => 197
  | 206 => 140
  | 212 => 195
  | 240 => 125
  | 241 => 207
  | 263 => 206
  | 264 => 200
  | 276 => 154
  | 277 => 215
  | x => x
def rt : TypeId → TypeId
  | 0 => 0
  | 3 => 3
  | 4 => 4
  | 5 => 5
  | 9 => 9
  | 20 => 20
  | 37 => 79
  | 46 => 85
  | 51 => 260
  | 53 => 102
  | 70 => 78
  | 72 => 81
  | 75 => 34
  | 76 => 172
  | 80 => 73
  | 109 => 271
  | 127 => 190
  | 146 => 261
  | 148 => 275
  | 164 => 204
  | x => x
def rg : Nat → Nat

  | x => x
def ren : Ren := ⟨rf, rt, rg⟩
set_option maxRecDepth 100000 in
theorem laid105 : Lays.n105 Tryz.prog ren where
  mixed := by kernel_rfl
  f99 := by kernel_rfl
  f105 := by kernel_rfl
  f165 := by kernel_rfl
  f166 := by kernel_rfl
  f169 := by kernel_rfl
  f170 := by kernel_rfl
  f206 := by kernel_rfl
  f212 := by kernel_rfl
  f240 := by kernel_rfl
  f241 := by kernel_rfl
  f263 := by kernel_rfl
  f264 := by kernel_rfl
  f276 := by kernel_rfl
  f277 := by kernel_rfl
  t0 := by kernel_rfl
  a0 := fun _ => by kernel_rfl
  z0 := fun _ => by kernel_rfl
  v0 := fun _ => by kernel_rfl
  t3 := by kernel_rfl
  a3 := fun _ => by kernel_rfl
  z3 := fun _ => by kernel_rfl
  v3 := fun _ => by kernel_rfl
  t4 := by kernel_rfl
  a4 := fun _ => by kernel_rfl
  z4 := fun _ => by kernel_rfl
  v4 := fun _ => by kernel_rfl
  t5 := by kernel_rfl
  a5 := fun _ => by kernel_rfl
  z5 := fun _ => by kernel_rfl
  v5 := fun _ => by kernel_rfl
  t9 := by kernel_rfl
  a9 := fun _ => by kernel_rfl
  z9 := fun _ => by kernel_rfl
  v9 := fun _ => by kernel_rfl
  t20 := by kernel_rfl
  a20 := fun _ => by kernel_rfl
  z20 := fun _ => by kernel_rfl
  v20 := fun _ => by kernel_rfl
  t37 := by kernel_rfl
  a37 := fun _ => by kernel_rfl
  z37 := fun _ => by kernel_rfl
  v37 := fun _ => by kernel_rfl
  t46 := by kernel_rfl
  a46 := fun _ => by kernel_rfl
  z46 := fun _ => by kernel_rfl
  v46 := fun _ => by kernel_rfl
  t51 := by kernel_rfl
  a51 := fun _ => by kernel_rfl
  z51 := fun _ => by kernel_rfl
  v51 := fun _ => by kernel_rfl
  t53 := by kernel_rfl
  a53 := fun _ => by kernel_rfl
  z53 := fun _ => by kernel_rfl
  v53 := fun _ => by kernel_rfl
  t70 := by kernel_rfl
  a70 := fun _ => by kernel_rfl
  z70 := fun _ => by kernel_rfl
  v70 := fun _ => by kernel_rfl
  t72 := by kernel_rfl
  a72 := fun _ => by kernel_rfl
  z72 := fun _ => by kernel_rfl
  v72 := fun _ => by kernel_rfl
  t75 := by kernel_rfl
  a75 := fun _ => by kernel_rfl
  z75 := fun _ => by kernel_rfl
  v75 := fun _ => by kernel_rfl
  t76 := by kernel_rfl
  a76 := fun _ => by kernel_rfl
  z76 := fun _ => by kernel_rfl
  v76 := fun _ => by kernel_rfl
  t109 := by kernel_rfl
  a109 := fun _ => by kernel_rfl
  z109 := fun _ => by kernel_rfl
  v109 := fun _ => by kernel_rfl
  t127 := by kernel_rfl
  a127 := fun _ => by kernel_rfl
  z127 := fun _ => by kernel_rfl
  v127 := fun _ => by kernel_rfl
  t146 := by kernel_rfl
  a146 := fun _ => by kernel_rfl
  z146 := fun _ => by kernel_rfl
  v146 := fun _ => by kernel_rfl
  t148 := by kernel_rfl
  a148 := fun _ => by kernel_rfl
  z148 := fun _ => by kernel_rfl
  v148 := fun _ => by kernel_rfl
  t164 := by kernel_rfl
  a164 := fun _ => by kernel_rfl
  z164 := fun _ => by kernel_rfl
  v164 := fun _ => by kernel_rfl
set_option maxRecDepth 100000 in
theorem extra : Builder.Extra Tryz.prog ren where
  sizeBuilder := by kernel_rfl
  liesBuilder := by kernel_rfl
  t5 := by kernel_rfl
  a5 := fun _ => by kernel_rfl
  z5 := fun _ => by kernel_rfl
  v5 := fun _ => by kernel_rfl
  infoByte := by kernel_rfl
  cellsByte := by kernel_rfl
  sizeByte := by kernel_rfl
  neB5 := by decide
end Go.Proofs.YtococaecjecjgaaGreatDoor.layR
/- A reader of a template's tokens: an expression, up to its mark. -/
namespace Go.Proofs.YtococaecjecjgaaGreatDoor.tm
set_option linter.unusedVariables false
open Go.ChangeShapes Go.WideShapes Go.ChangeAt Go.RowKit Go.Shelf
open mem lx ex

theorem at_below {B : Nat} {w w' : World} (h : Below B w w') {a : Addr} {v : Value} (ha : a.block < B) (hc : w.cell? a = some v) : w'.cell? a = some v := by
  unfold World.cell? at hc ⊢
  rw [h.block _ ha]
  exact hc
theorem gd_below {w w' : World} (h : ex.Gd w) (hb : Below 6 w w') : ex.Gd w' := by
  refine ⟨fun j t ht => at_below hb (show 3 < 6 by decide) (h.ms j t ht), ?_, h.pw.below hb (by decide), Nat.lt_of_lt_of_le h.lt hb.size⟩
  have h1 := h.er
  unfold errs.Laid at h1 ⊢
  exact at_below hb (by show (_ : Nat) < _; decide) h1
theorem gp_below {P : Nat} {w w' : World} (h : Gp P w w') (hP : 6 ≤ P) (hlt : P < w.heap.size) : Below 6 w w' := ⟨h.os, h.tape, h.output, h.size, fun k hk => h.block k (by omega) (by omega)⟩
theorem repeat_at (c : Nat) (w : World) (hc : c ≤ 3000) :
    Calls Tryz.prog 179 #[.string ⟨#[32]⟩, .int .i64 (c : Int)] w fun e w' => e = .returned (.string (tx (List.replicate c 32))) ∧ Bl w w' := by
  have h := Any.strings_Repeat layR.laid105 layR.extra ⟨#[32]⟩ c w (by omega) (by
    show 1 * c ≤ _
    omega)
  have e : (Lib.repeatL (ByteArray.mk #[32]).data.toList c) = List.replicate c 32 := by
    induction c with
    | zero => rfl
    | succ c ih =>
      rw [List.replicate_succ, Lib.repeatL]
      rw [ih (by omega) (Any.strings_Repeat layR.laid105 layR.extra ⟨#[32]⟩ c w (by omega) (by show 1 * c ≤ _; omega))]
      rfl
  rw [e] at h
  exact h
/-- What a piece tells, ahead of a mark: of the text with blanks ahead of it. -/
theorem piece_is {s : ByteArray} {m : List UInt8} (hm : Em m) {pre ts : List Tk} (h : lx (L s) 0 = (pre ++ ts, none)) :
    (hd s.size ts).a ≤ (hd s.size (from_ m ts)).a ∧ (hd s.size (from_ m ts)).a ≤ s.size ∧ ∃ q, prs (L (tx (List.replicate (hd s.size ts).a 32) ++ s.extract (hd s.size ts).a (hd s.size (from_ m ts)).a)) = whole q ∧
    rx nb s.size m ts = rxq s.size (from_ m ts) q := by
  have h' : lx (L s) 0 = (pre ++ (upto m ts ++ from_ m ts), none) := by rw [upto_from]; exact h
  obtain ⟨k1, k2, k3⟩ := lx_seg h'
  simp only [upto_from, L_len] at k1 k2 k3
  obtain ⟨A, hA⟩ : ∃ A, A = (hd s.size ts).a := ⟨_, rfl⟩
  obtain ⟨B, hB⟩ : ∃ B, B = (hd s.size (from_ m ts)).a := ⟨_, rfl⟩
  rw [← hA, ← hB] at k1 k3
  rw [← hB] at k2
  rw [← hA, ← hB]
  refine ⟨k1, k2, ?_⟩
  have eL : L (tx (List.replicate A 32) ++ s.extract A B) = List.replicate A 32 ++ ((L s).drop A).take (B - A) := by
    rw [L_app, L_tx, L_ext, List.drop_take]
  rw [eL]
  have hlen : (List.replicate A (32 : UInt8) ++ ((L s).drop A).take (B - A)).length = B := by
    rw [List.length_append, List.length_replicate, List.length_take, List.length_drop, L_len]; omega
  obtain ⟨q, hq⟩ : ∃ q, row nb B (10 * (upto m ts).length + 10) 1 0 (upto m ts) = some q := by
    cases h : row nb B (10 * (upto m ts).length + 10) 1 0 (upto m ts) with
    | none => exact absurd h ((some_all _).1 1 0 _ (by omega) (by omega))
    | some q => exact ⟨q, rfl⟩
  refine ⟨q, ?_, ?_⟩
  · refine prs_of (f := 10 * (upto m ts).length + 10) k3 ?_
    rw [hlen]; exact hq
  · refine rx_upto hm (f := 10 * (upto m ts).length + 10) (by rw [← hB]; exact hq) ?_
    intro x r hx
    rw [hx] at hq
    exact (mem_all _).1 _ _ _ _ _ hq
/-- What reading an expression answers. -/
def XAns (m : List UInt8) (P : Nat) (s : ByteArray) (ts : List Tk) (d mb : Nat) (w : World) (e : Ending) (w' : World) : Prop :=
  Gp P w w' ∧ ((∃ x v, rx nb s.size m ts = .ok (x, from_ m ts) ∧ e = .returned v ∧ IsX w' v x ∧ RdT w' P s (from_ m ts) d mb) ∨
    (∃ c p B, rx nb s.size m ts = .error (c, p) ∧ e = thrownT B ∧ w.heap.size ≤ B ∧ AtX w' B c ((p : Nat) : Int)) ∨
    (rx nb s.size m ts = .error (3, s.size) ∧ ∃ x v, e = .returned v ∧ IsX w' v x ∧ RdT w' P s [] d mb))
theorem RdT.setLeft {w : World} {P d mb : Nat} {s : ByteArray} {ts ts' : List Tk} {p : Option Addr} {c : Nat} (h : RdT w P s ts d mb) (hl : ts'.length ≤ c) (hin : tr.In w p ts') (hp : ∀ x, p = some x → x.block < P) (hs : ∃ pre, lx (L s) 0 = (pre ++ ts', none)) : RdT (w.setCell ⟨P, 1, none⟩ (.slice p ts'.length c)) P s ts' d mb := by
  obtain ⟨p0, c0, h1, h2, h3, h4⟩ := h.ex
  have hg : Gp P w (w.setCell ⟨P, 1, none⟩ (.slice p ts'.length c)) := Gp.set _
  refine h.gp' hg ⟨p, c, ?_, hl, ?_, hp⟩ hs
  · simp [World.setCell, Array.getElem?_modify, h1]
  · have hP := lt_of_heap h1
    exact In.gp hin hg (fun y hy => by have := hp y hy; exact ⟨by omega, by omega⟩)
theorem from_sx {s : ByteArray} {m : List UInt8} {ts : List Tk} (h : ∃ pre, lx (L s) 0 = (pre ++ ts, none)) : ∃ pre, lx (L s) 0 = (pre ++ from_ m ts, none) := by
  obtain ⟨pre, hp⟩ := h
  refine ⟨pre ++ upto m ts, ?_⟩
  rw [List.append_assoc, upto_from]
  exact hp
/-- A slice from a place on. -/
theorem in_drop {w : World} {p : Option Addr} {ts : List Tk} {c k : Nat} (h : tr.In w p ts) (hl : ts.length ≤ c) (hk : k ≤ ts.length) : tr.In w (if k = c then p else p.map (fun x => x.add (k * 2))) (ts.drop k) := by
  by_cases h0 : k = ts.length
  · rw [h0, List.drop_length]; exact Or.inl rfl
  · have hkc : ¬ k = c := by omega
    rw [if_neg hkc]
    rcases h with rfl | ⟨x, rfl, h2⟩
    · simp at hk; simp at h0; omega
    · refine Or.inr ⟨x.add (k * 2), rfl, fun j u hu => ?_⟩
      rw [Addr.add_add]
      refine h2 (k * 2 + j) u ?_
      have e : tr.rowE ts = tr.rowE (ts.take k) ++ tr.rowE (ts.drop k) := by rw [← tr.rowE_append, List.take_append_drop]
      rw [e, List.getElem?_append_right (by rw [tr.rowE_len, List.length_take]; omega), tr.rowE_len, List.length_take, show min k ts.length = k by omega, show k * 2 + j - k * 2 = j by omega]
      exact hu
/-- The slice behind the tokens that are gone over. -/
def cutP (p : Option Addr) (k c : Nat) : Option Addr := if k = c then p else p.map (fun x => x.add (k * 2))
theorem cutP_block {p : Option Addr} {k c P : Nat} (h : ∀ x, p = some x → x.block < P) : ∀ x, cutP p k c = some x → x.block < P := by
  intro x hx
  unfold cutP at hx
  split at hx
  · exact h x hx
  · cases p with
    | none => cases hx
    | some y =>
      injection hx with hx
      rw [← hx]
      have : (y.add (k * 2)).block = y.block := by cases (k * 2) <;> rfl
      rw [this]
      exact h y rfl
theorem from_drop (m : List UInt8) (ts : List Tk) : from_ m ts = ts.drop (upto m ts).length := by
  conv => rhs; arg 2; rw [← upto_from m ts]
  rw [List.drop_left]
/-- What reading a piece of a text answers. -/
theorem parse_of {S : ByteArray} {q : Res} (hq : prs (L S) = whole q) (w : World) (hs : S.size ≤ 3000) (hG : ex.Gd w) :
    Calls Tryz.prog 178 #[.string S] w fun e w' => Bl w w' ∧ match whole q with
      | .ok x => ∃ v, e = .returned (.tuple #[v, .nilIface]) ∧ IsX w' v x
      | .error (c, p) => ∃ B : Nat, e = .returned (.tuple #[.pointer none, .iface 113 (.pointer (some ⟨B, 0, none⟩))]) ∧ w.heap.size ≤ B ∧ AtX w' B c (p : Int) := by
  have := Parse_at S w hs hG.ms hG.er
  unfold PAns at this
  rw [hq] at this
  exact this
theorem xans_ok {m : List UInt8} {P d mb : Nat} {s : ByteArray} {ts : List Tk} {q : Res} {x : Ex} {w w' : World} {v : Value} (hq : rx nb s.size m ts = rxq s.size (from_ m ts) q) (hw : whole q = .ok x) (hg : Gp P w w') (hv : IsX w' v x) (hr : RdT w' P s (from_ m ts) d mb) : XAns m P s ts d mb w (.returned v) w' := by
  refine ⟨hg, ?_⟩
  have e : q = .ok (x, []) := by
    cases q with
    | error e => cases hw
    | ok xr =>
      obtain ⟨y, r⟩ := xr
      cases r with
      | nil => injection hw with hw; rw [hw]
      | cons t r => cases hw
  rw [e] at hq
  unfold rxq at hq
  dsimp only at hq
  by_cases h0 : from_ m ts = []
  · rw [if_pos h0] at hq
    rw [h0] at hr
    exact Or.inr (Or.inr ⟨hq, x, v, rfl, hv, hr⟩)
  · rw [if_neg h0] at hq
    exact Or.inl ⟨x, v, hq, rfl, hv, hr⟩
theorem xans_err {m : List UInt8} {P d mb B : Nat} {s : ByteArray} {ts : List Tk} {q : Res} {c : Int} {p : Nat} {w w' : World} (hq : rx nb s.size m ts = rxq s.size (from_ m ts) q) (hw : whole q = .error (c, p)) (hg : Gp P w w') (hB : w.heap.size ≤ B) (hA : AtX w' B c (p : Int)) : XAns m P s ts d mb w (thrownT B) w' := by
  refine ⟨hg, Or.inr (Or.inl ⟨c, p, B, ?_, rfl, hB, hA⟩)⟩
  rw [hq]
  cases q with
  | error e => injection hw with hw; rw [hw]; rfl
  | ok xr =>
    obtain ⟨y, r⟩ := xr
    cases r with
    | nil => cases hw
    | cons t r => injection hw with hw; show Except.error (3, t.a) = _; rw [hw]
set_option maxRecDepth 10000 in
set_option maxHeartbeats 2000000 in
theorem expr_at (m : ByteArray) (hm : Em (L m)) (w : World) (P d mb : Nat) (s : ByteArray) (ts : List Tk) (h : RdT w P s ts d mb) (hG : ex.Gd w) (hGP : 6 ≤ P) :
    Calls Tryz.prog 160 #[.pointer (some ⟨P, 0, none⟩), .string m] w fun e w' => XAns (L m) P s ts d mb w e w' := by
  have hmf : ∀ (fn : Fn) (first cap : Array Value) (w : World), (Instr.makeFunc fn first cap).run Tryz.prog w = .ok (.func fn first cap) w := fun _ _ _ _ => rfl
  have hPw := h.lt
  obtain ⟨w1, hw1⟩ : ∃ w1, w1 = w.alloc (.cells #[.string m] 9) := ⟨_, rfl⟩
  have hb1 : Bl w w1 := by rw [hw1]; exact (Bl.refl _).alloc _
  have hv1 := Vr.new w (.string m) 9
  obtain ⟨N, hN⟩ : ∃ N, N = w.heap.size := ⟨_, rfl⟩
  rw [← hw1, ← hN] at hv1
  have cN1 := next_at w1 P d mb s ts (h.step hb1)
  obtain ⟨T, hT⟩ : ∃ T, T = hd s.size ts := ⟨_, rfl⟩
  rw [← hT] at cN1
  have HR : Hid (RdT w P s ts d mb ∧ ex.Gd w ∧ N = w.heap.size ∧ T = hd s.size ts) := ⟨h, hG, hN, hT⟩
  have hfd1 : ∀ (S : ByteArray) (n : Int) (w : World), (Instr.field 145 (.agg #[.string S, .int .i64 n]) 1).run Tryz.prog w = .ok (.int .i64 n) w := fun _ _ _ => by kernel_rfl
  clear h hG hN hT
  unfold tkV at cN1
  go_enter Tryz.func160, Tryz.ntmps160
  go_wp2_with fail
  rw [← hw1]
  refine cN1.mono ?_
  rintro e w2 ⟨rfl, hb2⟩
  have hb02 := hb1.trans hb2
  have hR2 := HR.out.1.step hb02
  obtain ⟨p, c, d0, d1, d2, d3, dz, hin, hlc, hpb⟩ := hR2.cells
  have cI := index_at m N ts p c w2 hin hlc hR2.len.1 ((hv1.step hb2).cell)
  obtain ⟨n, hn⟩ : ∃ n, n = ts.length := ⟨_, rfl⟩
  rw [← hn] at cI d1
  have HP : Hid (tr.In w2 p ts ∧ ts.length ≤ c ∧ (∀ x, p = some x → x.block < P) ∧ n = ts.length ∧ Bl w w2) := ⟨hin, hlc, hpb, hn, hb02⟩
  have hPs : P < w2.heap.size := by have := hb02.size; omega
  clear hb1 hv1 hb2 hb02 hR2 hin hlc hpb hn cN1
  go_wp2_with fail
  rw [← HR.out.2.2.1]
  refine cI.mono ?_
  rintro e w3 ⟨rfl, hb3⟩
  obtain ⟨U, hU⟩ : ∃ U, U = (upto (L m) ts).length := ⟨_, rfl⟩
  have hUn : U ≤ n := by rw [hU, HP.out.2.2.2.1]; exact (upto_facts _ _).1
  have hW : whereM (L m) ts = if U < n then (U : Int) else -1 := by unfold whereM; rw [hU, HP.out.2.2.2.1]
  have HU : Hid (U = (upto (L m) ts).length) := hU
  have H3 : Hid (Bl w w3 ∧ Bl w2 w3) := ⟨HP.out.2.2.2.2.trans hb3, hb3⟩
  have e0 := at_bl hb3 d0
  have e1 := at_bl hb3 d1
  have e2 := at_bl hb3 d2
  have e3 := at_bl hb3 d3
  have ez : ∀ j, w3.frozen? ⟨P, j, none⟩ = false := by
    obtain ⟨p', c', q⟩ := ((HR.out.1.step H3.out.1)).cells
    exact q.2.2.2.2.1
  have hPs3 : P < w3.heap.size := by have := hb3.size; omega
  have hnc : n ≤ c := by have := HP.out; omega
  clear hU d0 d1 d2 d3 dz cI hb3 hPs
  -- the reader goes on
  -- the reader goes on
  -- the reader goes on
  have HC : Hid (∀ {Q : Option Addr}, Q = (if c = U then p else Option.map (fun x => x.add (U * 2)) p) → RdT (w3.setCell ⟨P, 1, none⟩ (.slice Q (n - U) (c - U))) P s (from_ (L m) ts) d mb) := by
    intro Q hQ
    have h3 := HR.out.1.step H3.out.1
    have hn := HP.out.2.2.2.1
    have hd : from_ (L m) ts = ts.drop U := by rw [from_drop, ← HU.out]
    have hl : (from_ (L m) ts).length = n - U := by rw [hd, List.length_drop, hn]
    rw [← hl]
    refine h3.setLeft (by omega) ?_ ?_ (from_sx h3.sx)
    · have := in_drop (k := U) (HP.out.1.step H3.out.2) HP.out.2.1 (by omega)
      rw [hd, hQ]
      by_cases hc : c = U
      · rw [if_pos hc]; rw [if_pos hc.symm] at this; exact this
      · rw [if_neg hc]; rw [if_neg (fun e => hc e.symm)] at this; exact this
    · intro x hx
      rw [hQ] at hx
      exact cutP_block (k := U) (c := c) HP.out.2.2.1 x (by
        unfold cutP
        by_cases hc : c = U
        · rw [if_pos hc] at hx; rw [if_pos hc.symm]; exact hx
        · rw [if_neg hc] at hx; rw [if_neg (fun e => hc e.symm)]; exact hx)
  by_cases hlt : U < n
  · rw [if_pos hlt] at hW
    rw [hW]
    have hneg : decide ((U : Int) < 0) = false := decide_eq_false (by omega)
    have hz : w3.frozen? ⟨P, 1, none⟩ = false := ez 1
    have hcU : ¬ c = U := by omega
    replace HC : Hid (∀ {Q : Option Addr}, Q = Option.map (fun x => x.add (U * 2)) p → RdT (w3.setCell ⟨P, 1, none⟩ (.slice Q (n - U) (c - U))) P s (from_ (L m) ts) d mb) := by
      intro Q hQ
      exact HC.out (by rw [if_neg hcU]; exact hQ)
    clear hW
    go_upto_region 6 with fail
    obtain ⟨Q, hQ⟩ : ∃ Q, Q = Option.map (fun x => x.add (U * 2)) p := ⟨_, rfl⟩
    obtain ⟨W, hW⟩ : ∃ W, W = w3.setCell ⟨P, 1, none⟩ (.slice Q (n - U) (c - U)) := ⟨_, rfl⟩
    have hRW : RdT W P s (from_ (L m) ts) d mb := by rw [hW]; exact HC.out hQ
    have hgW : Gp P w W := by rw [hW]; exact (Gp.bl H3.out.1).trans (Gp.set _)
    rw [← hQ, ← hW]
    obtain ⟨p', c', f0, _⟩ := hRW.cells
    have HW : Hid (RdT W P s (from_ (L m) ts) d mb ∧ Gp P w W ∧ ex.Gd W) := ⟨hRW, hgW, gd_below HR.out.2.1 (gp_below hgW hGP hPw)⟩
    have hPW : P < W.heap.size := by have := hgW.size; omega
    have f0d := at_bl (Bl.refl W).drew f0
    clear hQ hW hRW hgW e0 e1 e2 e3 ez hPs3 hnc HC hz hmf hw1
    obtain ⟨pre, hpre⟩ := HR.out.1.sx
    obtain ⟨k1, k2, q, hq1, hq2⟩ := piece_is hm hpre
    rw [← HR.out.2.2.2] at k1 hq1
    obtain ⟨T2, hT2⟩ : ∃ T2, T2 = hd s.size (from_ (L m) ts) := ⟨_, rfl⟩
    rw [← hT2] at k1 k2 hq1
    have cN := fun wx (hb : Bl W wx) => next_at wx P d mb s (from_ (L m) ts) (HW.out.1.step hb)
    rw [← hT2] at cN
    have cR := fun wx => repeat_at T.a wx (by have := HR.out.1.sz; omega)
    have hs3 := HR.out.1.sz
    obtain ⟨E, hE⟩ : ∃ E, E = s.extract T.a T2.a := ⟨_, rfl⟩
    have hE' : s.extract T.a T2.a = E := hE.symm
    obtain ⟨R, hR⟩ : ∃ R, R = tx (List.replicate T.a (32 : UInt8)) := ⟨_, rfl⟩
    rw [← hR] at cR
    rw [← hE, ← hR] at hq1
    have hRE : R.size + E.size ≤ 3000 := by
      rw [hR, hE, tx_size, List.length_replicate, ByteArray.size_extract]
      omega
    have hs : (R ++ E).size ≤ 3000 := by rw [ByteArray.size_append]; exact hRE
    have cP := fun wx (hb : Bl W wx) => parse_of hq1 wx hs (HW.out.2.2.step hb)
    have hcat : ¬ 9223372036854775807 < R.size + E.size := by omega
    unfold tkV at cN
    have HE : Hid (E = s.extract T.a T2.a ∧ R = tx (List.replicate T.a (32 : UInt8)) ∧ prs (L (R ++ E)) = whole q ∧ rx nb s.size (L m) ts = rxq s.size (from_ (L m) ts) q) := ⟨hE, hR, hq1, hq2⟩
    have i1 : (T.a : Int) ≤ (T2.a : Int) := by omega
    have i2 : (T2.a : Int) ≤ (s.size : Int) := by omega
    have HBW : Hid (Bl W W.drew) := (Bl.refl W).drew
    clear hE hR hq1 hq2 hpre hs hm hT2
    have HQ := HE.out.2.2.2
    cases hwq : whole q with
    | ok x =>
      rw [hwq] at cP
      go_region_held3 (fun w' => w'.cell? ⟨P, 0, none⟩ = some (.string s)) (first | assumption | exact at_bl ((Bl.refl _).drew) (by assumption) | exact at_bl ((Bl.refl _).alloc _) (by assumption))
      (first
          | (go_at_call 179; (with_reducible refine (cR _).mono ?_); rintro e w6 ⟨rfl, hb6⟩; have s6 := at_bl hb6 f0d; have HB6 : Hid (Bl W w6) := HBW.out.trans hb6; clear hb6)
          | (go_at_call 133; (with_reducible refine (cN _ HB6.out).mono ?_); rintro e w7 ⟨rfl, hb7⟩; have s7 := at_bl hb7 s6; have HB7 : Hid (Bl W w7) := HB6.out.trans hb7; clear hb7)
          | (go_at_call 178; (with_reducible refine (cP _ HB7.out).mono ?_); rintro e w8 ⟨hb8, hans⟩; obtain ⟨v, rfl, hv⟩ := hans; obtain ⟨vb, rfl, _⟩ := hv.ptr; have s8 := at_bl hb8 s7; have H8 : Hid (Bl W w8 ∧ IsX w8 (.pointer (some ⟨vb, 0, none⟩)) x) := ⟨HB7.out.trans hb8, hv⟩; clear hb8 hv))
      clear cP cN cR HQ
      go_wp2
      go_ret
      exact xans_ok HE.out.2.2.2 hwq (HW.out.2.1.trans (Gp.bl H8.out.1)) H8.out.2 (HW.out.1.step H8.out.1)
    | error cp =>
      obtain ⟨c0, p0⟩ := cp
      rw [hwq] at cP
      go_region_held3 (fun w' => w'.cell? ⟨P, 0, none⟩ = some (.string s)) (first | assumption | exact at_bl ((Bl.refl _).drew) (by assumption) | exact at_bl ((Bl.refl _).alloc _) (by assumption))
      (first
          | (go_at_call 179; (with_reducible refine (cR _).mono ?_); rintro e w6 ⟨rfl, hb6⟩; have s6 := at_bl hb6 f0d; have HB6 : Hid (Bl W w6) := HBW.out.trans hb6; clear hb6)
          | (go_at_call 133; (with_reducible refine (cN _ HB6.out).mono ?_); rintro e w7 ⟨rfl, hb7⟩; have s7 := at_bl hb7 s6; have HB7 : Hid (Bl W w7) := HB6.out.trans hb7; clear hb7)
          | (go_at_call 178; (with_reducible refine (cP _ HB7.out).mono ?_); rintro e w8 ⟨hb8, hans⟩; obtain ⟨B, rfl, hsB, hB⟩ := hans; have s8 := at_bl hb8 s7; have H8 : Hid (Bl W w8 ∧ w7.heap.size ≤ B ∧ AtX w8 B c0 (p0 : Int) ∧ Bl W w7) := ⟨HB7.out.trans hb8, hsB, hB, HB7.out⟩; clear hb8 hB hsB))
      clear cP cN cR HQ
      go_wp2
      exact ⟨rfl, xans_err HE.out.2.2.2 hwq (HW.out.2.1.trans (Gp.bl H8.out.1)) (by have := HW.out.2.1.size; have := H8.out.2.2.2.size; have := H8.out.2.1; omega) H8.out.2.2.1⟩
  · rw [if_neg hlt] at hW
    rw [hW]
    have hz : w3.frozen? ⟨P, 1, none⟩ = false := ez 1
    obtain rfl : U = n := by omega
    replace HC : Hid (∀ {Q : Option Addr}, Q = (if c = U then p else Option.map (fun x => x.add (U * 2)) p) → RdT (w3.setCell ⟨P, 1, none⟩ (.slice Q 0 (c - U))) P s (from_ (L m) ts) d mb) := by
      intro Q hQ
      have := HC.out hQ
      rw [Nat.sub_self] at this
      exact this
    clear hW
    go_upto_region 6 with fail
    obtain ⟨Q, hQ⟩ : ∃ Q, Q = (if c = U then p else Option.map (fun x => x.add (U * 2)) p) := ⟨_, rfl⟩
    obtain ⟨W, hW⟩ : ∃ W, W = w3.setCell ⟨P, 1, none⟩ (.slice Q 0 (c - U)) := ⟨_, rfl⟩
    have hRW : RdT W P s (from_ (L m) ts) d mb := by rw [hW]; exact HC.out hQ
    have hgW : Gp P w W := by rw [hW]; exact (Gp.bl H3.out.1).trans (Gp.set _)
    rw [← hQ, ← hW]
    obtain ⟨p', c', f0, _⟩ := hRW.cells
    have HW : Hid (RdT W P s (from_ (L m) ts) d mb ∧ Gp P w W ∧ ex.Gd W) := ⟨hRW, hgW, gd_below HR.out.2.1 (gp_below hgW hGP hPw)⟩
    have hPW : P < W.heap.size := by have := hgW.size; omega
    have f0d := at_bl (Bl.refl W).drew f0
    clear hQ hW hRW hgW e0 e1 e2 e3 ez hPs3 hnc HC hz hmf hw1
    obtain ⟨pre, hpre⟩ := HR.out.1.sx
    obtain ⟨k1, k2, q, hq1, hq2⟩ := piece_is hm hpre
    rw [← HR.out.2.2.2] at k1 hq1
    obtain ⟨T2, hT2⟩ : ∃ T2, T2 = hd s.size (from_ (L m) ts) := ⟨_, rfl⟩
    rw [← hT2] at k1 k2 hq1
    have cN := fun wx (hb : Bl W wx) => next_at wx P d mb s (from_ (L m) ts) (HW.out.1.step hb)
    rw [← hT2] at cN
    have cR := fun wx => repeat_at T.a wx (by have := HR.out.1.sz; omega)
    have hs3 := HR.out.1.sz
    obtain ⟨E, hE⟩ : ∃ E, E = s.extract T.a T2.a := ⟨_, rfl⟩
    have hE' : s.extract T.a T2.a = E := hE.symm
    obtain ⟨R, hR⟩ : ∃ R, R = tx (List.replicate T.a (32 : UInt8)) := ⟨_, rfl⟩
    rw [← hR] at cR
    rw [← hE, ← hR] at hq1
    have hRE : R.size + E.size ≤ 3000 := by
      rw [hR, hE, tx_size, List.length_replicate, ByteArray.size_extract]
      omega
    have hs : (R ++ E).size ≤ 3000 := by rw [ByteArray.size_append]; exact hRE
    have cP := fun wx (hb : Bl W wx) => parse_of hq1 wx hs (HW.out.2.2.step hb)
    have hcat : ¬ 9223372036854775807 < R.size + E.size := by omega
    unfold tkV at cN
    have HE : Hid (E = s.extract T.a T2.a ∧ R = tx (List.replicate T.a (32 : UInt8)) ∧ prs (L (R ++ E)) = whole q ∧ rx nb s.size (L m) ts = rxq s.size (from_ (L m) ts) q) := ⟨hE, hR, hq1, hq2⟩
    have i1 : (T.a : Int) ≤ (T2.a : Int) := by omega
    have i2 : (T2.a : Int) ≤ (s.size : Int) := by omega
    have HBW : Hid (Bl W W.drew) := (Bl.refl W).drew
    clear hE hR hq1 hq2 hpre hs hm hT2
    have HQ := HE.out.2.2.2
    cases hwq : whole q with
    | ok x =>
      rw [hwq] at cP
      go_region_held3 (fun w' => w'.cell? ⟨P, 0, none⟩ = some (.string s)) (first | assumption | exact at_bl ((Bl.refl _).drew) (by assumption) | exact at_bl ((Bl.refl _).alloc _) (by assumption))
      (first
          | (go_at_call 179; (with_reducible refine (cR _).mono ?_); rintro e w6 ⟨rfl, hb6⟩; have s6 := at_bl hb6 f0d; have HB6 : Hid (Bl W w6) := HBW.out.trans hb6; clear hb6)
          | (go_at_call 133; (with_reducible refine (cN _ HB6.out).mono ?_); rintro e w7 ⟨rfl, hb7⟩; have s7 := at_bl hb7 s6; have HB7 : Hid (Bl W w7) := HB6.out.trans hb7; clear hb7)
          | (go_at_call 178; (with_reducible refine (cP _ HB7.out).mono ?_); rintro e w8 ⟨hb8, hans⟩; obtain ⟨v, rfl, hv⟩ := hans; obtain ⟨vb, rfl, _⟩ := hv.ptr; have s8 := at_bl hb8 s7; have H8 : Hid (Bl W w8 ∧ IsX w8 (.pointer (some ⟨vb, 0, none⟩)) x) := ⟨HB7.out.trans hb8, hv⟩; clear hb8 hv))
      clear cP cN cR HQ
      go_wp2
      go_ret
      exact xans_ok HE.out.2.2.2 hwq (HW.out.2.1.trans (Gp.bl H8.out.1)) H8.out.2 (HW.out.1.step H8.out.1)
    | error cp =>
      obtain ⟨c0, p0⟩ := cp
      rw [hwq] at cP
      go_region_held3 (fun w' => w'.cell? ⟨P, 0, none⟩ = some (.string s)) (first | assumption | exact at_bl ((Bl.refl _).drew) (by assumption) | exact at_bl ((Bl.refl _).alloc _) (by assumption))
      (first
          | (go_at_call 179; (with_reducible refine (cR _).mono ?_); rintro e w6 ⟨rfl, hb6⟩; have s6 := at_bl hb6 f0d; have HB6 : Hid (Bl W w6) := HBW.out.trans hb6; clear hb6)
          | (go_at_call 133; (with_reducible refine (cN _ HB6.out).mono ?_); rintro e w7 ⟨rfl, hb7⟩; have s7 := at_bl hb7 s6; have HB7 : Hid (Bl W w7) := HB6.out.trans hb7; clear hb7)
          | (go_at_call 178; (with_reducible refine (cP _ HB7.out).mono ?_); rintro e w8 ⟨hb8, hans⟩; obtain ⟨B, rfl, hsB, hB⟩ := hans; have s8 := at_bl hb8 s7; have H8 : Hid (Bl W w8 ∧ w7.heap.size ≤ B ∧ AtX w8 B c0 (p0 : Int) ∧ Bl W w7) := ⟨HB7.out.trans hb8, hsB, hB, HB7.out⟩; clear hb8 hB hsB))
      clear cP cN cR HQ
      go_wp2
      exact ⟨rfl, xans_err HE.out.2.2.2 hwq (HW.out.2.1.trans (Gp.bl H8.out.1)) (by have := HW.out.2.1.size; have := H8.out.2.2.2.size; have := H8.out.2.1; omega) H8.out.2.2.1⟩
end Go.Proofs.YtococaecjecjgaaGreatDoor.tm
/- A reader of a template's tokens: many, ruleOf, rule. -/
namespace Go.Proofs.YtococaecjecjgaaGreatDoor.tm
set_option linter.unusedVariables false
open Go.ChangeShapes Go.WideShapes Go.ChangeAt Go.RowKit Go.Shelf
open mem lx ex

/-- The words of rules, and those for numbers, lie where they are laid. -/
def ruL : List Value := [.string (tx []), .string (tx wSize), .string (tx wCount), .string (tx wCheck)]
def nuL : List Value := numW.flatMap fun p => [.string (tx p.1), .int .i64 (p.2.1 : Int), .int .i64 (p.2.2.1 : Int), .bool p.2.2.2]
structure Gt (w : World) : Prop where
  gd : ex.Gd w
  ru : w.rangeAt 2 0 ruL
  nu : w.rangeAt 0 0 nuL
theorem range_below {B g : Nat} {l : List Value} {w w' : World} (h : Below B w w') (hg : g < B) (hr : w.rangeAt g 0 l) : w'.rangeAt g 0 l := fun j v hv => at_below h hg (hr j v hv)
theorem Gt.below {w w' : World} (h : Gt w) (hb : Below 6 w w') : Gt w' := ⟨gd_below h.gd hb, range_below hb (by decide) h.ru, range_below hb (by decide) h.nu⟩
theorem Gt.bl {w w' : World} (h : Gt w) (hb : Bl w w') : Gt w' := ⟨h.gd.step hb, fun j v hv => at_bl hb (h.ru j v hv), fun j v hv => at_bl hb (h.nu j v hv)⟩
theorem Gt.gp {P : Nat} {w w' : World} (h : Gt w) (hb : Gp P w w') (hP : 6 ≤ P) (hlt : P < w.heap.size) : Gt w' := h.below (gp_below hb hP hlt)
/-- In brackets. -/
theorem many_at (w : World) (P d mb : Nat) (s : ByteArray) (ts : List Tk) (h : RdT w P s ts d mb) (hG : Gt w) (hGP : 6 ≤ P) :
    Calls Tryz.prog 161 #[.pointer (some ⟨P, 0, none⟩)] w fun e w' => Ans (fun w' v x => IsX w' v x) P s d mb w (many nb s.size ts) e w' := by
  have c1 := want_at ⟨#[91]⟩ w P d mb s ts h
  have hP := h.lt
  obtain ⟨q, hq⟩ : ∃ q, q = many nb s.size ts := ⟨_, rfl⟩
  rw [← hq]
  have HR : Hid (RdT w P s ts d mb ∧ Gt w) := ⟨h, hG⟩
  clear h hG
  have e91 : L ⟨#[91]⟩ = [91] := rfl
  rw [e91] at c1
  by_cases h1 : (hd s.size ts).t = [91]
  · rw [wantU_yes h1] at c1
    have hq1 : q = match rx nb s.size [93] ts.tail with
      | .error e => .error e
      | .ok (x, r) => .ok (x, r.tail) := by
      rw [hq]; unfold many want; rw [if_pos h1]; rfl
    have HQ : Hid (q = match rx nb s.size [93] ts.tail with
      | .error e => .error e
      | .ok (x, r) => .ok (x, r.tail)) := hq1
    clear hq hq1
    go_enter Tryz.func161, Tryz.ntmps161
    go_wp2_with fail
    refine c1.mono ?_
    rintro e w1 ⟨hg1, v1, rfl, rfl, hR1⟩
    have c2 := expr_at ⟨#[93]⟩ em_cb w1 P d mb s ts.tail hR1 (HR.out.2.gd |> fun g => gd_below g (gp_below hg1 hGP hP)) hGP
    have hs1 := hg1.size
    unfold tkV
    go_wp2_with fail
    refine c2.mono ?_
    rintro e w2 ⟨hg2, hans⟩
    rw [show L ⟨#[93]⟩ = [93] from rfl] at hans
    have hg02 := hg1.trans hg2
    rcases hans with ⟨x, v, hx, rfl, hv, hR2⟩ | ⟨c, p, B, hx, rfl, hB, hA⟩ | ⟨hx, x, v, rfl, hv, hR2⟩
    · obtain ⟨vb, rfl, _⟩ := hv.ptr
      have c3 := want_at ⟨#[93]⟩ w2 P d mb s _ hR2
      have hm := (rx_is hx).2
      rw [show L ⟨#[93]⟩ = [93] from rfl, wantU_yes hm] at c3
      have HQ2 : Hid (q = .ok (x, (from_ [93] ts.tail).tail)) := by rw [HQ.out, hx]; rfl
      obtain ⟨cs, hcs⟩ := hR2.is
      have HV : Hid (IsX w2 (.pointer (some ⟨vb, 0, none⟩)) x ∧ Gp P w w2) := ⟨hv, hg02⟩
      have HCS : Hid (w2.heap[P]? = some (.cells cs 129 (0, 0))) := hcs
      clear hx hm hR2 hcs hv c2
      go_wp2_with fail
      refine c3.mono ?_
      rintro e w3 ⟨hg3, v3, rfl, rfl, hR3⟩
      unfold tkV
      go_wp2
      go_ret
      rw [HQ2.out]
      refine ⟨HV.out.2.trans hg3, _, rfl, HV.out.1.keep ?_, hR3⟩
      intro b cs' hb
      rw [hg3.block b (lt_of_heap hb) (fun e => by
        have := HCS.out
        rw [e, this] at hb; simp at hb)]
      exact hb
    · have HQ2 : Hid (q = .error (c, p)) := by rw [HQ.out, hx]; rfl
      unfold thrownT
      clear hx c2 hR1
      go_wp2
      refine ⟨rfl, ?_⟩
      rw [HQ2.out]
      exact Ans.err hg02 (by omega) hA
    · have c3 := want_at ⟨#[93]⟩ w2 P d mb s _ hR2
      obtain ⟨vb, rfl, _⟩ := hv.ptr
      rw [show L ⟨#[93]⟩ = [93] from rfl, wantU_no (show ¬ (hd s.size ([] : List Tk)).t = [93] by show ¬ ([] : List UInt8) = [93]; decide)] at c3
      have HQ2 : Hid (q = .error (3, s.size)) := by rw [HQ.out, hx]; rfl
      have HV : Hid (Gp P w w2) := hg02
      clear hx hR2 hv c2
      go_wp2_with fail
      refine c3.mono ?_
      rintro e w3 ⟨hg3, B, rfl, hB, hA⟩
      unfold thrownT
      go_wp2
      refine ⟨rfl, ?_⟩
      rw [HQ2.out]
      exact Ans.err (HV.out.trans hg3) (by have := HV.out.size; omega) hA
  · rw [wantU_no h1] at c1
    have HQ : Hid (q = .error (3, (hd s.size ts).a)) := by rw [hq]; unfold many want; rw [if_neg h1]; rfl
    clear hq
    go_enter Tryz.func161, Tryz.ntmps161
    go_wp2_with fail
    refine c1.mono ?_
    rintro e w1 ⟨hg1, B, rfl, hB, hA⟩
    unfold thrownT
    go_wp2
    refine ⟨rfl, ?_⟩
    rw [HQ.out]
    exact Ans.err hg1 hB hA
theorem info4 : (Tryz.prog.info? 243).map (·.size) = some ruL.length := by kernel_rfl
theorem run_rule (w : World) (j : Nat) (u : Value) (h : ruL[j]? = some u) : (Instr.index 243 (.agg ruL.toArray) (.int .i64 (j : Int))).run Tryz.prog w = .ok u w := by
  rcases j with _ | _ | _ | _ | j
  · obtain rfl := Option.some.inj h; kernel_rfl
  · obtain rfl := Option.some.inj h; kernel_rfl
  · obtain rfl := Option.some.inj h; kernel_rfl
  · obtain rfl := Option.some.inj h; kernel_rfl
  · exact absurd h (by simp [ruL])
def rwL : List (List UInt8) := [[], wSize, wCount, wCheck]
theorem ruL_is (j : Nat) (t : List UInt8) (h : rwL[j]? = some t) : ruL[j]? = some (.string (tx t)) := by
  have : ruL = rwL.map fun t => Value.string (tx t) := rfl
  rw [this, List.getElem?_map, h]; rfl
theorem ruleOf_hit (t : List UInt8) (j : Nat) (h : rwL[j]? = some t) (hn : ∀ i u, i < j → rwL[i]? = some u → u ≠ t) : ruleOf t = j := by
  rcases j with _ | _ | _ | _ | j
  · obtain rfl := Option.some.inj h; decide
  · obtain rfl := Option.some.inj h; decide
  · obtain rfl := Option.some.inj h; decide
  · obtain rfl := Option.some.inj h; decide
  · exact absurd h (by simp [rwL])
theorem ruleOf_miss (t : List UInt8) (hn : ∀ i u, i < 4 → rwL[i]? = some u → u ≠ t) : ruleOf t = 0 := by
  unfold ruleOf
  rw [if_neg (fun e => hn 1 _ (by omega) rfl e.symm), if_neg (fun e => hn 2 _ (by omega) rfl e.symm), if_neg (fun e => hn 3 _ (by omega) rfl e.symm)]
set_option maxRecDepth 10000 in
theorem ruleOf_at (t : List UInt8) (w : World) (hr : w.rangeAt 2 0 ruL) :
    Calls Tryz.prog 198 #[.string (tx t)] w fun e w' => e = .returned (.int .i64 (ruleOf t : Int)) ∧ w' = w := by
  have hR : Hid (w.rangeAt 2 0 ruL) := hr
  have htl := tl_tx t
  obtain ⟨q, hq⟩ : ∃ q : Nat, q = ruleOf t := ⟨_, rfl⟩
  rw [← hq]
  have HQ : Hid (q = ruleOf t) := hq
  obtain ⟨S, hS⟩ : ∃ S, S = tx t := ⟨_, rfl⟩
  rw [← hS] at htl ⊢
  clear hr hq hS
  go_enter Tryz.func198, Tryz.ntmps198
  go_upto_region 1 with fail
  refine wp_region_lit ?_
  refine wpList_load_mid rfl 243 _ rfl 2 0 rfl ruL _ hR.out Tryz.underlying243 rfl info4 ?_
  generalize hAV : Value.agg ruL.toArray = AV
  have HAV : Hid (Value.agg ruL.toArray = AV) := hAV
  clear hAV hR
  go_wp2
  go_loopw [6] (fun i wr => ∃ j : Nat, j ≤ 4 ∧ i = .int .i64 (j : Int) ∧ wr = w ∧ Hid (∀ i u, i < j → rwL[i]? = some u → u ≠ t)) (fun i _ => 4 - (intOf i).toNat)
  case atStart => exact ⟨0, by omega, rfl, rfl, fun i u h => by omega⟩
  case round =>
    obtain ⟨j, hj, rfl, rfl, HP⟩ := hrel
    by_cases h4 : j < 4
    · have d1 : decide ((j : Int) < 4) = true := decide_eq_true (by omega)
      obtain ⟨u, hu⟩ : ∃ u, rwL[j]? = some u := ⟨_, List.getElem?_eq_getElem (show j < rwL.length from h4)⟩
      have hix := run_rule wr j _ (ruL_is j u hu)
      rw [HAV.out] at hix
      have hul := tl_tx u
      by_cases hp : u = t
      · have HR : Hid (q = j) := by rw [HQ.out]; exact ruleOf_hit t j (by rw [hu, hp]) HP.out
        have hb : ((tx u).toList == S.toList) = true := by rw [hul, htl, hp]; simp
        clear hp hu htl hul
        generalize tx u = U at *
        go_wp2
        go_ret
        exact ⟨ret_int (by rw [HR.out]), rfl⟩
      · have hb : ((tx u).toList == S.toList) = false := by rw [hul, htl, beq_eq_false_iff_ne]; exact hp
        have HP' : Hid (∀ i v, i < j + 1 → rwL[i]? = some v → v ≠ t) := by
          intro i v hi hv
          rcases Nat.lt_or_ge i j with h | h
          · exact HP.out i v h hv
          · obtain rfl : i = j := by omega
            rw [hu] at hv
            injection hv with hv
            rw [← hv]; exact hp
        clear hp hu htl hul
        generalize tx u = U at *
        go_wp2
        go_roundw
        case rel => exact ⟨j + 1, by omega, by go_num, by first | rfl | trivial, HP'.out⟩
        case measure => simp [intOf]; omega
    · obtain rfl : j = 4 := by omega
      have HR : Hid (q = 0) := by rw [HQ.out]; exact ruleOf_miss t HP.out
      go_wp2
      go_ret
      exact ⟨ret_int (by rw [HR.out]; rfl), rfl⟩
end Go.Proofs.YtococaecjecjgaaGreatDoor.tm
/- A reader of a template's tokens: rule. -/
namespace Go.Proofs.YtococaecjecjgaaGreatDoor.tm
set_option linter.unusedVariables false
open Go.ChangeShapes Go.WideShapes Go.ChangeAt Go.RowKit Go.Shelf
open mem lx ex

/-- An item's variable. -/
structure Iv (w : World) (X : Nat) (c : C) : Prop where
  h : w.heap[X]? = some (.cells (cl c).toArray 60 (0, 0))
theorem Iv.lt {w : World} {X : Nat} {c : C} (h : Iv w X c) : X < w.heap.size := lt_of_heap h.h
theorem Iv.cell {w : World} {X : Nat} {c : C} (h : Iv w X c) (j : Nat) : w.cell? ⟨X, j, none⟩ = (cl c)[j]? := by rw [cell_of h.h]; simp
theorem Iv.fz {w : World} {X : Nat} {c : C} (h : Iv w X c) (j : Nat) : w.frozen? ⟨X, j, none⟩ = false := by simp [World.frozen?, h.h]
theorem Iv.bl {w w' : World} {X : Nat} {c : C} (h : Iv w X c) (hb : Bl w w') : Iv w' X c := ⟨by rw [Below.block hb X h.lt]; exact h.h⟩
theorem Iv.gp {w w' : World} {P X : Nat} {c : C} (h : Iv w X c) (hb : Gp P w w') (hne : X ≠ P) : Iv w' X c := ⟨by rw [hb.block X h.lt hne]; exact h.h⟩
theorem Iv.set {w : World} {X j : Nat} {c c' : C} {u : Value} (h : Iv w X c) (he : (cl c).toArray.setIfInBounds j u = (cl c').toArray) : Iv (w.setCell ⟨X, j, none⟩ u) X c' := ⟨by simp [World.setCell, Array.getElem?_modify, h.h, ← he]⟩
def C.ru (c : C) (r : Nat) : C := { c with d := { c.d with ru := r } }
def C.f1 (c : C) (t : List UInt8) : C := { c with d := { c.d with f1 := t } }
def C.l1 (c : C) (t : List UInt8) : C := { c with d := { c.d with l1 := t } }
def C.nm (c : C) (t : List UInt8) : C := { c with d := { c.d with nm := t } }
def C.at (c : C) (a : Nat) : C := { c with d := { c.d with at_ := a } }
theorem set_ru (c : C) (r : Nat) : (cl c).toArray.setIfInBounds 9 (.int .i64 (r : Int)) = (cl (c.ru r)).toArray := rfl
theorem set_f1 (c : C) (t : List UInt8) : (cl c).toArray.setIfInBounds 10 (.string (tx t)) = (cl (c.f1 t)).toArray := rfl
theorem set_l1 (c : C) (t : List UInt8) : (cl c).toArray.setIfInBounds 11 (.string (tx t)) = (cl (c.l1 t)).toArray := rfl
theorem set_nm (c : C) (t : List UInt8) : (cl c).toArray.setIfInBounds 2 (.string (tx t)) = (cl (c.nm t)).toArray := rfl
theorem set_at (c : C) (a : Nat) : (cl c).toArray.setIfInBounds 1 (.int .i64 (a : Int)) = (cl (c.at a)).toArray := rfl
/-- An item, stored. -/
def st13 (w : World) (N : Nat) (c : C) : World := (((((((((((((w).setCell ⟨N, 0, none⟩ (.int .i64 (c.d.kd : Int))).setCell ⟨N, 1, none⟩ (.int .i64 (c.d.at_ : Int))).setCell ⟨N, 2, none⟩ (.string (tx c.d.nm))).setCell ⟨N, 3, none⟩ (.string (tx c.d.ty))).setCell ⟨N, 4, none⟩ (.int .i64 (c.d.wd : Int))).setCell ⟨N, 5, none⟩ (.int .i64 (c.d.od : Int))).setCell ⟨N, 6, none⟩ (.bool c.d.sg)).setCell ⟨N, 7, none⟩ (.bool c.d.mn)).setCell ⟨N, 8, none⟩ (.pointer c.pc)).setCell ⟨N, 9, none⟩ (.int .i64 (c.d.ru : Int))).setCell ⟨N, 10, none⟩ (.string (tx c.d.f1))).setCell ⟨N, 11, none⟩ (.string (tx c.d.l1))).setCell ⟨N, 12, none⟩ (.slice c.p c.n c.c)
theorem heap_set {w : World} {N j : Nat} {a : Array Value} {t : TypeId} {u : Value} (h : w.heap[N]? = some (.cells a t (0, 0))) : (w.setCell ⟨N, j, none⟩ u).heap[N]? = some (.cells (a.setIfInBounds j u) t (0, 0)) := by simp [World.setCell, Array.getElem?_modify, h]
theorem arr13 (a0 a1 a2 a3 a4 a5 a6 a7 a8 a9 a10 a11 a12 v0 v1 v2 v3 v4 v5 v6 v7 v8 v9 v10 v11 v12 : Value) : ((((((((((((((#[a0, a1, a2, a3, a4, a5, a6, a7, a8, a9, a10, a11, a12] : Array Value).setIfInBounds 0 v0).setIfInBounds 1 v1).setIfInBounds 2 v2).setIfInBounds 3 v3).setIfInBounds 4 v4).setIfInBounds 5 v5).setIfInBounds 6 v6).setIfInBounds 7 v7).setIfInBounds 8 v8).setIfInBounds 9 v9).setIfInBounds 10 v10).setIfInBounds 11 v11).setIfInBounds 12 v12) = #[v0, v1, v2, v3, v4, v5, v6, v7, v8, v9, v10, v11, v12] := by
  apply Array.ext'
  simp only [Array.toList_setIfInBounds, List.set]
theorem heap13 {w : World} {N : Nat} {t : TypeId} (a0 a1 a2 a3 a4 a5 a6 a7 a8 a9 a10 a11 a12 v0 v1 v2 v3 v4 v5 v6 v7 v8 v9 v10 v11 v12 : Value) (h : w.heap[N]? = some (.cells #[a0, a1, a2, a3, a4, a5, a6, a7, a8, a9, a10, a11, a12] t (0, 0))) : (((((((((((((w.setCell ⟨N, 0, none⟩ v0).setCell ⟨N, 1, none⟩ v1).setCell ⟨N, 2, none⟩ v2).setCell ⟨N, 3, none⟩ v3).setCell ⟨N, 4, none⟩ v4).setCell ⟨N, 5, none⟩ v5).setCell ⟨N, 6, none⟩ v6).setCell ⟨N, 7, none⟩ v7).setCell ⟨N, 8, none⟩ v8).setCell ⟨N, 9, none⟩ v9).setCell ⟨N, 10, none⟩ v10).setCell ⟨N, 11, none⟩ v11).setCell ⟨N, 12, none⟩ v12).heap[N]? = some (.cells #[v0, v1, v2, v3, v4, v5, v6, v7, v8, v9, v10, v11, v12] t (0, 0)) := by
  rw [← arr13 a0 a1 a2 a3 a4 a5 a6 a7 a8 a9 a10 a11 a12 v0 v1 v2 v3 v4 v5 v6 v7 v8 v9 v10 v11 v12]
  exact heap_set (heap_set (heap_set (heap_set (heap_set (heap_set (heap_set (heap_set (heap_set (heap_set (heap_set (heap_set (heap_set h))))))))))))
theorem Iv.store {w : World} {N : Nat} {c : C} (h : Iv w N c) (c' : C) : Iv (st13 w N c') N c' :=
  ⟨heap13 (.int .i64 (c.d.kd : Int)) (.int .i64 (c.d.at_ : Int)) (.string (tx c.d.nm)) (.string (tx c.d.ty)) (.int .i64 (c.d.wd : Int)) (.int .i64 (c.d.od : Int)) (.bool c.d.sg) (.bool c.d.mn) (.pointer c.pc) (.int .i64 (c.d.ru : Int)) (.string (tx c.d.f1)) (.string (tx c.d.l1)) (.slice c.p c.n c.c) (.int .i64 (c'.d.kd : Int)) (.int .i64 (c'.d.at_ : Int)) (.string (tx c'.d.nm)) (.string (tx c'.d.ty)) (.int .i64 (c'.d.wd : Int)) (.int .i64 (c'.d.od : Int)) (.bool c'.d.sg) (.bool c'.d.mn) (.pointer c'.pc) (.int .i64 (c'.d.ru : Int)) (.string (tx c'.d.f1)) (.string (tx c'.d.l1)) (.slice c'.p c'.n c'.c) h.h⟩
theorem Iv.facts {w : World} {N : Nat} {c : C} (h : Iv w N c) : w.cell? ⟨N, 0, none⟩ = some (.int .i64 (c.d.kd : Int)) ∧ w.cell? ⟨N, 1, none⟩ = some (.int .i64 (c.d.at_ : Int)) ∧ w.cell? ⟨N, 2, none⟩ = some (.string (tx c.d.nm)) ∧ w.cell? ⟨N, 3, none⟩ = some (.string (tx c.d.ty)) ∧ w.cell? ⟨N, 4, none⟩ = some (.int .i64 (c.d.wd : Int)) ∧ w.cell? ⟨N, 5, none⟩ = some (.int .i64 (c.d.od : Int)) ∧ w.cell? ⟨N, 6, none⟩ = some (.bool c.d.sg) ∧ w.cell? ⟨N, 7, none⟩ = some (.bool c.d.mn) ∧ w.cell? ⟨N, 8, none⟩ = some (.pointer c.pc) ∧ w.cell? ⟨N, 9, none⟩ = some (.int .i64 (c.d.ru : Int)) ∧ w.cell? ⟨N, 10, none⟩ = some (.string (tx c.d.f1)) ∧ w.cell? ⟨N, 11, none⟩ = some (.string (tx c.d.l1)) ∧ w.cell? ⟨N, 12, none⟩ = some (.slice c.p c.n c.c) :=
  ⟨h.cell 0, h.cell 1, h.cell 2, h.cell 3, h.cell 4, h.cell 5, h.cell 6, h.cell 7, h.cell 8, h.cell 9, h.cell 10, h.cell 11, h.cell 12⟩
theorem Iv.fzs {w : World} {N : Nat} {c : C} (h : Iv w N c) : w.frozen? ⟨N, 0, none⟩ = false ∧ w.frozen? ⟨N, 1, none⟩ = false ∧ w.frozen? ⟨N, 2, none⟩ = false ∧ w.frozen? ⟨N, 3, none⟩ = false ∧ w.frozen? ⟨N, 4, none⟩ = false ∧ w.frozen? ⟨N, 5, none⟩ = false ∧ w.frozen? ⟨N, 6, none⟩ = false ∧ w.frozen? ⟨N, 7, none⟩ = false ∧ w.frozen? ⟨N, 8, none⟩ = false ∧ w.frozen? ⟨N, 9, none⟩ = false ∧ w.frozen? ⟨N, 10, none⟩ = false ∧ w.frozen? ⟨N, 11, none⟩ = false ∧ w.frozen? ⟨N, 12, none⟩ = false :=
  ⟨h.fz 0, h.fz 1, h.fz 2, h.fz 3, h.fz 4, h.fz 5, h.fz 6, h.fz 7, h.fz 8, h.fz 9, h.fz 10, h.fz 11, h.fz 12⟩
theorem st_gp {P N : Nat} {w0 w : World} {c : C} (h : Gp P w0 w) (hN : w0.heap.size ≤ N) : Gp P w0 (st13 w N c) :=
  ((((((((((((h.setNew hN _).setNew hN _).setNew hN _).setNew hN _).setNew hN _).setNew hN _).setNew hN _).setNew hN _).setNew hN _).setNew hN _).setNew hN _).setNew hN _).setNew hN _
theorem st_rd {P N d mb : Nat} {s : ByteArray} {ts : List Tk} {w : World} {c : C} (h : RdT w P s ts d mb) (hN : P < N) : RdT (st13 w N c) P s ts d mb :=
  ((((((((((((h.behind (grown_set _ _ _ _) hN).behind (grown_set _ _ _ _) hN).behind (grown_set _ _ _ _) hN).behind (grown_set _ _ _ _) hN).behind (grown_set _ _ _ _) hN).behind (grown_set _ _ _ _) hN).behind (grown_set _ _ _ _) hN).behind (grown_set _ _ _ _) hN).behind (grown_set _ _ _ _) hN).behind (grown_set _ _ _ _) hN).behind (grown_set _ _ _ _) hN).behind (grown_set _ _ _ _) hN).behind (grown_set _ _ _ _) hN
/-- What a rule's reading answers. -/
def RuA (w0 : World) (P X : Nat) (s : ByteArray) (d mb : Nat) (c : C) (q : Rs D) (e : Ending) (w' : World) : Prop :=
  Gp P w0 w' ∧ match q with
  | .ok (x, r) => e = .returned (.tuple #[]) ∧ Iv w' X { c with d := x } ∧ RdT w' P s r d mb
  | .error (k, p) => ∃ B : Nat, e = thrownT B ∧ w0.heap.size ≤ B ∧ AtX w' B k (p : Int)
theorem RuA.err {w0 w' : World} {P X d mb : Nat} {s : ByteArray} {c : C} {k : Int} {p B : Nat} (hg : Gp P w0 w') (hB : w0.heap.size ≤ B) (hA : AtX w' B k (p : Int)) : RuA w0 P X s d mb c (.error (k, p)) (thrownT B) w' := ⟨hg, B, rfl, hB, hA⟩
theorem rule_is (en : Nat) (d : D) (ts : List Tk) : (ruleOf (hd en ts).t = 0 → rule en d ts = .error (3, (hd en ts).a)) ∧
    (ruleOf (hd en ts).t ≠ 0 → (∀ e, name en ts.tail = .error e → rule en d ts = .error e) ∧ ∀ a r, name en ts.tail = .ok (a, r) →
      (ruleOf (hd en ts).t ≠ 3 → rule en d ts = .ok ({ d with ru := ruleOf (hd en ts).t, f1 := a }, r)) ∧
      (ruleOf (hd en ts).t = 3 → ((hd en r).t = [59] → rule en d ts = .ok ({ d with ru := 3, f1 := a, l1 := a }, r)) ∧
        (¬ (hd en r).t = [59] → (∀ e, name en r = .error e → rule en d ts = .error e) ∧ ∀ b r', name en r = .ok (b, r') → rule en d ts = .ok ({ d with ru := 3, f1 := a, l1 := b }, r')))) := by
  unfold rule
  refine ⟨fun h => by rw [if_pos h], fun h => ?_⟩
  rw [if_neg h]
  refine ⟨fun e he => by rw [he], fun a r hr => ?_⟩
  rw [hr]
  dsimp only
  refine ⟨fun h3 => by rw [if_neg h3], fun h3 => ?_⟩
  rw [if_pos h3]
  refine ⟨fun h4 => by rw [if_pos h4], fun h4 => ?_⟩
  rw [if_neg h4]
  exact ⟨fun e he => by rw [he], fun b r' hb => by rw [hb]⟩
/-- All that a walk keeps. -/
structure Ss (w0 w : World) (P X : Nat) (s : ByteArray) (ts : List Tk) (d mb : Nat) (c : C) : Prop where
  gp : Gp P w0 w
  rd : RdT w P s ts d mb
  iv : Iv w X c
theorem Ss.put {w0 w : World} {P X j : Nat} {s : ByteArray} {ts : List Tk} {d mb : Nat} {c c' : C} {u : Value} (h : Ss w0 w P X s ts d mb c) (hX : w0.heap.size ≤ X) (hPX : P < X) (he : (cl c).toArray.setIfInBounds j u = (cl c').toArray) : Ss w0 (w.setCell ⟨X, j, none⟩ u) P X s ts d mb c' :=
  ⟨h.gp.setNew hX u, h.rd.behind (grown_set w X j u) hPX, h.iv.set he⟩
theorem Ss.go {w0 w w' : World} {P X : Nat} {s : ByteArray} {ts ts' : List Tk} {d mb : Nat} {c : C} (h : Ss w0 w P X s ts d mb c) (hg : Gp P w w') (hr : RdT w' P s ts' d mb) (hPX : P < X) : Ss w0 w' P X s ts' d mb c := ⟨h.gp.trans hg, hr, h.iv.gp hg (by omega)⟩
theorem Ss.bl {w0 w w' : World} {P X : Nat} {s : ByteArray} {ts : List Tk} {d mb : Nat} {c : C} (h : Ss w0 w P X s ts d mb c) (hb : Bl w w') : Ss w0 w' P X s ts d mb c := ⟨h.gp.trans (Gp.bl hb), h.rd.step hb, h.iv.bl hb⟩
set_option maxRecDepth 10000 in
set_option maxHeartbeats 2000000 in
theorem rule_at (w0 w : World) (P X d mb : Nat) (s : ByteArray) (ts : List Tk) (c : C) (h : RdT w P s ts d mb) (h0 : Gp P w0 w) (hX : w0.heap.size ≤ X) (hPX : P < X) (hI : Iv w X c) (hG : Gt w) (hGP : 6 ≤ P) :
    Calls Tryz.prog 181 #[.pointer (some ⟨P, 0, none⟩), .pointer (some ⟨X, 0, none⟩)] w fun e w' => RuA w0 P X s d mb c (rule s.size c.d ts) e w' := by
  have cT := take_at w P d mb s ts h
  obtain ⟨o1, o2⟩ := rule_is s.size c.d ts
  obtain ⟨q, hq⟩ : ∃ q, q = rule s.size c.d ts := ⟨_, rfl⟩
  rw [← hq] at o1 o2 ⊢
  obtain ⟨T, hT⟩ : ∃ T, T = hd s.size ts := ⟨_, rfl⟩
  rw [← hT] at cT o1 o2
  have hPw := h.lt
  have HR : Hid (RdT w P s ts d mb ∧ Gt w ∧ Gp P w0 w ∧ w0.heap.size ≤ X) := ⟨h, hG, h0, hX⟩
  have hthr := throw_at T 3
  unfold tkV at cT hthr
  obtain ⟨S, hS⟩ : ∃ S, S = tx T.t := ⟨_, rfl⟩
  rw [← hS] at cT hthr
  have HS : Hid (S = tx T.t ∧ T = hd s.size ts) := ⟨hS, hT⟩
  clear h hG h0 hX hq hT hS
  have hf0 := run_text
  go_enter Tryz.func181, Tryz.ntmps181
  go_wp2_with fail
  refine cT.mono ?_
  rintro e w2 ⟨rfl, hR2, hg2⟩
  have hb3 : Bl w2 (w2.alloc (.cells #[.string S, .int .i64 (T.a : Int)] 145)) := (Bl.refl _).alloc _
  have hv3 := Tv.new w2 S (T.a : Int)
  obtain ⟨N, hN⟩ : ∃ N, N = w2.heap.size := ⟨_, rfl⟩
  obtain ⟨w3, hw3⟩ : ∃ w3, w3 = w2.alloc (.cells #[.string S, .int .i64 (T.a : Int)] 145) := ⟨_, rfl⟩
  rw [← hw3] at hb3 hv3
  rw [← hN] at hv3
  have hI3 := (hI.gp hg2 (by omega)).bl hb3
  have HG3 : Hid (Gp P w w3 ∧ RdT w3 P s ts.tail d mb ∧ Iv w3 X c ∧ Gt w3 ∧ Tv w3 N S (T.a : Int) ∧ Gp P w0 w3) := ⟨hg2.trans (Gp.bl hb3), hR2.step hb3, hI3, HR.out.2.1.gp (hg2.trans (Gp.bl hb3)) hGP hPw, hv3, HR.out.2.2.1.trans (hg2.trans (Gp.bl hb3))⟩
  have cO := ruleOf_at T.t w3 HG3.out.2.2.2.1.ru
  rw [← HS.out.1] at cO
  obtain ⟨g0, g1, z0, z1, hNs⟩ := hv3.facts
  have hXs := hI3.lt
  have x9 : w3.cell? ⟨X, 9, none⟩ = some (.int .i64 (c.d.ru : Int)) := hI3.cell 9
  have xz := hI3.fz 9
  have hXN : ¬ X = N := by have := hI.lt; have := hg2.size; omega
  obtain ⟨k, hk⟩ : ∃ k, k = ruleOf T.t := ⟨_, rfl⟩
  rw [← hk] at cO o1 o2
  have hk3 : k ≤ 3 := by rw [hk]; unfold ruleOf; split <;> (try split) <;> (try split) <;> omega
  clear hk hI hg2 hR2 hb3 hv3 hI3 cT
  go_wp2_with fail
  rw [← hN, ← hw3]
  clear hw3 hN
  refine cO.mono ?_
  rintro e w4 ⟨rfl, rfl⟩
  have H5 : Hid (Ss w0 (w4.setCell ⟨X, 9, none⟩ (.int .i64 (k : Int))) P X s ts.tail d mb (c.ru k)) := (Ss.mk HG3.out.2.2.2.2.2 HG3.out.2.1 HG3.out.2.2.1).put HR.out.2.2.2 hPX (set_ru c k)
  by_cases hk0 : k = 0
  · have HQ : Hid (q = .error (3, T.a)) := o1 hk0
    have hkk : ((k : Int) == 0) = true := by rw [beq_iff_eq]; omega
    have hNX : ¬ N = X := fun e => hXN e.symm
    clear o1 o2 hk3 hk0
    go_wp2_with fail
    refine (hthr _).mono ?_
    rintro e w6 ⟨B, rfl, k1, k2, k3⟩
    unfold thrownT
    go_wp2
    refine ⟨rfl, ?_⟩
    rw [HQ.out]
    exact RuA.err (H5.out.gp.trans (Gp.bl k3)) (Nat.le_trans H5.out.gp.size k1) k2
  · have hkk : ((k : Int) == 0) = false := by rw [beq_eq_false_iff_ne]; omega
    have o3 := o2 hk0
    have cA := name_at _ P d mb s ts.tail H5.out.rd
    clear o1 o2 cO hthr
    obtain ⟨W, hW⟩ : ∃ W, W = w4.setCell ⟨X, 9, none⟩ (.int .i64 (k : Int)) := ⟨_, rfl⟩
    have y9 : W.cell? ⟨X, 9, none⟩ = some (.int .i64 (k : Int)) := by rw [hW]; exact H5.out.iv.cell 9
    go_upto_region 2 with fail
    rw [← hW] at H5 cA ⊢
    clear hW g0 g1 z0 z1 hNs hXs x9 xz hk0
    go_wp2_with fail
    refine cA.mono ?_
    rintro e w6 ⟨hg6, hans⟩
    cases hn : name s.size ts.tail with
    | error kp =>
      obtain ⟨k1, p1⟩ := kp
      rw [hn] at hans
      obtain ⟨B, rfl, hB, hA⟩ := hans
      have HQ : Hid (q = .error (k1, p1)) := o3.1 _ hn
      unfold thrownT
      clear o3 cA
      go_wp2
      refine ⟨rfl, ?_⟩
      rw [HQ.out]
      exact RuA.err (H5.out.gp.trans hg6) (Nat.le_trans H5.out.gp.size hB) hA
    | ok ar =>
      obtain ⟨a, r⟩ := ar
      rw [hn] at hans
      obtain ⟨v, rfl, rfl, hR6⟩ := hans
      obtain ⟨o4, o5⟩ := o3.2 a r hn
      have H6 : Hid (Ss w0 w6 P X s r d mb (c.ru k)) := H5.out.go hg6 hR6 hPX
      have H7 : Hid (Ss w0 (w6.setCell ⟨X, 10, none⟩ (.string (tx a))) P X s r d mb ((c.ru k).f1 a)) := H6.out.put HR.out.2.2.2 hPX (set_f1 _ a)
      have x10 : w6.cell? ⟨X, 10, none⟩ = some (.string (tx (c.ru k).d.f1)) := H6.out.iv.cell 10
      have xz := H6.out.iv.fz 10
      have hXs := H6.out.iv.lt
      have x9 : w6.cell? ⟨X, 9, none⟩ = some (.int .i64 (k : Int)) := H6.out.iv.cell 9
      unfold tkV
      clear hn o3 hg6 hR6 y9 cA
      obtain ⟨A, hA⟩ : ∃ A, A = tx a := ⟨_, rfl⟩
      rw [← hA] at H7 ⊢
      have HA : Hid (A = tx a) := hA
      clear hA
      obtain ⟨W7, hW7⟩ : ∃ W7, W7 = w6.setCell ⟨X, 10, none⟩ (.string A) := ⟨_, rfl⟩
      have y9 : W7.cell? ⟨X, 9, none⟩ = some (.int .i64 (k : Int)) := by rw [hW7]; exact H7.out.iv.cell 9
      have y10 : W7.cell? ⟨X, 10, none⟩ = some (.string A) := by rw [hW7, HA.out]; rw [HA.out] at H7; exact H7.out.iv.cell 10
      have yz : ∀ j, W7.frozen? ⟨X, j, none⟩ = false := by rw [hW7]; exact H7.out.iv.fz
      have hX7 : X < W7.heap.size := by rw [hW7]; exact H7.out.iv.lt
      go_upto_region 5 with fail
      rw [← hW7] at H7 ⊢
      clear hW7 x9 x10 xz hXs
      by_cases h3 : k = 3
      · obtain ⟨o6, o7⟩ := o5 h3
        obtain rfl : k = 3 := h3
        have H8 : Hid (Ss w0 (W7.setCell ⟨X, 11, none⟩ (.string A)) P X s r d mb (((c.ru 3).f1 a).l1 a)) := by
          rw [HA.out]
          exact H7.out.put HR.out.2.2.2 hPX (set_l1 _ a)
        obtain ⟨W8, hW8⟩ : ∃ W8, W8 = W7.setCell ⟨X, 11, none⟩ (.string A) := ⟨_, rfl⟩
        have x11 : W7.cell? ⟨X, 11, none⟩ = some (.string (tx ((c.ru 3).f1 a).d.l1)) := H7.out.iv.cell 11
        have yz11 := yz 11
        rw [← hW8] at H8
        have cN := next_at W8 P d mb s r H8.out.rd
        unfold tkV at cN
        have htl := tl_tx (hd s.size r).t
        obtain ⟨T2, hT2⟩ : ∃ T2, T2 = hd s.size r := ⟨_, rfl⟩
        rw [← hT2] at cN htl o6 o7
        have hT2' : Hid (T2 = hd s.size r) := hT2
        clear o4 o5 hT2
        go_upto_region 7 with fail
        rw [← hW8]
        clear hW8 y9 y10 yz yz11 x11 hX7 hkk
        go_wp2_with fail
        refine cN.mono ?_
        rintro e w9 ⟨rfl, hb9⟩
        have H9 : Hid (Ss w0 w9 P X s r d mb (((c.ru 3).f1 a).l1 a)) := H8.out.bl hb9
        clear hb9 cN
        by_cases h59 : T2.t = [59]
        · have HQ : Hid (q = .ok ({ c.d with ru := 3, f1 := a, l1 := a }, r)) := o6 h59
          clear o6 o7
          have hb : ((tx T2.t).toList == [59]) = true := by rw [htl, h59]; rfl
          rw [h59] at htl
          generalize tx T2.t = S2 at *
          clear h59
          go_wp2
          go_end0
          rw [HQ.out]
          exact ⟨H9.out.gp, rfl, H9.out.iv, H9.out.rd⟩
        · obtain ⟨o8, o9⟩ := o7 h59
          have hb : ((tx T2.t).toList == [59]) = false := by rw [htl, beq_eq_false_iff_ne]; exact h59
          have hbb : (T2.t == [59]) = false := by rw [beq_eq_false_iff_ne]; exact h59
          have cA := name_at w9 P d mb s r H9.out.rd
          rw [← hT2'.out] at cA
          clear o6 o7 h59
          go_wp2_with fail
          refine cA.mono ?_
          rintro e w10 ⟨hg10, hans⟩
          cases hn : name s.size r with
          | error kp =>
            obtain ⟨k1, p1⟩ := kp
            rw [hn] at hans
            obtain ⟨B, rfl, hB, hA⟩ := hans
            have HQ : Hid (q = .error (k1, p1)) := o8 _ hn
            unfold thrownT
            clear o8 o9 cA hb hbb htl
            go_wp2
            refine ⟨rfl, ?_⟩
            rw [HQ.out]
            exact RuA.err (H9.out.gp.trans hg10) (Nat.le_trans H9.out.gp.size hB) hA
          | ok ar =>
            obtain ⟨b, r'⟩ := ar
            rw [hn] at hans
            obtain ⟨v, rfl, rfl, hR10⟩ := hans
            have HQ : Hid (q = .ok ({ c.d with ru := 3, f1 := a, l1 := b }, r')) := o9 b r' hn
            have H10 := H9.out.go hg10 hR10 hPX
            have H11 : Hid (Ss w0 (w10.setCell ⟨X, 11, none⟩ (.string (tx b))) P X s r' d mb ((((c.ru 3).f1 a).l1 a).l1 b)) := H10.put HR.out.2.2.2 hPX (set_l1 _ b)
            have x11 : w10.cell? ⟨X, 11, none⟩ = some (.string (tx (((c.ru 3).f1 a).l1 a).d.l1)) := H10.iv.cell 11
            have xz := H10.iv.fz 11
            have hXs := H10.iv.lt
            unfold tkV
            clear o8 o9 cA hb hbb htl hn hg10 hR10 H10
            obtain ⟨Bb, hBb⟩ : ∃ Bb, Bb = tx b := ⟨_, rfl⟩
            rw [← hBb] at H11 ⊢
            clear hBb
            go_wp2
            go_end0
            rw [HQ.out]
            exact ⟨H11.out.gp, rfl, H11.out.iv, H11.out.rd⟩
      · have HQ : Hid (q = .ok ({ c.d with ru := k, f1 := a }, r)) := o4 h3
        have hk3' : ((k : Int) == 3) = false := by rw [beq_eq_false_iff_ne]; omega
        clear o4 o5 h3 hk3
        go_wp2
        go_end0
        rw [HQ.out]
        exact ⟨H7.out.gp, rfl, H7.out.iv, H7.out.rd⟩
end Go.Proofs.YtococaecjecjgaaGreatDoor.tm
/- A reader of a template's tokens: kind. -/
namespace Go.Proofs.YtococaecjecjgaaGreatDoor.tm
set_option linter.unusedVariables false
open Go.ChangeShapes Go.WideShapes Go.ChangeAt Go.RowKit Go.Shelf
open mem lx ex

/-- An item's value. -/
def itV (c : C) : Value := .agg (cl c).toArray
/-- What is a number's word. -/
theorem num_is (t : List UInt8) : (numOf t = none ∧ (resv t = true → wdV t = -1)) ∨ ∃ (k : Nat) (p : List UInt8 × Nat × Nat × Bool), k < 12 ∧ numW[k]? = some p ∧ numOf t = some p.2 ∧ wdV t = (k : Int) ∧ resv t = true := by
  unfold numOf wdV resv numOf
  cases hf : numW.findIdx? (fun p => p.1 == t) with
  | none =>
    left
    have h := List.findIdx?_eq_none_iff.1 hf
    have hn : numW.find? (fun p => p.1 == t) = none := by
      rw [List.find?_eq_none]
      intro p hp
      rw [h p hp]; decide
    rw [hn]
    exact ⟨rfl, fun _ => rfl⟩
  | some k =>
    right
    obtain ⟨h1, h2, h3⟩ := List.findIdx?_eq_some_iff_getElem.1 hf
    have hn : numW.find? (fun p => p.1 == t) = some numW[k] := by
      rw [List.find?_eq_some_iff_getElem]
      exact ⟨h2, k, h1, rfl, fun j hj => by have := h3 j hj; simpa using this⟩
    rw [hn]
    refine ⟨k, numW[k], h1, List.getElem?_eq_getElem h1, rfl, rfl, ?_⟩
    simp
theorem nuL_get (k : Nat) (p : List UInt8 × Nat × Nat × Bool) (h : numW[k]? = some p) : nuL[k * 4 + 1]? = some (.int .i64 (p.2.1 : Int)) ∧ nuL[k * 4 + 2]? = some (.int .i64 (p.2.2.1 : Int)) ∧ nuL[k * 4 + 3]? = some (.bool p.2.2.2) := by
  have key : ∀ (l : List (List UInt8 × Nat × Nat × Bool)) (k : Nat), l[k]? = some p → let z := l.flatMap fun p => [Value.string (tx p.1), .int .i64 (p.2.1 : Int), .int .i64 (p.2.2.1 : Int), .bool p.2.2.2]; z[k * 4 + 1]? = some (.int .i64 (p.2.1 : Int)) ∧ z[k * 4 + 2]? = some (.int .i64 (p.2.2.1 : Int)) ∧ z[k * 4 + 3]? = some (.bool p.2.2.2) := by
    intro l
    induction l with
    | nil => intro k h; simp at h
    | cons q l ih =>
      intro k h
      cases k with
      | zero =>
        simp at h
        subst h
        exact ⟨rfl, rfl, rfl⟩
      | succ k =>
        obtain ⟨h1, h2, h3⟩ := ih k (by simpa using h)
        rw [show (k + 1) * 4 + 1 = k * 4 + 1 + 4 by omega, show (k + 1) * 4 + 2 = k * 4 + 2 + 4 by omega, show (k + 1) * 4 + 3 = k * 4 + 3 + 4 by omega]
        exact ⟨h1, h2, h3⟩
  exact key numW k h
/-- What a kind's reading answers. -/
def KV (w : World) (v : Value) (d : D) : Prop := v = itV ⟨d, none, none, 0, 0⟩ ∧ d.ct = none
theorem kind_is (en : Nat) (ts : List Tk) : (∀ w o s, numOf (hd en ts).t = some (w, o, s) → kind en ts = .ok ({ D0 with kd := 1, wd := w, od := o, sg := s }, ts.tail)) ∧
    (numOf (hd en ts).t = none → (∀ e, name en ts = .error e → kind en ts = .error e) ∧ ∀ t r, name en ts = .ok (t, r) → kind en ts = .ok ({ D0 with kd := 3, ty := t }, r)) := by
  unfold kind
  exact ⟨fun w o s h => by rw [h], fun h => by rw [h]; exact ⟨fun e he => by rw [he], fun t r hr => by rw [hr]⟩⟩
def z13 : Array Value := #[.int .i64 0, .int .i64 0, .string ⟨#[]⟩, .string ⟨#[]⟩, .int .i64 0, .int .i64 0, .bool false, .bool false, .pointer none, .int .i64 0, .string ⟨#[]⟩, .string ⟨#[]⟩, .slice none 0 0]
theorem infoI : (Tryz.prog.info? 60).map (·.size) = some 13 := by kernel_rfl
set_option maxRecDepth 10000 in
set_option maxHeartbeats 2000000 in
theorem kind_at (w : World) (P d mb : Nat) (s : ByteArray) (ts : List Tk) (h : RdT w P s ts d mb) (hG : Gt w) (hGP : 6 ≤ P) :
    Calls Tryz.prog 180 #[.pointer (some ⟨P, 0, none⟩)] w fun e w' => Ans KV P s d mb w (kind s.size ts) e w' := by
  have hPw := h.lt
  have hlen := h.hdlen
  obtain ⟨o1, o2⟩ := kind_is s.size ts
  obtain ⟨q, hq⟩ : ∃ q, q = kind s.size ts := ⟨_, rfl⟩
  rw [← hq] at o1 o2 ⊢
  have hb1 : Bl w (w.alloc (.cells z13 60)) := (Bl.refl _).alloc _
  obtain ⟨N, hN⟩ : ∃ N, N = w.heap.size := ⟨_, rfl⟩
  obtain ⟨w1, hw1⟩ : ∃ w1, w1 = w.alloc (.cells z13 60) := ⟨_, rfl⟩
  have hv1 : Iv w1 N ⟨D0, none, none, 0, 0⟩ := ⟨by rw [hw1, hN]; exact new_at _ _⟩
  rw [← hw1] at hb1
  have HR : Hid (RdT w P s ts d mb ∧ Gt w ∧ N = w.heap.size) := ⟨h, hG, hN⟩
  obtain ⟨T, hT⟩ : ∃ T, T = hd s.size ts := ⟨_, rfl⟩
  rw [← hT] at hlen
  have HT : Hid (T = hd s.size ts) := hT
  have HQ : Hid (q = kind s.size ts) := hq
  clear h hG hq hT
  go_enter Tryz.func180, Tryz.ntmps180
  go_upto_region 1 with fail
  change Code.wp _ _ _ _ (w.alloc (.cells z13 60))
  rw [← hw1, ← hN]
  have hR1 := HR.out.1.step hb1
  have cN := fun wx (hb : Bl w1 wx) => next_at wx P d mb s ts (hR1.step hb)
  rw [← HT.out] at cN
  obtain ⟨p, c, _, _, _, d3, _⟩ := (hR1.step (Bl.refl w1).drew).cells
  have HB : Hid (Bl w w1 ∧ Bl w1 w1.drew ∧ Iv w1 N ⟨D0, none, none, 0, 0⟩) := ⟨hb1, (Bl.refl _).drew, hv1⟩
  have hlk := fun wx (hb : Bl w1 wx) => (hR1.step hb).look T.t hlen
  have HK : Hid (∀ wx, Bl w1 wx → (Instr.lookup 100 (.map (some mb)) (.string (tx T.t)) true).run Tryz.prog wx = .ok (.tuple #[.int .i64 (if resv T.t = true then wdV T.t else 0), .bool (resv T.t)]) wx) := hlk
  have hf0 := run_text
  unfold tkV at cN
  obtain ⟨S, hS⟩ : ∃ S, S = tx T.t := ⟨_, rfl⟩
  rw [← hS] at cN HK
  obtain ⟨r, hr⟩ : ∃ r, r = (if resv T.t = true then wdV T.t else 0) := ⟨_, rfl⟩
  obtain ⟨b, hb⟩ : ∃ b, b = resv T.t := ⟨_, rfl⟩
  rw [← hr, ← hb] at HK
  have HS : Hid (S = tx T.t ∧ r = (if resv T.t = true then wdV T.t else 0) ∧ b = resv T.t) := ⟨hS, hr, hb⟩
  clear hlk hR1 hb1 hv1 hw1 hN hS hr hb o1 o2
  go_region_held3 (fun w' => w'.cell? ⟨P, 3, none⟩ = some (.map (some mb))) (first | assumption | exact at_bl ((Bl.refl _).drew) (by assumption))
    (first
      | (go_at_call 133; (with_reducible refine (cN _ HB.out.2.1).mono ?_); rintro e w6 ⟨rfl, hb6⟩; have s6 := at_bl hb6 d3; have HB6 : Hid (Bl w1 w6) := HB.out.2.1.trans hb6; have hlk := HK.out w6 HB6.out; clear hb6))
  obtain ⟨o1, o2⟩ := kind_is s.size ts
  have HO : Hid (Bl w w6 ∧ Iv w6 N ⟨D0, none, none, 0, 0⟩ ∧ RdT w6 P s ts d mb ∧ Gt w6) := ⟨HB.out.1.trans HB6.out, HB.out.2.2.bl HB6.out, HR.out.1.step (HB.out.1.trans HB6.out), HR.out.2.1.bl (HB.out.1.trans HB6.out)⟩
  have HQQ : Hid (q = kind s.size ts) := HQ.out
  have hNs := HO.out.2.1.lt
  clear hlk s6 d3 cN
  rcases num_is T.t with ⟨n1, n2⟩ | ⟨k, pp, n1, n2, n3, n4, n5⟩
  · have hrb : b = true → r < 0 := fun hb => by rw [HS.out.2.1, if_pos (by rw [← HS.out.2.2]; exact hb), n2 (by rw [← HS.out.2.2]; exact hb)]; omega
    have cA := name_at w6 P d mb s ts HO.out.2.2.1
    rw [← HT.out] at cA o2
    obtain ⟨o3, o4⟩ := o2 n1
    cases b with
    | true =>
      have hr0 : decide (0 ≤ r) = false := decide_eq_false (by have := hrb rfl; omega)
      have hr1 : ¬ 0 ≤ r := by have := hrb rfl; omega
      clear hrb
      go_wp2_with fail
      refine cA.mono ?_
      rintro e w7 ⟨hg7, hans⟩
      cases hn : name s.size ts with
      | error kp =>
        obtain ⟨k1, p1⟩ := kp
        rw [hn] at hans
        obtain ⟨B, rfl, hB, hA⟩ := hans
        have HQ2 : Hid (q = .error (k1, p1)) := by rw [HQQ.out]; exact o3 _ hn
        unfold thrownT
        clear cA o3 o4 o1 o2 hn
        go_wp2
        refine ⟨rfl, ?_⟩
        rw [HQ2.out]
        exact Ans.err ((Gp.bl HO.out.1).trans hg7) (Nat.le_trans HO.out.1.size hB) hA
      | ok tr =>
        obtain ⟨t, r'⟩ := tr
        rw [hn] at hans
        obtain ⟨v, rfl, rfl, hR7⟩ := hans
        have hI7 := HO.out.2.1.gp hg7 (by have := HR.out.2.2; omega)
        obtain ⟨q0, q1, q2, q3, q4, q5, q6, q7, q8, q9, q10, q11, q12⟩ := hI7.facts
        obtain ⟨z0, z1, z2, z3, z4, z5, z6, z7, z8, z9, z10, z11, z12⟩ := hI7.fzs
        have hN7 := hI7.lt
        have HQ2 : Hid (q = .ok ({ D0 with kd := 3, ty := t }, r')) := by rw [HQQ.out]; exact o4 _ _ hn
        have H7 : Hid (Gp P w w7 ∧ RdT w7 P s r' d mb ∧ Iv w7 N ⟨D0, none, none, 0, 0⟩ ∧ w.heap.size ≤ N ∧ P < N) := ⟨(Gp.bl HO.out.1).trans hg7, hR7, hI7, by have := HR.out.2.2; omega, by have := HR.out.2.2; omega⟩
        unfold tkV
        clear cA o3 o4 o1 o2 hn hg7 hR7 hI7
        go_wp2
        have hst := H7.out.2.2.1.store ⟨{ D0 with kd := 3, ty := t }, none, none, 0, 0⟩
        have hgp := st_gp (c := ⟨{ D0 with kd := 3, ty := t }, none, none, 0, 0⟩) H7.out.1 H7.out.2.2.2.1
        have hrd := st_rd (c := ⟨{ D0 with kd := 3, ty := t }, none, none, 0, 0⟩) H7.out.2.1 H7.out.2.2.2.2
        rw [HQ2.out]
        exact bodyPost_ret (v := itV ⟨{ D0 with kd := 3, ty := t }, none, none, 0, 0⟩) (results_cell_row rfl _ _ N 60 (cl ⟨{ D0 with kd := 3, ty := t }, none, none, 0, 0⟩).toArray (0, 0) _ rfl hst.h Tryz.underlying60 rfl infoI) rfl ⟨hgp, _, rfl, ⟨rfl, rfl⟩, hrd⟩
    | false =>
      clear hrb
      go_wp2_with fail
      refine cA.mono ?_
      rintro e w7 ⟨hg7, hans⟩
      cases hn : name s.size ts with
      | error kp =>
        obtain ⟨k1, p1⟩ := kp
        rw [hn] at hans
        obtain ⟨B, rfl, hB, hA⟩ := hans
        have HQ2 : Hid (q = .error (k1, p1)) := by rw [HQQ.out]; exact o3 _ hn
        unfold thrownT
        clear cA o3 o4 o1 o2 hn
        go_wp2
        refine ⟨rfl, ?_⟩
        rw [HQ2.out]
        exact Ans.err ((Gp.bl HO.out.1).trans hg7) (Nat.le_trans HO.out.1.size hB) hA
      | ok tr =>
        obtain ⟨t, r'⟩ := tr
        rw [hn] at hans
        obtain ⟨v, rfl, rfl, hR7⟩ := hans
        have hI7 := HO.out.2.1.gp hg7 (by have := HR.out.2.2; omega)
        obtain ⟨q0, q1, q2, q3, q4, q5, q6, q7, q8, q9, q10, q11, q12⟩ := hI7.facts
        obtain ⟨z0, z1, z2, z3, z4, z5, z6, z7, z8, z9, z10, z11, z12⟩ := hI7.fzs
        have hN7 := hI7.lt
        have HQ2 : Hid (q = .ok ({ D0 with kd := 3, ty := t }, r')) := by rw [HQQ.out]; exact o4 _ _ hn
        have H7 : Hid (Gp P w w7 ∧ RdT w7 P s r' d mb ∧ Iv w7 N ⟨D0, none, none, 0, 0⟩ ∧ w.heap.size ≤ N ∧ P < N) := ⟨(Gp.bl HO.out.1).trans hg7, hR7, hI7, by have := HR.out.2.2; omega, by have := HR.out.2.2; omega⟩
        unfold tkV
        clear cA o3 o4 o1 o2 hn hg7 hR7 hI7
        go_wp2
        have hst := H7.out.2.2.1.store ⟨{ D0 with kd := 3, ty := t }, none, none, 0, 0⟩
        have hgp := st_gp (c := ⟨{ D0 with kd := 3, ty := t }, none, none, 0, 0⟩) H7.out.1 H7.out.2.2.2.1
        have hrd := st_rd (c := ⟨{ D0 with kd := 3, ty := t }, none, none, 0, 0⟩) H7.out.2.1 H7.out.2.2.2.2
        rw [HQ2.out]
        exact bodyPost_ret (v := itV ⟨{ D0 with kd := 3, ty := t }, none, none, 0, 0⟩) (results_cell_row rfl _ _ N 60 (cl ⟨{ D0 with kd := 3, ty := t }, none, none, 0, 0⟩).toArray (0, 0) _ rfl hst.h Tryz.underlying60 rfl infoI) rfl ⟨hgp, _, rfl, ⟨rfl, rfl⟩, hrd⟩
  · obtain ⟨k1, k2, k3, k4⟩ : b = true ∧ r = (k : Int) ∧ (0 : Int) ≤ (k : Int) ∧ (k : Int) < 12 := by
      refine ⟨by rw [HS.out.2.2]; exact n5, by rw [HS.out.2.1, if_pos n5, n4], by omega, by omega⟩
    subst k1 k2
    have cT := take_at w6 P d mb s ts HO.out.2.2.1
    rw [← HT.out] at cT o1
    unfold tkV at cT
    rw [← HS.out.1] at cT
    obtain ⟨pt, wd, od, sg⟩ := pp
    have HQ2 : Hid (q = .ok ({ D0 with kd := 1, wd := wd, od := od, sg := sg }, ts.tail)) := by rw [HQQ.out]; exact o1 _ _ _ n3
    clear o1 o2 n1 n3 n4 n5
    have d0 : decide ((0 : Int) ≤ (k : Int)) = true := decide_eq_true k3
    go_wp2_with fail
    refine cT.mono ?_
    rintro e w7 ⟨rfl, hR7, hg7⟩
    have hI7 := HO.out.2.1.gp hg7 (by have := HR.out.2.2; omega)
    have hG7 := HO.out.2.2.2.gp hg7 hGP (by have := HO.out.1.size; omega)
    obtain ⟨m1, m2, m3⟩ := nuL_get k _ n2
    have g1 : w7.cell? ⟨0, k * 4 + 1, none⟩ = some (.int .i64 (wd : Int)) := by have := hG7.nu _ _ m1; rw [Nat.zero_add] at this; exact this
    have g2 : w7.cell? ⟨0, k * 4 + 2, none⟩ = some (.int .i64 (od : Int)) := by have := hG7.nu _ _ m2; rw [Nat.zero_add] at this; exact this
    have g3 : w7.cell? ⟨0, k * 4 + 3, none⟩ = some (.bool sg) := by have := hG7.nu _ _ m3; rw [Nat.zero_add] at this; exact this
    have H7 : Hid (Gp P w w7 ∧ RdT w7 P s ts.tail d mb ∧ Iv w7 N ⟨D0, none, none, 0, 0⟩ ∧ w.heap.size ≤ N ∧ P < N) := ⟨(Gp.bl HO.out.1).trans hg7, hR7, hI7, by have := HR.out.2.2; omega, by have := HR.out.2.2; omega⟩
    obtain ⟨q0, q1, q2, q3, q4, q5, q6, q7, q8, q9, q10, q11, q12⟩ := (hI7.bl (Bl.refl w7).drew).facts
    obtain ⟨z0, z1, z2, z3, z4, z5, z6, z7, z8, z9, z10, z11, z12⟩ := (hI7.bl (Bl.refl w7).drew).fzs
    obtain ⟨a0, a1, a2, a3, a4, a5, a6, a7, a8, a9, a10, a11, a12⟩ := hI7.facts
    obtain ⟨b0, b1, b2, b3, b4, b5, b6, b7, b8, b9, b10, b11, b12⟩ := hI7.fzs
    have g1d := at_bl (Bl.refl w7).drew g1
    have g2d := at_bl (Bl.refl w7).drew g2
    have g3d := at_bl (Bl.refl w7).drew g3
    clear hg7 hR7 hI7 hG7 cT m1 m2 m3 g1 g2 g3 n2
    go_upto_region 4 with fail
    go_region
    have hst := (H7.out.2.2.1.store ⟨{ D0 with kd := 1, wd := wd, od := od, sg := sg }, none, none, 0, 0⟩).bl (Bl.refl _).drew
    have hgp := (st_gp (c := ⟨{ D0 with kd := 1, wd := wd, od := od, sg := sg }, none, none, 0, 0⟩) H7.out.1 H7.out.2.2.2.1).trans (Gp.bl (Bl.refl _).drew)
    have hrd := (st_rd (c := ⟨{ D0 with kd := 1, wd := wd, od := od, sg := sg }, none, none, 0, 0⟩) H7.out.2.1 H7.out.2.2.2.2).step (Bl.refl _).drew
    obtain ⟨W9, hW9⟩ : ∃ W9, W9 = (st13 w7 N ⟨{ D0 with kd := 1, wd := wd, od := od, sg := sg }, none, none, 0, 0⟩).drew := ⟨_, rfl⟩
    change Exit.then _ _ _ _ (st13 w7 N ⟨{ D0 with kd := 1, wd := wd, od := od, sg := sg }, none, none, 0, 0⟩).drew
    rw [← hW9] at hst hgp hrd ⊢
    clear hW9 a0 a1 a2 a3 a4 a5 a6 a7 a8 a9 a10 a11 a12 b0 b1 b2 b3 b4 b5 b6 b7 b8 b9 b10 b11 b12 q0 q1 q2 q3 q4 q5 q6 q7 q8 q9 q10 q11 q12 z0 z1 z2 z3 z4 z5 z6 z7 z8 z9 z10 z11 z12 g1d g2d g3d
    have HH : Hid (Iv W9 N ⟨{ D0 with kd := 1, wd := wd, od := od, sg := sg }, none, none, 0, 0⟩ ∧ Gp P w W9 ∧ RdT W9 P s ts.tail d mb) := ⟨hst, hgp, hrd⟩
    clear hst hgp hrd
    go_wp2
    rw [HQ2.out]
    exact bodyPost_ret (v := itV ⟨{ D0 with kd := 1, wd := wd, od := od, sg := sg }, none, none, 0, 0⟩) (results_cell_row rfl _ _ N 60 (cl ⟨{ D0 with kd := 1, wd := wd, od := od, sg := sg }, none, none, 0, 0⟩).toArray (0, 0) _ rfl HH.out.1.h Tryz.underlying60 rfl infoI) rfl ⟨HH.out.2.1, _, rfl, ⟨rfl, rfl⟩, HH.out.2.2⟩
end Go.Proofs.YtococaecjecjgaaGreatDoor.tm
