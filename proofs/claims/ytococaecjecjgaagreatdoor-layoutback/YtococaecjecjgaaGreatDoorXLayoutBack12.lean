/- Texts laid together: Tm3, Tm4, LayR, Tm5, Tm6. -/
import Derived.Test.YtococaecjecjgaaGreatDoorXLayoutBack11
import Derived.Test.YtococaecjecjgaaGreatDoorChecked
import Derived.Shelf.Strings.Repeat
import Derived.Deep.RegionHeld3
import Derived.Deep.MidRow
/- A reader of a template's tokens: name. -/
namespace Go.Proofs.YtococaecjecjgaaGreatDoor.tm
set_option linter.unusedVariables false
open Go.ChangeShapes Go.WideShapes Go.ChangeAt Go.RowKit
open mem lx ex

theorem RdT.look {w : World} {P d mb : Nat} {s : ByteArray} {ts : List Tk} (h : RdT w P s ts d mb) (t : List UInt8) (ht : t.length ≤ 3000) :
    (Instr.lookup 100 (.map (some mb)) (.string (tx t)) true).run Tryz.prog w = .ok (.tuple #[.int .i64 (if resv t = true then wdV t else 0), .bool (resv t)]) w := by
  obtain ⟨⟨n, hm⟩, _⟩ := h.mp
  have := hm.look (tx t) (by rw [tx_size]; omega)
  rw [this]
  have e : (tx t).data.toList = t := L_tx t
  rw [e]
  cases hr : resv t with
  | true => simp
  | false => simp
theorem RdT.cells {w : World} {P d mb : Nat} {s : ByteArray} {ts : List Tk} (h : RdT w P s ts d mb) : ∃ p c, w.cell? ⟨P, 0, none⟩ = some (.string s) ∧ w.cell? ⟨P, 1, none⟩ = some (.slice p ts.length c) ∧ w.cell? ⟨P, 2, none⟩ = some (.int .i64 (d : Int)) ∧ w.cell? ⟨P, 3, none⟩ = some (.map (some mb)) ∧ (∀ j, w.frozen? ⟨P, j, none⟩ = false) ∧ tr.In w p ts ∧ ts.length ≤ c ∧ (∀ x, p = some x → x.block < P) := by
  obtain ⟨p, c, h1, h2, h3, h4⟩ := h.ex
  exact ⟨p, c, by rw [cell_of h1]; rfl, by rw [cell_of h1]; rfl, by rw [cell_of h1]; rfl, by rw [cell_of h1]; rfl, fun j => by simp [World.frozen?, h1], h3, h2, h4⟩
theorem name_is (en : Nat) (ts : List Tk) : (resv (hd en ts).t = true ∨ isN (hd en ts).t = false → name en ts = .error (3, (hd en ts).a)) ∧ (resv (hd en ts).t = false → isN (hd en ts).t = true → 12 < (hd en ts).t.length → name en ts = .error (4, (hd en ts).a)) ∧ (resv (hd en ts).t = false → isN (hd en ts).t = true → ¬ 12 < (hd en ts).t.length → name en ts = .ok ((hd en ts).t, ts.tail)) := by
  unfold name
  refine ⟨fun h => by rw [if_pos h], fun h1 h2 h3 => by rw [if_neg (by rw [h1, h2]; simp), if_pos h3], fun h1 h2 h3 => by rw [if_neg (by rw [h1, h2]; simp), if_neg h3]⟩
set_option maxRecDepth 10000 in
set_option maxHeartbeats 1000000 in
theorem name_at (w : World) (P d mb : Nat) (s : ByteArray) (ts : List Tk) (h : RdT w P s ts d mb) :
    Calls Tryz.prog 98 #[.pointer (some ⟨P, 0, none⟩)] w fun e w' => Ans (fun _ v t => v = tkV ⟨t, (hd s.size ts).a⟩) P s d mb w (name s.size ts) e w' := by
  have hb0 : Bl w (w.alloc (.cells #[.string ⟨#[]⟩, .int .i64 0] 145)) := (Bl.refl _).alloc _
  have cT := take_at _ P d mb s ts (h.step hb0)
  have hn0 := Tv.new w ⟨#[]⟩ 0
  obtain ⟨N, hN⟩ : ∃ N, N = w.heap.size := ⟨_, rfl⟩
  obtain ⟨w1, hw1⟩ : ∃ w1, w1 = w.alloc (.cells #[.string ⟨#[]⟩, .int .i64 0] 145) := ⟨_, rfl⟩
  have hPw := h.lt
  have hlen := h.hdlen
  rw [← hw1] at cT hb0
  rw [← hw1, ← hN] at hn0
  obtain ⟨o1, o2, o3⟩ := name_is s.size ts
  obtain ⟨T, hT⟩ : ∃ T, T = hd s.size ts := ⟨_, rfl⟩
  rw [← hT] at cT o1 o2 o3 hlen ⊢
  have cN := Name_at (tx T.t)
  rw [L_tx, isN_nmb] at cN
  have hthr := throw_at T
  have hPN : P < N := by omega
  have HO : Hid (T = hd s.size ts) := hT
  unfold tkV at cT hthr
  obtain ⟨q, hq⟩ : ∃ q, q = name s.size ts := ⟨_, rfl⟩
  rw [← hq] at o1 o2 o3 ⊢
  have hsz : (tx T.t).size = T.t.length := tx_size _
  obtain ⟨b, hb⟩ : ∃ b, b = resv T.t := ⟨_, rfl⟩
  obtain ⟨S, hS⟩ : ∃ S, S = tx T.t := ⟨_, rfl⟩
  rw [← hS] at cT hthr cN hsz
  have HR : Hid (RdT w P s ts d mb ∧ N = w.heap.size ∧ S = tx T.t ∧ b = resv T.t) := ⟨h, hN, hS, hb⟩
  rw [← hb] at o1 o2 o3
  clear h hPw hS hT hq hb
  go_enter Tryz.func98, Tryz.ntmps98
  go_wp2_with fail
  rw [← hw1]
  refine cT.mono ?_
  rintro e w2 ⟨rfl, hR2, hg2⟩
  have hT2 := hn0.gp hg2 (by omega)
  have hn2 := Tv.new w2 S (T.a : Int)
  obtain ⟨N2, hN2⟩ : ∃ N2, N2 = w2.heap.size := ⟨_, rfl⟩
  obtain ⟨w3, hw3⟩ : ∃ w3, w3 = w2.alloc (.cells #[.string S, .int .i64 (T.a : Int)] 145) := ⟨_, rfl⟩
  have hb23 : Bl w2 w3 := by rw [hw3]; exact (Bl.refl _).alloc _
  rw [← hw3, ← hN2] at hn2
  have hR3 := (hR2.step hb23).step (Bl.refl w3).drew
  have hlk := hR3.look T.t hlen
  rw [← HR.out.2.2.1, ← HR.out.2.2.2] at hlk
  obtain ⟨p, c, d0, d1, d2, d3, dz, _⟩ := hR3.cells
  obtain ⟨g0, g1, z0, z1, hNs⟩ := (hn2.bl (Bl.refl w3).drew).facts
  obtain ⟨r, hr⟩ : ∃ r, r = (if b = true then wdV T.t else 0) := ⟨_, rfl⟩
  rw [← hr] at hlk
  have HG : Hid (Gp P w w3 ∧ RdT w3 P s ts.tail d mb ∧ Tv w3 N ⟨#[]⟩ 0 ∧ Tv w3 N2 S (T.a : Int)) := ⟨((Gp.bl hb0).trans hg2).trans (Gp.bl hb23), hR2.step hb23, hT2.bl hb23, hn2⟩
  have HM : Hid (N2 = w2.heap.size ∧ Bl w2 w3 ∧ N < w2.heap.size) := ⟨hN2, hb23, hT2.facts.2.2.2.2⟩
  clear hr hn2 hb0 hn0 hT2 hg2 hR2 cT hR3 hb23 hw1
  go_upto_region 2 with fail
  rw [← hN, ← hN2, ← hw3]
  clear hw3 hN2 hN
  go_region
  have HW : Hid (Gp P w w3.drew ∧ RdT w3.drew P s ts.tail d mb ∧ Tv w3.drew N ⟨#[]⟩ 0 ∧ Tv w3.drew N2 S (T.a : Int) ∧ w.heap.size ≤ N) := ⟨HG.out.1.trans (Gp.bl (Bl.refl _).drew), HG.out.2.1.step (Bl.refl _).drew, HG.out.2.2.1.bl (Bl.refl _).drew, HG.out.2.2.2.bl (Bl.refl _).drew, by have := HR.out.2.1; omega⟩
  obtain ⟨y0, y1, x0, x1, hNN⟩ := HW.out.2.2.1.facts
  obtain ⟨W, hW⟩ : ∃ W, W = w3.drew := ⟨_, rfl⟩
  rw [← hW] at HW g0 g1 z0 z1 hNs y0 y1 x0 x1 hNN ⊢
  have hNe : ¬ N = N2 := by
    have h1 := HM.out.1
    have h2 := HR.out.2.1
    have h3 := HG.out.1.size
    have h4 := HM.out.2.2
    omega
  clear hlk d0 d1 d2 d3 dz hW
  -- a word that may not stand there
  have bad : ∀ (W' : World) (c : Int) (e : Ending) (w4 : World), Bl W W' → (∃ B, e = thrownT B ∧ W'.heap.size ≤ B ∧ AtX w4 B c (T.a : Int) ∧ Bl W' w4) → q = .error (c, T.a) → ∃ B, e = thrownT B ∧ Ans (fun _ v (t : List UInt8) => v = tkV ⟨t, T.a⟩) P s d mb w q e w4 := by
    rintro W' c e w4 hb ⟨B, rfl, k1, k2, k3⟩ hq
    refine ⟨B, rfl, ?_⟩
    rw [hq]
    exact Ans.err (HW.out.1.trans (Gp.bl (hb.trans k3))) (by have := HW.out.1.size; have := hb.size; omega) k2
  have HB : Hid (∀ (W' : World) (c : Int) (e : Ending) (w4 : World), Bl W W' → (∃ B, e = thrownT B ∧ W'.heap.size ≤ B ∧ AtX w4 B c (T.a : Int) ∧ Bl W' w4) → q = .error (c, T.a) → ∃ B, e = thrownT B ∧ Ans (fun _ v (t : List UInt8) => v = tkV ⟨t, T.a⟩) P s d mb w q e w4) := bad
  clear bad
  have hb1 : Bl W (W.alloc (.cells #[.string S, .int .i64 (T.a : Int)] 145)) := (Bl.refl _).alloc _
  cases hbb : b with
  | true =>
    have HQ : Hid (q = .error (3, T.a)) := o1 (Or.inl hbb)
    clear o1 o2 o3 hbb
    go_wp2_with fail
    refine (hthr _ _).mono ?_
    rintro e w4 hh
    obtain ⟨B, rfl, hans⟩ := HB.out _ _ _ _ (Bl.refl _) hh HQ.out
    clear hh
    unfold thrownT
    go_wp2
    exact ⟨rfl, hans⟩
  | false =>
    by_cases hn : isN T.t = true
    · rw [hn] at cN
      by_cases h12 : 12 < T.t.length
      · have HQ : Hid (q = .error (4, T.a)) := o2 hbb hn h12
        rw [← hsz] at h12
        have h12' : (12 : Int) < (S.size : Int) := by omega
        clear o1 o2 o3 hbb hn hsz
        go_wp2_with fail
        refine (cN _).mono ?_
        rintro e w1 ⟨rfl, rfl⟩
        go_wp2_with fail
        refine (hthr _ _).mono ?_
        rintro e w4 hh
        obtain ⟨B, rfl, hans⟩ := HB.out _ _ _ _ (Bl.refl _) hh HQ.out
        clear hh
        unfold thrownT
        go_wp2
        exact ⟨rfl, hans⟩
      · have HQ : Hid (q = .ok (T.t, ts.tail)) := o3 hbb hn h12
        rw [← hsz] at h12
        have h12' : ¬ (12 : Int) < (S.size : Int) := by omega
        clear o1 o2 o3 hbb hn hsz
        go_wp2_with fail
        refine (cN _).mono ?_
        rintro e w1 ⟨rfl, rfl⟩
        go_wp2
        have hv := HW.out.2.2.1.set (S' := S) (a' := (T.a : Int))
        have hg := Gp.two (x := .string S) (y := .int .i64 (T.a : Int)) HW.out.1 HW.out.2.2.2.2
        have hr := HW.out.2.1.two hPN (.string S) (.int .i64 (T.a : Int))
        rw [HQ.out]
        exact bodyPost_ret (v := .agg #[.string S, .int .i64 (T.a : Int)]) (results_cell_row rfl _ _ N 145 #[.string S, .int .i64 (T.a : Int)] (0, 0) _ rfl hv.h Tryz.underlying145 rfl infoT) rfl ⟨hg, _, rfl, (by show Value.agg _ = Value.agg _; rw [HR.out.2.2.1]), hr⟩
    · rw [Bool.not_eq_true] at hn
      rw [hn] at cN
      have HQ : Hid (q = .error (3, T.a)) := o1 (Or.inr hn)
      clear o1 o2 o3 hbb hn hsz
      go_wp2_with fail
      refine (cN _).mono ?_
      rintro e w1 ⟨rfl, rfl⟩
      go_wp2_with fail
      refine (hthr _ _).mono ?_
      rintro e w4 hh
      obtain ⟨B, rfl, hans⟩ := HB.out _ _ _ _ (Bl.refl _) hh HQ.out
      clear hh
      unfold thrownT
      go_wp2
      exact ⟨rfl, hans⟩
end Go.Proofs.YtococaecjecjgaaGreatDoor.tm
/- Where the mark stands that ends an expression. -/
namespace Go.Proofs.YtococaecjecjgaaGreatDoor.tm
set_option linter.unusedVariables false
open Go.ChangeShapes Go.WideShapes Go.ChangeAt Go.RowKit
open mem lx ex

theorem mark_is (m : ByteArray) (b : Nat) (t : Tk) (w : World) (hb : w.cell? ⟨b, 0, none⟩ = some (.string m)) : Calls Tryz.prog 177 #[tkV t, .pointer (some ⟨b, 0, none⟩)] w fun e w' => e = .returned (.bool (decide (t.t = L m))) ∧ Bl w w' := by
  have hb' := at_bl ((Bl.refl w).alloc (.cells #[.string (tx t.t), .int .i64 (t.a : Int)] 145)) hb
  have hlt : b < w.heap.size := by
    rcases Nat.lt_or_ge b w.heap.size with h | h
    · exact h
    · simp [World.cell?, Array.getElem?_eq_none h] at hb
  have hne : ¬ b = w.heap.size := by omega
  have htl := tl_tx t.t
  have hml : m.toList = L m := ByteArray.toList_eq m
  have hD : (decide (t.t = L m)) = ((tx t.t).toList == m.toList) := by rw [htl, hml, Bool.eq_iff_iff]; simp
  unfold tkV
  rw [hD]
  clear hD htl hml
  generalize tx t.t = S at *
  go_enter Tryz.func177, Tryz.ntmps177
  go_wp2
  go_ret
  exact ⟨rfl, (Bl.refl _).alloc _⟩
theorem upto_facts (m : List UInt8) (ts : List Tk) : (upto m ts).length ≤ ts.length ∧ (∀ i (h : i < ts.length), i < (upto m ts).length → ts[i].t ≠ m) ∧ ((h : (upto m ts).length < ts.length) → ts[(upto m ts).length].t = m) := by
  induction ts with
  | nil => exact ⟨Nat.le_refl _, fun i h => absurd h (Nat.not_lt_zero _), fun h => absurd h (Nat.not_lt_zero _)⟩
  | cons t ts ih =>
    obtain ⟨h1, h2, h3⟩ := ih
    by_cases ht : t.t = m
    · have e : upto m (t :: ts) = [] := by
        unfold upto
        rw [List.takeWhile_cons_of_neg (p := fun t : Tk => t.t != m) (by simp [ht])]
      simp only [e, List.length_nil]
      exact ⟨Nat.zero_le _, fun i _ h => absurd h (Nat.not_lt_zero _), fun _ => ht⟩
    · have e : upto m (t :: ts) = t :: upto m ts := by
        unfold upto
        rw [List.takeWhile_cons_of_pos (p := fun t : Tk => t.t != m) (by simpa using ht)]
      simp only [e, List.length_cons]
      refine ⟨by omega, fun i h h' => ?_, fun h => ?_⟩
      · cases i with
        | zero => exact ht
        | succ i => exact h2 i (by simpa using h) (by omega)
      · exact h3 (by simpa using h)
/-- Where it stands, or -1. -/
def whereM (m : List UInt8) (ts : List Tk) : Int := if (upto m ts).length < ts.length then ((upto m ts).length : Int) else -1
set_option maxRecDepth 10000 in
theorem index_at (m : ByteArray) (b : Nat) (ts : List Tk) (p : Option Addr) (c : Nat) (w : World) (hin : tr.In w p ts) (hl : ts.length ≤ c) (hn : ts.length ≤ 3000) (hb : w.cell? ⟨b, 0, none⟩ = some (.string m)) :
    Calls Tryz.prog 176 #[.slice p ts.length c, .func (.func 177) #[] #[.pointer (some ⟨b, 0, none⟩)]] w fun e w' => e = .returned (.int .i64 (whereM (L m) ts)) ∧ Bl w w' := by
  obtain ⟨U, hU⟩ : ∃ U, U = (upto (L m) ts).length := ⟨_, rfl⟩
  obtain ⟨u1, u2, u3⟩ := upto_facts (L m) ts
  rw [← hU] at u1 u2
  have hW : whereM (L m) ts = if U < ts.length then (U : Int) else -1 := by unfold whereM; rw [hU]
  have u3' : ∀ (h : U < ts.length), ts[U].t = L m := by subst hU; exact u3
  rw [hW]
  clear hW u3 hU
  obtain ⟨n, hnn⟩ : ∃ n, n = ts.length := ⟨_, rfl⟩
  have HI : Hid (tr.In w p ts ∧ n = ts.length ∧ (∀ i (h : i < ts.length), i < U → ts[i].t ≠ L m) ∧ (∀ (h : U < ts.length), ts[U].t = L m)) := ⟨hin, hnn, u2, u3'⟩
  rw [← hnn] at u1 hl hn ⊢
  clear hin u2 u3' hnn
  have hsl : p = none → n = 0 := fun h => by
    rcases HI.out.1 with h1 | ⟨x, h1, _⟩
    · rw [HI.out.2.1, h1]; rfl
    · rw [h] at h1; cases h1
  clear hsl
  go_enter Tryz.func176, Tryz.ntmps176
  go_wp2
  go_loopw [8] (fun i wr => ∃ k : Nat, k ≤ U ∧ i = .int .i64 (k : Int) ∧ Hid (Bl w wr)) (fun i _ => n - (intOf i).toNat)
  case atStart => exact ⟨0, by omega, rfl, Bl.refl _⟩
  case round =>
    obtain ⟨k, hk, rfl, HB⟩ := hrel
    by_cases hkn : k < n
    · have d1 : decide ((k : Int) < (n : Int)) = true := decide_eq_true (by omega)
      have hk' : k < ts.length := by have := HI.out.2.1; omega
      obtain ⟨x, hx, q0, q1⟩ := (HI.out.1.step HB.out).at' k hk'
      have HT : Hid (k < U → ts[k].t ≠ L m) := HI.out.2.2.1 k hk'
      have HT2 : Hid (k = U → ts[k].t = L m) := fun h => by subst h; exact HI.out.2.2.2 hk'
      generalize ts[k] = t at *
      have cM := mark_is m b t wr (at_bl HB.out hb)
      subst hx
      unfold tkV at cM
      have hnn : ¬ n ≤ k := by omega
      by_cases hkU : k < U
      · have hD : decide (t.t = L m) = false := decide_eq_false (HT.out hkU)
        rw [hD] at cM
        clear hD
        go_wp2_with fail
        refine cM.mono ?_
        rintro e w2 ⟨rfl, hb2⟩
        go_wp2
        go_roundw
        case rel => exact ⟨k + 1, by omega, by go_num, HB.out.trans hb2⟩
        case measure => simp [intOf]; omega
      · obtain rfl : k = U := by omega
        have hD : decide (t.t = L m) = true := decide_eq_true (HT2.out rfl)
        rw [hD] at cM
        clear hD
        go_wp2_with fail
        refine cM.mono ?_
        rintro e w2 ⟨rfl, hb2⟩
        go_wp2
        go_ret
        exact ⟨ret_int rfl, HB.out.trans hb2⟩
    · have d1 : decide ((k : Int) < (n : Int)) = false := decide_eq_false (by omega)
      have hUn : ¬ U < n := by omega
      go_wp2
      go_ret
      exact ⟨ret_int rfl, HB.out⟩
end Go.Proofs.YtococaecjecjgaaGreatDoor.tm
/- The library's own texts that a call comes to, as this program has them: laid on the shelf's. -/
namespace Go.Proofs.YtococaecjecjgaaGreatDoor.layR
open Go.Shelf
def rf : FuncId → FuncId
  | 99 => 109
  | 105 => 179
  | 165 => 196
  | 166 => 93
  | 169 => 66
  | 170 => 197
  | 206 => 140
  | 212 => 195
  | 240 => 125
  | 241 => 207
  | 263 => 206
  | 264 => 200
  | 276 => 154
  | 277 => 215
  | x => x
def rt : TypeId → TypeId
  | 0 => 0
  | 3 => 3
  | 4 => 4
  | 5 => 5
  | 9 => 9
  | 20 => 20
  | 37 => 79
  | 46 => 85
  | 51 => 260
  | 53 => 102
  | 70 => 78
  | 72 => 81
  | 75 => 34
  | 76 => 172
  | 80 => 73
  | 109 => 271
  | 127 => 190
  | 146 => 261
  | 148 => 275
  | 164 => 204
  | x => x
def rg : Nat → Nat

  | x => x
def ren : Ren := ⟨rf, rt, rg⟩
set_option maxRecDepth 100000 in
theorem laid105 : Lays.n105 Tryz.prog ren where
  mixed := by kernel_rfl
  f99 := by kernel_rfl
  f105 := by kernel_rfl
  f165 := by kernel_rfl
  f166 := by kernel_rfl
  f169 := by kernel_rfl
  f170 := by kernel_rfl
  f206 := by kernel_rfl
  f212 := by kernel_rfl
  f240 := by kernel_rfl
  f241 := by kernel_rfl
  f263 := by kernel_rfl
  f264 := by kernel_rfl
  f276 := by kernel_rfl
  f277 := by kernel_rfl
  t0 := by kernel_rfl
  a0 := fun _ => by kernel_rfl
  z0 := fun _ => by kernel_rfl
  v0 := fun _ => by kernel_rfl
  t3 := by kernel_rfl
  a3 := fun _ => by kernel_rfl
  z3 := fun _ => by kernel_rfl
  v3 := fun _ => by kernel_rfl
  t4 := by kernel_rfl
  a4 := fun _ => by kernel_rfl
  z4 := fun _ => by kernel_rfl
  v4 := fun _ => by kernel_rfl
  t5 := by kernel_rfl
  a5 := fun _ => by kernel_rfl
  z5 := fun _ => by kernel_rfl
  v5 := fun _ => by kernel_rfl
  t9 := by kernel_rfl
  a9 := fun _ => by kernel_rfl
  z9 := fun _ => by kernel_rfl
  v9 := fun _ => by kernel_rfl
  t20 := by kernel_rfl
  a20 := fun _ => by kernel_rfl
  z20 := fun _ => by kernel_rfl
  v20 := fun _ => by kernel_rfl
  t37 := by kernel_rfl
  a37 := fun _ => by kernel_rfl
  z37 := fun _ => by kernel_rfl
  v37 := fun _ => by kernel_rfl
  t46 := by kernel_rfl
  a46 := fun _ => by kernel_rfl
  z46 := fun _ => by kernel_rfl
  v46 := fun _ => by kernel_rfl
  t51 := by kernel_rfl
  a51 := fun _ => by kernel_rfl
  z51 := fun _ => by kernel_rfl
  v51 := fun _ => by kernel_rfl
  t53 := by kernel_rfl
  a53 := fun _ => by kernel_rfl
  z53 := fun _ => by kernel_rfl
  v53 := fun _ => by kernel_rfl
  t70 := by kernel_rfl
  a70 := fun _ => by kernel_rfl
  z70 := fun _ => by kernel_rfl
  v70 := fun _ => by kernel_rfl
  t72 := by kernel_rfl
  a72 := fun _ => by kernel_rfl
  z72 := fun _ => by kernel_rfl
  v72 := fun _ => by kernel_rfl
  t75 := by kernel_rfl
  a75 := fun _ => by kernel_rfl
  z75 := fun _ => by kernel_rfl
  v75 := fun _ => by kernel_rfl
  t76 := by kernel_rfl
  a76 := fun _ => by kernel_rfl
  z76 := fun _ => by kernel_rfl
  v76 := fun _ => by kernel_rfl
  t109 := by kernel_rfl
  a109 := fun _ => by kernel_rfl
  z109 := fun _ => by kernel_rfl
  v109 := fun _ => by kernel_rfl
  t127 := by kernel_rfl
  a127 := fun _ => by kernel_rfl
  z127 := fun _ => by kernel_rfl
  v127 := fun _ => by kernel_rfl
  t146 := by kernel_rfl
  a146 := fun _ => by kernel_rfl
  z146 := fun _ => by kernel_rfl
  v146 := fun _ => by kernel_rfl
  t148 := by kernel_rfl
  a148 := fun _ => by kernel_rfl
  z148 := fun _ => by kernel_rfl
  v148 := fun _ => by kernel_rfl
  t164 := by kernel_rfl
  a164 := fun _ => by kernel_rfl
  z164 := fun _ => by kernel_rfl
  v164 := fun _ => by kernel_rfl
set_option maxRecDepth 100000 in
theorem extra : Builder.Extra Tryz.prog ren where
  sizeBuilder := by kernel_rfl
  liesBuilder := by kernel_rfl
  t5 := by kernel_rfl
  a5 := fun _ => by kernel_rfl
  z5 := fun _ => by kernel_rfl
  v5 := fun _ => by kernel_rfl
  infoByte := by kernel_rfl
  cellsByte := by kernel_rfl
  sizeByte := by kernel_rfl
  neB5 := by decide
end Go.Proofs.YtococaecjecjgaaGreatDoor.layR
/- A reader of a template's tokens: an expression, up to its mark. -/
namespace Go.Proofs.YtococaecjecjgaaGreatDoor.tm
set_option linter.unusedVariables false
open Go.ChangeShapes Go.WideShapes Go.ChangeAt Go.RowKit Go.Shelf
open mem lx ex

theorem at_below {B : Nat} {w w' : World} (h : Below B w w') {a : Addr} {v : Value} (ha : a.block < B) (hc : w.cell? a = some v) : w'.cell? a = some v := by
  unfold World.cell? at hc ⊢
  rw [h.block _ ha]
  exact hc
theorem gd_below {w w' : World} (h : ex.Gd w) (hb : Below 6 w w') : ex.Gd w' := by
  refine ⟨fun j t ht => at_below hb (show 3 < 6 by decide) (h.ms j t ht), ?_, h.pw.below hb (by decide), Nat.lt_of_lt_of_le h.lt hb.size⟩
  have h1 := h.er
  unfold errs.Laid at h1 ⊢
  exact at_below hb (by show (_ : Nat) < _; decide) h1
theorem gp_below {P : Nat} {w w' : World} (h : Gp P w w') (hP : 6 ≤ P) (hlt : P < w.heap.size) : Below 6 w w' := ⟨h.os, h.tape, h.output, h.size, fun k hk => h.block k (by omega) (by omega)⟩
theorem repeat_at (c : Nat) (w : World) (hc : c ≤ 3000) :
    Calls Tryz.prog 179 #[.string ⟨#[32]⟩, .int .i64 (c : Int)] w fun e w' => e = .returned (.string (tx (List.replicate c 32))) ∧ Bl w w' := by
  have h := Any.strings_Repeat layR.laid105 layR.extra ⟨#[32]⟩ c w (by omega) (by
    show 1 * c ≤ _
    omega)
  have e : (Lib.repeatL (ByteArray.mk #[32]).data.toList c) = List.replicate c 32 := by
    induction c with
    | zero => rfl
    | succ c ih =>
      rw [List.replicate_succ, Lib.repeatL]
      rw [ih (by omega) (Any.strings_Repeat layR.laid105 layR.extra ⟨#[32]⟩ c w (by omega) (by show 1 * c ≤ _; omega))]
      rfl
  rw [e] at h
  exact h
/-- What a piece tells, ahead of a mark: of the text with blanks ahead of it. -/
theorem piece_is {s : ByteArray} {m : List UInt8} (hm : Em m) {pre ts : List Tk} (h : lx (L s) 0 = (pre ++ ts, none)) :
    (hd s.size ts).a ≤ (hd s.size (from_ m ts)).a ∧ (hd s.size (from_ m ts)).a ≤ s.size ∧ ∃ q, prs (L (tx (List.replicate (hd s.size ts).a 32) ++ s.extract (hd s.size ts).a (hd s.size (from_ m ts)).a)) = whole q ∧
    rx nb s.size m ts = rxq s.size (from_ m ts) q := by
  have h' : lx (L s) 0 = (pre ++ (upto m ts ++ from_ m ts), none) := by rw [upto_from]; exact h
  obtain ⟨k1, k2, k3⟩ := lx_seg h'
  simp only [upto_from, L_len] at k1 k2 k3
  obtain ⟨A, hA⟩ : ∃ A, A = (hd s.size ts).a := ⟨_, rfl⟩
  obtain ⟨B, hB⟩ : ∃ B, B = (hd s.size (from_ m ts)).a := ⟨_, rfl⟩
  rw [← hA, ← hB] at k1 k3
  rw [← hB] at k2
  rw [← hA, ← hB]
  refine ⟨k1, k2, ?_⟩
  have eL : L (tx (List.replicate A 32) ++ s.extract A B) = List.replicate A 32 ++ ((L s).drop A).take (B - A) := by
    rw [L_app, L_tx, L_ext, List.drop_take]
  rw [eL]
  have hlen : (List.replicate A (32 : UInt8) ++ ((L s).drop A).take (B - A)).length = B := by
    rw [List.length_append, List.length_replicate, List.length_take, List.length_drop, L_len]; omega
  obtain ⟨q, hq⟩ : ∃ q, row nb B (10 * (upto m ts).length + 10) 1 0 (upto m ts) = some q := by
    cases h : row nb B (10 * (upto m ts).length + 10) 1 0 (upto m ts) with
    | none => exact absurd h ((some_all _).1 1 0 _ (by omega) (by omega))
    | some q => exact ⟨q, rfl⟩
  refine ⟨q, ?_, ?_⟩
  · refine prs_of (f := 10 * (upto m ts).length + 10) k3 ?_
    rw [hlen]; exact hq
  · refine rx_upto hm (f := 10 * (upto m ts).length + 10) (by rw [← hB]; exact hq) ?_
    intro x r hx
    rw [hx] at hq
    exact (mem_all _).1 _ _ _ _ _ hq
/-- What reading an expression answers. -/
def XAns (m : List UInt8) (P : Nat) (s : ByteArray) (ts : List Tk) (d mb : Nat) (w : World) (e : Ending) (w' : World) : Prop :=
  Gp P w w' ∧ ((∃ x v, rx nb s.size m ts = .ok (x, from_ m ts) ∧ e = .returned v ∧ IsX w' v x ∧ RdT w' P s (from_ m ts) d mb) ∨
    (∃ c p B, rx nb s.size m ts = .error (c, p) ∧ e = thrownT B ∧ w.heap.size ≤ B ∧ AtX w' B c ((p : Nat) : Int)) ∨
    (rx nb s.size m ts = .error (3, s.size) ∧ ∃ x v, e = .returned v ∧ IsX w' v x ∧ RdT w' P s [] d mb))
theorem RdT.setLeft {w : World} {P d mb : Nat} {s : ByteArray} {ts ts' : List Tk} {p : Option Addr} {c : Nat} (h : RdT w P s ts d mb) (hl : ts'.length ≤ c) (hin : tr.In w p ts') (hp : ∀ x, p = some x → x.block < P) (hs : ∃ pre, lx (L s) 0 = (pre ++ ts', none)) : RdT (w.setCell ⟨P, 1, none⟩ (.slice p ts'.length c)) P s ts' d mb := by
  obtain ⟨p0, c0, h1, h2, h3, h4⟩ := h.ex
  have hg : Gp P w (w.setCell ⟨P, 1, none⟩ (.slice p ts'.length c)) := Gp.set _
  refine h.gp' hg ⟨p, c, ?_, hl, ?_, hp⟩ hs
  · simp [World.setCell, Array.getElem?_modify, h1]
  · have hP := lt_of_heap h1
    exact In.gp hin hg (fun y hy => by have := hp y hy; exact ⟨by omega, by omega⟩)
theorem from_sx {s : ByteArray} {m : List UInt8} {ts : List Tk} (h : ∃ pre, lx (L s) 0 = (pre ++ ts, none)) : ∃ pre, lx (L s) 0 = (pre ++ from_ m ts, none) := by
  obtain ⟨pre, hp⟩ := h
  refine ⟨pre ++ upto m ts, ?_⟩
  rw [List.append_assoc, upto_from]
  exact hp
/-- A slice from a place on. -/
theorem in_drop {w : World} {p : Option Addr} {ts : List Tk} {c k : Nat} (h : tr.In w p ts) (hl : ts.length ≤ c) (hk : k ≤ ts.length) : tr.In w (if k = c then p else p.map (fun x => x.add (k * 2))) (ts.drop k) := by
  by_cases h0 : k = ts.length
  · rw [h0, List.drop_length]; exact Or.inl rfl
  · have hkc : ¬ k = c := by omega
    rw [if_neg hkc]
    rcases h with rfl | ⟨x, rfl, h2⟩
    · simp at hk; simp at h0; omega
    · refine Or.inr ⟨x.add (k * 2), rfl, fun j u hu => ?_⟩
      rw [Addr.add_add]
      refine h2 (k * 2 + j) u ?_
      have e : tr.rowE ts = tr.rowE (ts.take k) ++ tr.rowE (ts.drop k) := by rw [← tr.rowE_append, List.take_append_drop]
      rw [e, List.getElem?_append_right (by rw [tr.rowE_len, List.length_take]; omega), tr.rowE_len, List.length_take, show min k ts.length = k by omega, show k * 2 + j - k * 2 = j by omega]
      exact hu
/-- The slice behind the tokens that are gone over. -/
def cutP (p : Option Addr) (k c : Nat) : Option Addr := if k = c then p else p.map (fun x => x.add (k * 2))
theorem cutP_block {p : Option Addr} {k c P : Nat} (h : ∀ x, p = some x → x.block < P) : ∀ x, cutP p k c = some x → x.block < P := by
  intro x hx
  unfold cutP at hx
  split at hx
  · exact h x hx
  · cases p with
    | none => cases hx
    | some y =>
      injection hx with hx
      rw [← hx]
      have : (y.add (k * 2)).block = y.block := by cases (k * 2) <;> rfl
      rw [this]
      exact h y rfl
theorem from_drop (m : List UInt8) (ts : List Tk) : from_ m ts = ts.drop (upto m ts).length := by
  conv => rhs; arg 2; rw [← upto_from m ts]
  rw [List.drop_left]
/-- What reading a piece of a text answers. -/
theorem parse_of {S : ByteArray} {q : Res} (hq : prs (L S) = whole q) (w : World) (hs : S.size ≤ 3000) (hG : ex.Gd w) :
    Calls Tryz.prog 178 #[.string S] w fun e w' => Bl w w' ∧ match whole q with
      | .ok x => ∃ v, e = .returned (.tuple #[v, .nilIface]) ∧ IsX w' v x
      | .error (c, p) => ∃ B : Nat, e = .returned (.tuple #[.pointer none, .iface 113 (.pointer (some ⟨B, 0, none⟩))]) ∧ w.heap.size ≤ B ∧ AtX w' B c (p : Int) := by
  have := Parse_at S w hs hG.ms hG.er
  unfold PAns at this
  rw [hq] at this
  exact this
theorem xans_ok {m : List UInt8} {P d mb : Nat} {s : ByteArray} {ts : List Tk} {q : Res} {x : Ex} {w w' : World} {v : Value} (hq : rx nb s.size m ts = rxq s.size (from_ m ts) q) (hw : whole q = .ok x) (hg : Gp P w w') (hv : IsX w' v x) (hr : RdT w' P s (from_ m ts) d mb) : XAns m P s ts d mb w (.returned v) w' := by
  refine ⟨hg, ?_⟩
  have e : q = .ok (x, []) := by
    cases q with
    | error e => cases hw
    | ok xr =>
      obtain ⟨y, r⟩ := xr
      cases r with
      | nil => injection hw with hw; rw [hw]
      | cons t r => cases hw
  rw [e] at hq
  unfold rxq at hq
  dsimp only at hq
  by_cases h0 : from_ m ts = []
  · rw [if_pos h0] at hq
    rw [h0] at hr
    exact Or.inr (Or.inr ⟨hq, x, v, rfl, hv, hr⟩)
  · rw [if_neg h0] at hq
    exact Or.inl ⟨x, v, hq, rfl, hv, hr⟩
theorem xans_err {m : List UInt8} {P d mb B : Nat} {s : ByteArray} {ts : List Tk} {q : Res} {c : Int} {p : Nat} {w w' : World} (hq : rx nb s.size m ts = rxq s.size (from_ m ts) q) (hw : whole q = .error (c, p)) (hg : Gp P w w') (hB : w.heap.size ≤ B) (hA : AtX w' B c (p : Int)) : XAns m P s ts d mb w (thrownT B) w' := by
  refine ⟨hg, Or.inr (Or.inl ⟨c, p, B, ?_, rfl, hB, hA⟩)⟩
  rw [hq]
  cases q with
  | error e => injection hw with hw; rw [hw]; rfl
  | ok xr =>
    obtain ⟨y, r⟩ := xr
    cases r with
    | nil => cases hw
    | cons t r => injection hw with hw; show Except.error (3, t.a) = _; rw [hw]
set_option maxRecDepth 10000 in
set_option maxHeartbeats 2000000 in
theorem expr_at (m : ByteArray) (hm : Em (L m)) (w : World) (P d mb : Nat) (s : ByteArray) (ts : List Tk) (h : RdT w P s ts d mb) (hG : ex.Gd w) (hGP : 6 ≤ P) :
    Calls Tryz.prog 160 #[.pointer (some ⟨P, 0, none⟩), .string m] w fun e w' => XAns (L m) P s ts d mb w e w' := by
  have hmf : ∀ (fn : Fn) (first cap : Array Value) (w : World), (Instr.makeFunc fn first cap).run Tryz.prog w = .ok (.func fn first cap) w := fun _ _ _ _ => rfl
  have hPw := h.lt
  obtain ⟨w1, hw1⟩ : ∃ w1, w1 = w.alloc (.cells #[.string m] 9) := ⟨_, rfl⟩
  have hb1 : Bl w w1 := by rw [hw1]; exact (Bl.refl _).alloc _
  have hv1 := Vr.new w (.string m) 9
  obtain ⟨N, hN⟩ : ∃ N, N = w.heap.size := ⟨_, rfl⟩
  rw [← hw1, ← hN] at hv1
  have cN1 := next_at w1 P d mb s ts (h.step hb1)
  obtain ⟨T, hT⟩ : ∃ T, T = hd s.size ts := ⟨_, rfl⟩
  rw [← hT] at cN1
  have HR : Hid (RdT w P s ts d mb ∧ ex.Gd w ∧ N = w.heap.size ∧ T = hd s.size ts) := ⟨h, hG, hN, hT⟩
  have hfd1 : ∀ (S : ByteArray) (n : Int) (w : World), (Instr.field 145 (.agg #[.string S, .int .i64 n]) 1).run Tryz.prog w = .ok (.int .i64 n) w := fun _ _ _ => by kernel_rfl
  clear h hG hN hT
  unfold tkV at cN1
  go_enter Tryz.func160, Tryz.ntmps160
  go_wp2_with fail
  rw [← hw1]
  refine cN1.mono ?_
  rintro e w2 ⟨rfl, hb2⟩
  have hb02 := hb1.trans hb2
  have hR2 := HR.out.1.step hb02
  obtain ⟨p, c, d0, d1, d2, d3, dz, hin, hlc, hpb⟩ := hR2.cells
  have cI := index_at m N ts p c w2 hin hlc hR2.len.1 ((hv1.step hb2).cell)
  obtain ⟨n, hn⟩ : ∃ n, n = ts.length := ⟨_, rfl⟩
  rw [← hn] at cI d1
  have HP : Hid (tr.In w2 p ts ∧ ts.length ≤ c ∧ (∀ x, p = some x → x.block < P) ∧ n = ts.length ∧ Bl w w2) := ⟨hin, hlc, hpb, hn, hb02⟩
  have hPs : P < w2.heap.size := by have := hb02.size; omega
  clear hb1 hv1 hb2 hb02 hR2 hin hlc hpb hn cN1
  go_wp2_with fail
  rw [← HR.out.2.2.1]
  refine cI.mono ?_
  rintro e w3 ⟨rfl, hb3⟩
  obtain ⟨U, hU⟩ : ∃ U, U = (upto (L m) ts).length := ⟨_, rfl⟩
  have hUn : U ≤ n := by rw [hU, HP.out.2.2.2.1]; exact (upto_facts _ _).1
  have hW : whereM (L m) ts = if U < n then (U : Int) else -1 := by unfold whereM; rw [hU, HP.out.2.2.2.1]
  have HU : Hid (U = (upto (L m) ts).length) := hU
  have H3 : Hid (Bl w w3 ∧ Bl w2 w3) := ⟨HP.out.2.2.2.2.trans hb3, hb3⟩
  have e0 := at_bl hb3 d0
  have e1 := at_bl hb3 d1
  have e2 := at_bl hb3 d2
  have e3 := at_bl hb3 d3
  have ez : ∀ j, w3.frozen? ⟨P, j, none⟩ = false := by
    obtain ⟨p', c', q⟩ := ((HR.out.1.step H3.out.1)).cells
    exact q.2.2.2.2.1
  have hPs3 : P < w3.heap.size := by have := hb3.size; omega
  have hnc : n ≤ c := by have := HP.out; omega
  clear hU d0 d1 d2 d3 dz cI hb3 hPs
  -- the reader goes on
  -- the reader goes on
  -- the reader goes on
  have HC : Hid (∀ {Q : Option Addr}, Q = (if c = U then p else Option.map (fun x => x.add (U * 2)) p) → RdT (w3.setCell ⟨P, 1, none⟩ (.slice Q (n - U) (c - U))) P s (from_ (L m) ts) d mb) := by
    intro Q hQ
    have h3 := HR.out.1.step H3.out.1
    have hn := HP.out.2.2.2.1
    have hd : from_ (L m) ts = ts.drop U := by rw [from_drop, ← HU.out]
    have hl : (from_ (L m) ts).length = n - U := by rw [hd, List.length_drop, hn]
    rw [← hl]
    refine h3.setLeft (by omega) ?_ ?_ (from_sx h3.sx)
    · have := in_drop (k := U) (HP.out.1.step H3.out.2) HP.out.2.1 (by omega)
      rw [hd, hQ]
      by_cases hc : c = U
      · rw [if_pos hc]; rw [if_pos hc.symm] at this; exact this
      · rw [if_neg hc]; rw [if_neg (fun e => hc e.symm)] at this; exact this
    · intro x hx
      rw [hQ] at hx
      exact cutP_block (k := U) (c := c) HP.out.2.2.1 x (by
        unfold cutP
        by_cases hc : c = U
        · rw [if_pos hc] at hx; rw [if_pos hc.symm]; exact hx
        · rw [if_neg hc] at hx; rw [if_neg (fun e => hc e.symm)]; exact hx)
  by_cases hlt : U < n
  · rw [if_pos hlt] at hW
    rw [hW]
    have hneg : decide ((U : Int) < 0) = false := decide_eq_false (by omega)
    have hz : w3.frozen? ⟨P, 1, none⟩ = false := ez 1
    have hcU : ¬ c = U := by omega
    replace HC : Hid (∀ {Q : Option Addr}, Q = Option.map (fun x => x.add (U * 2)) p → RdT (w3.setCell ⟨P, 1, none⟩ (.slice Q (n - U) (c - U))) P s (from_ (L m) ts) d mb) := by
      intro Q hQ
      exact HC.out (by rw [if_neg hcU]; exact hQ)
    clear hW
    go_upto_region 6 with fail
    obtain ⟨Q, hQ⟩ : ∃ Q, Q = Option.map (fun x => x.add (U * 2)) p := ⟨_, rfl⟩
    obtain ⟨W, hW⟩ : ∃ W, W = w3.setCell ⟨P, 1, none⟩ (.slice Q (n - U) (c - U)) := ⟨_, rfl⟩
    have hRW : RdT W P s (from_ (L m) ts) d mb := by rw [hW]; exact HC.out hQ
    have hgW : Gp P w W := by rw [hW]; exact (Gp.bl H3.out.1).trans (Gp.set _)
    rw [← hQ, ← hW]
    obtain ⟨p', c', f0, _⟩ := hRW.cells
    have HW : Hid (RdT W P s (from_ (L m) ts) d mb ∧ Gp P w W ∧ ex.Gd W) := ⟨hRW, hgW, gd_below HR.out.2.1 (gp_below hgW hGP hPw)⟩
    have hPW : P < W.heap.size := by have := hgW.size; omega
    have f0d := at_bl (Bl.refl W).drew f0
    clear hQ hW hRW hgW e0 e1 e2 e3 ez hPs3 hnc HC hz hmf hw1
    obtain ⟨pre, hpre⟩ := HR.out.1.sx
    obtain ⟨k1, k2, q, hq1, hq2⟩ := piece_is hm hpre
    rw [← HR.out.2.2.2] at k1 hq1
    obtain ⟨T2, hT2⟩ : ∃ T2, T2 = hd s.size (from_ (L m) ts) := ⟨_, rfl⟩
    rw [← hT2] at k1 k2 hq1
    have cN := fun wx (hb : Bl W wx) => next_at wx P d mb s (from_ (L m) ts) (HW.out.1.step hb)
    rw [← hT2] at cN
    have cR := fun wx => repeat_at T.a wx (by have := HR.out.1.sz; omega)
    have hs3 := HR.out.1.sz
    obtain ⟨E, hE⟩ : ∃ E, E = s.extract T.a T2.a := ⟨_, rfl⟩
    have hE' : s.extract T.a T2.a = E := hE.symm
    obtain ⟨R, hR⟩ : ∃ R, R = tx (List.replicate T.a (32 : UInt8)) := ⟨_, rfl⟩
    rw [← hR] at cR
    rw [← hE, ← hR] at hq1
    have hRE : R.size + E.size ≤ 3000 := by
      rw [hR, hE, tx_size, List.length_replicate, ByteArray.size_extract]
      omega
    have hs : (R ++ E).size ≤ 3000 := by rw [ByteArray.size_append]; exact hRE
    have cP := fun wx (hb : Bl W wx) => parse_of hq1 wx hs (HW.out.2.2.step hb)
    have hcat : ¬ 9223372036854775807 < R.size + E.size := by omega
    unfold tkV at cN
    have HE : Hid (E = s.extract T.a T2.a ∧ R = tx (List.replicate T.a (32 : UInt8)) ∧ prs (L (R ++ E)) = whole q ∧ rx nb s.size (L m) ts = rxq s.size (from_ (L m) ts) q) := ⟨hE, hR, hq1, hq2⟩
    have i1 : (T.a : Int) ≤ (T2.a : Int) := by omega
    have i2 : (T2.a : Int) ≤ (s.size : Int) := by omega
    have HBW : Hid (Bl W W.drew) := (Bl.refl W).drew
    clear hE hR hq1 hq2 hpre hs hm hT2
    have HQ := HE.out.2.2.2
    cases hwq : whole q with
    | ok x =>
      rw [hwq] at cP
      go_region_held3 (fun w' => w'.cell? ⟨P, 0, none⟩ = some (.string s)) (first | assumption | exact at_bl ((Bl.refl _).drew) (by assumption) | exact at_bl ((Bl.refl _).alloc _) (by assumption))
      (first
          | (go_at_call 179; (with_reducible refine (cR _).mono ?_); rintro e w6 ⟨rfl, hb6⟩; have s6 := at_bl hb6 f0d; have HB6 : Hid (Bl W w6) := HBW.out.trans hb6; clear hb6)
          | (go_at_call 133; (with_reducible refine (cN _ HB6.out).mono ?_); rintro e w7 ⟨rfl, hb7⟩; have s7 := at_bl hb7 s6; have HB7 : Hid (Bl W w7) := HB6.out.trans hb7; clear hb7)
          | (go_at_call 178; (with_reducible refine (cP _ HB7.out).mono ?_); rintro e w8 ⟨hb8, hans⟩; obtain ⟨v, rfl, hv⟩ := hans; obtain ⟨vb, rfl, _⟩ := hv.ptr; have s8 := at_bl hb8 s7; have H8 : Hid (Bl W w8 ∧ IsX w8 (.pointer (some ⟨vb, 0, none⟩)) x) := ⟨HB7.out.trans hb8, hv⟩; clear hb8 hv))
      clear cP cN cR HQ
      go_wp2
      go_ret
      exact xans_ok HE.out.2.2.2 hwq (HW.out.2.1.trans (Gp.bl H8.out.1)) H8.out.2 (HW.out.1.step H8.out.1)
    | error cp =>
      obtain ⟨c0, p0⟩ := cp
      rw [hwq] at cP
      go_region_held3 (fun w' => w'.cell? ⟨P, 0, none⟩ = some (.string s)) (first | assumption | exact at_bl ((Bl.refl _).drew) (by assumption) | exact at_bl ((Bl.refl _).alloc _) (by assumption))
      (first
          | (go_at_call 179; (with_reducible refine (cR _).mono ?_); rintro e w6 ⟨rfl, hb6⟩; have s6 := at_bl hb6 f0d; have HB6 : Hid (Bl W w6) := HBW.out.trans hb6; clear hb6)
          | (go_at_call 133; (with_reducible refine (cN _ HB6.out).mono ?_); rintro e w7 ⟨rfl, hb7⟩; have s7 := at_bl hb7 s6; have HB7 : Hid (Bl W w7) := HB6.out.trans hb7; clear hb7)
          | (go_at_call 178; (with_reducible refine (cP _ HB7.out).mono ?_); rintro e w8 ⟨hb8, hans⟩; obtain ⟨B, rfl, hsB, hB⟩ := hans; have s8 := at_bl hb8 s7; have H8 : Hid (Bl W w8 ∧ w7.heap.size ≤ B ∧ AtX w8 B c0 (p0 : Int) ∧ Bl W w7) := ⟨HB7.out.trans hb8, hsB, hB, HB7.out⟩; clear hb8 hB hsB))
      clear cP cN cR HQ
      go_wp2
      exact ⟨rfl, xans_err HE.out.2.2.2 hwq (HW.out.2.1.trans (Gp.bl H8.out.1)) (by have := HW.out.2.1.size; have := H8.out.2.2.2.size; have := H8.out.2.1; omega) H8.out.2.2.1⟩
  · rw [if_neg hlt] at hW
    rw [hW]
    have hz : w3.frozen? ⟨P, 1, none⟩ = false := ez 1
    obtain rfl : U = n := by omega
    replace HC : Hid (∀ {Q : Option Addr}, Q = (if c = U then p else Option.map (fun x => x.add (U * 2)) p) → RdT (w3.setCell ⟨P, 1, none⟩ (.slice Q 0 (c - U))) P s (from_ (L m) ts) d mb) := by
      intro Q hQ
      have := HC.out hQ
      rw [Nat.sub_self] at this
      exact this
    clear hW
    go_upto_region 6 with fail
    obtain ⟨Q, hQ⟩ : ∃ Q, Q = (if c = U then p else Option.map (fun x => x.add (U * 2)) p) := ⟨_, rfl⟩
    obtain ⟨W, hW⟩ : ∃ W, W = w3.setCell ⟨P, 1, none⟩ (.slice Q 0 (c - U)) := ⟨_, rfl⟩
    have hRW : RdT W P s (from_ (L m) ts) d mb := by rw [hW]; exact HC.out hQ
    have hgW : Gp P w W := by rw [hW]; exact (Gp.bl H3.out.1).trans (Gp.set _)
    rw [← hQ, ← hW]
    obtain ⟨p', c', f0, _⟩ := hRW.cells
    have HW : Hid (RdT W P s (from_ (L m) ts) d mb ∧ Gp P w W ∧ ex.Gd W) := ⟨hRW, hgW, gd_below HR.out.2.1 (gp_below hgW hGP hPw)⟩
    have hPW : P < W.heap.size := by have := hgW.size; omega
    have f0d := at_bl (Bl.refl W).drew f0
    clear hQ hW hRW hgW e0 e1 e2 e3 ez hPs3 hnc HC hz hmf hw1
    obtain ⟨pre, hpre⟩ := HR.out.1.sx
    obtain ⟨k1, k2, q, hq1, hq2⟩ := piece_is hm hpre
    rw [← HR.out.2.2.2] at k1 hq1
    obtain ⟨T2, hT2⟩ : ∃ T2, T2 = hd s.size (from_ (L m) ts) := ⟨_, rfl⟩
    rw [← hT2] at k1 k2 hq1
    have cN := fun wx (hb : Bl W wx) => next_at wx P d mb s (from_ (L m) ts) (HW.out.1.step hb)
    rw [← hT2] at cN
    have cR := fun wx => repeat_at T.a wx (by have := HR.out.1.sz; omega)
    have hs3 := HR.out.1.sz
    obtain ⟨E, hE⟩ : ∃ E, E = s.extract T.a T2.a := ⟨_, rfl⟩
    have hE' : s.extract T.a T2.a = E := hE.symm
    obtain ⟨R, hR⟩ : ∃ R, R = tx (List.replicate T.a (32 : UInt8)) := ⟨_, rfl⟩
    rw [← hR] at cR
    rw [← hE, ← hR] at hq1
    have hRE : R.size + E.size ≤ 3000 := by
      rw [hR, hE, tx_size, List.length_replicate, ByteArray.size_extract]
      omega
    have hs : (R ++ E).size ≤ 3000 := by rw [ByteArray.size_append]; exact hRE
    have cP := fun wx (hb : Bl W wx) => parse_of hq1 wx hs (HW.out.2.2.step hb)
    have hcat : ¬ 9223372036854775807 < R.size + E.size := by omega
    unfold tkV at cN
    have HE : Hid (E = s.extract T.a T2.a ∧ R = tx (List.replicate T.a (32 : UInt8)) ∧ prs (L (R ++ E)) = whole q ∧ rx nb s.size (L m) ts = rxq s.size (from_ (L m) ts) q) := ⟨hE, hR, hq1, hq2⟩
    have i1 : (T.a : Int) ≤ (T2.a : Int) := by omega
    have i2 : (T2.a : Int) ≤ (s.size : Int) := by omega
    have HBW : Hid (Bl W W.drew) := (Bl.refl W).drew
    clear hE hR hq1 hq2 hpre hs hm hT2
    have HQ := HE.out.2.2.2
    cases hwq : whole q with
    | ok x =>
      rw [hwq] at cP
      go_region_held3 (fun w' => w'.cell? ⟨P, 0, none⟩ = some (.string s)) (first | assumption | exact at_bl ((Bl.refl _).drew) (by assumption) | exact at_bl ((Bl.refl _).alloc _) (by assumption))
      (first
          | (go_at_call 179; (with_reducible refine (cR _).mono ?_); rintro e w6 ⟨rfl, hb6⟩; have s6 := at_bl hb6 f0d; have HB6 : Hid (Bl W w6) := HBW.out.trans hb6; clear hb6)
          | (go_at_call 133; (with_reducible refine (cN _ HB6.out).mono ?_); rintro e w7 ⟨rfl, hb7⟩; have s7 := at_bl hb7 s6; have HB7 : Hid (Bl W w7) := HB6.out.trans hb7; clear hb7)
          | (go_at_call 178; (with_reducible refine (cP _ HB7.out).mono ?_); rintro e w8 ⟨hb8, hans⟩; obtain ⟨v, rfl, hv⟩ := hans; obtain ⟨vb, rfl, _⟩ := hv.ptr; have s8 := at_bl hb8 s7; have H8 : Hid (Bl W w8 ∧ IsX w8 (.pointer (some ⟨vb, 0, none⟩)) x) := ⟨HB7.out.trans hb8, hv⟩; clear hb8 hv))
      clear cP cN cR HQ
      go_wp2
      go_ret
      exact xans_ok HE.out.2.2.2 hwq (HW.out.2.1.trans (Gp.bl H8.out.1)) H8.out.2 (HW.out.1.step H8.out.1)
    | error cp =>
      obtain ⟨c0, p0⟩ := cp
      rw [hwq] at cP
      go_region_held3 (fun w' => w'.cell? ⟨P, 0, none⟩ = some (.string s)) (first | assumption | exact at_bl ((Bl.refl _).drew) (by assumption) | exact at_bl ((Bl.refl _).alloc _) (by assumption))
      (first
          | (go_at_call 179; (with_reducible refine (cR _).mono ?_); rintro e w6 ⟨rfl, hb6⟩; have s6 := at_bl hb6 f0d; have HB6 : Hid (Bl W w6) := HBW.out.trans hb6; clear hb6)
          | (go_at_call 133; (with_reducible refine (cN _ HB6.out).mono ?_); rintro e w7 ⟨rfl, hb7⟩; have s7 := at_bl hb7 s6; have HB7 : Hid (Bl W w7) := HB6.out.trans hb7; clear hb7)
          | (go_at_call 178; (with_reducible refine (cP _ HB7.out).mono ?_); rintro e w8 ⟨hb8, hans⟩; obtain ⟨B, rfl, hsB, hB⟩ := hans; have s8 := at_bl hb8 s7; have H8 : Hid (Bl W w8 ∧ w7.heap.size ≤ B ∧ AtX w8 B c0 (p0 : Int) ∧ Bl W w7) := ⟨HB7.out.trans hb8, hsB, hB, HB7.out⟩; clear hb8 hB hsB))
      clear cP cN cR HQ
      go_wp2
      exact ⟨rfl, xans_err HE.out.2.2.2 hwq (HW.out.2.1.trans (Gp.bl H8.out.1)) (by have := HW.out.2.1.size; have := H8.out.2.2.2.size; have := H8.out.2.1; omega) H8.out.2.2.1⟩
end Go.Proofs.YtococaecjecjgaaGreatDoor.tm
/- A reader of a template's tokens: many, ruleOf, rule. -/
namespace Go.Proofs.YtococaecjecjgaaGreatDoor.tm
set_option linter.unusedVariables false
open Go.ChangeShapes Go.WideShapes Go.ChangeAt Go.RowKit Go.Shelf
open mem lx ex

/-- The words of rules, and those for numbers, lie where they are laid. -/
def ruL : List Value := [.string (tx []), .string (tx wSize), .string (tx wCount), .string (tx wCheck)]
def nuL : List Value := numW.flatMap fun p => [.string (tx p.1), .int .i64 (p.2.1 : Int), .int .i64 (p.2.2.1 : Int), .bool p.2.2.2]
structure Gt (w : World) : Prop where
  gd : ex.Gd w
  ru : w.rangeAt 2 0 ruL
  nu : w.rangeAt 0 0 nuL
theorem range_below {B g : Nat} {l : List Value} {w w' : World} (h : Below B w w') (hg : g < B) (hr : w.rangeAt g 0 l) : w'.rangeAt g 0 l := fun j v hv => at_below h hg (hr j v hv)
theorem Gt.below {w w' : World} (h : Gt w) (hb : Below 6 w w') : Gt w' := ⟨gd_below h.gd hb, range_below hb (by decide) h.ru, range_below hb (by decide) h.nu⟩
theorem Gt.bl {w w' : World} (h : Gt w) (hb : Bl w w') : Gt w' := ⟨h.gd.step hb, fun j v hv => at_bl hb (h.ru j v hv), fun j v hv => at_bl hb (h.nu j v hv)⟩
theorem Gt.gp {P : Nat} {w w' : World} (h : Gt w) (hb : Gp P w w') (hP : 6 ≤ P) (hlt : P < w.heap.size) : Gt w' := h.below (gp_below hb hP hlt)
/-- In brackets. -/
theorem many_at (w : World) (P d mb : Nat) (s : ByteArray) (ts : List Tk) (h : RdT w P s ts d mb) (hG : Gt w) (hGP : 6 ≤ P) :
    Calls Tryz.prog 161 #[.pointer (some ⟨P, 0, none⟩)] w fun e w' => Ans (fun w' v x => IsX w' v x) P s d mb w (many nb s.size ts) e w' := by
  have c1 := want_at ⟨#[91]⟩ w P d mb s ts h
  have hP := h.lt
  obtain ⟨q, hq⟩ : ∃ q, q = many nb s.size ts := ⟨_, rfl⟩
  rw [← hq]
  have HR : Hid (RdT w P s ts d mb ∧ Gt w) := ⟨h, hG⟩
  clear h hG
  have e91 : L ⟨#[91]⟩ = [91] := rfl
  rw [e91] at c1
  by_cases h1 : (hd s.size ts).t = [91]
  · rw [wantU_yes h1] at c1
    have hq1 : q = match rx nb s.size [93] ts.tail with
      | .error e => .error e
      | .ok (x, r) => .ok (x, r.tail) := by
      rw [hq]; unfold many want; rw [if_pos h1]; rfl
    have HQ : Hid (q = match rx nb s.size [93] ts.tail with
      | .error e => .error e
      | .ok (x, r) => .ok (x, r.tail)) := hq1
    clear hq hq1
    go_enter Tryz.func161, Tryz.ntmps161
    go_wp2_with fail
    refine c1.mono ?_
    rintro e w1 ⟨hg1, v1, rfl, rfl, hR1⟩
    have c2 := expr_at ⟨#[93]⟩ em_cb w1 P d mb s ts.tail hR1 (HR.out.2.gd |> fun g => gd_below g (gp_below hg1 hGP hP)) hGP
    have hs1 := hg1.size
    unfold tkV
    go_wp2_with fail
    refine c2.mono ?_
    rintro e w2 ⟨hg2, hans⟩
    rw [show L ⟨#[93]⟩ = [93] from rfl] at hans
    have hg02 := hg1.trans hg2
    rcases hans with ⟨x, v, hx, rfl, hv, hR2⟩ | ⟨c, p, B, hx, rfl, hB, hA⟩ | ⟨hx, x, v, rfl, hv, hR2⟩
    · obtain ⟨vb, rfl, _⟩ := hv.ptr
      have c3 := want_at ⟨#[93]⟩ w2 P d mb s _ hR2
      have hm := (rx_is hx).2
      rw [show L ⟨#[93]⟩ = [93] from rfl, wantU_yes hm] at c3
      have HQ2 : Hid (q = .ok (x, (from_ [93] ts.tail).tail)) := by rw [HQ.out, hx]; rfl
      obtain ⟨cs, hcs⟩ := hR2.is
      have HV : Hid (IsX w2 (.pointer (some ⟨vb, 0, none⟩)) x ∧ Gp P w w2) := ⟨hv, hg02⟩
      have HCS : Hid (w2.heap[P]? = some (.cells cs 129 (0, 0))) := hcs
      clear hx hm hR2 hcs hv c2
      go_wp2_with fail
      refine c3.mono ?_
      rintro e w3 ⟨hg3, v3, rfl, rfl, hR3⟩
      unfold tkV
      go_wp2
      go_ret
      rw [HQ2.out]
      refine ⟨HV.out.2.trans hg3, _, rfl, HV.out.1.keep ?_, hR3⟩
      intro b cs' hb
      rw [hg3.block b (lt_of_heap hb) (fun e => by
        have := HCS.out
        rw [e, this] at hb; simp at hb)]
      exact hb
    · have HQ2 : Hid (q = .error (c, p)) := by rw [HQ.out, hx]; rfl
      unfold thrownT
      clear hx c2 hR1
      go_wp2
      refine ⟨rfl, ?_⟩
      rw [HQ2.out]
      exact Ans.err hg02 (by omega) hA
    · have c3 := want_at ⟨#[93]⟩ w2 P d mb s _ hR2
      obtain ⟨vb, rfl, _⟩ := hv.ptr
      rw [show L ⟨#[93]⟩ = [93] from rfl, wantU_no (show ¬ (hd s.size ([] : List Tk)).t = [93] by show ¬ ([] : List UInt8) = [93]; decide)] at c3
      have HQ2 : Hid (q = .error (3, s.size)) := by rw [HQ.out, hx]; rfl
      have HV : Hid (Gp P w w2) := hg02
      clear hx hR2 hv c2
      go_wp2_with fail
      refine c3.mono ?_
      rintro e w3 ⟨hg3, B, rfl, hB, hA⟩
      unfold thrownT
      go_wp2
      refine ⟨rfl, ?_⟩
      rw [HQ2.out]
      exact Ans.err (HV.out.trans hg3) (by have := HV.out.size; omega) hA
  · rw [wantU_no h1] at c1
    have HQ : Hid (q = .error (3, (hd s.size ts).a)) := by rw [hq]; unfold many want; rw [if_neg h1]; rfl
    clear hq
    go_enter Tryz.func161, Tryz.ntmps161
    go_wp2_with fail
    refine c1.mono ?_
    rintro e w1 ⟨hg1, B, rfl, hB, hA⟩
    unfold thrownT
    go_wp2
    refine ⟨rfl, ?_⟩
    rw [HQ.out]
    exact Ans.err hg1 hB hA
theorem info4 : (Tryz.prog.info? 243).map (·.size) = some ruL.length := by kernel_rfl
theorem run_rule (w : World) (j : Nat) (u : Value) (h : ruL[j]? = some u) : (Instr.index 243 (.agg ruL.toArray) (.int .i64 (j : Int))).run Tryz.prog w = .ok u w := by
  rcases j with _ | _ | _ | _ | j
  · obtain rfl := Option.some.inj h; kernel_rfl
  · obtain rfl := Option.some.inj h; kernel_rfl
  · obtain rfl := Option.some.inj h; kernel_rfl
  · obtain rfl := Option.some.inj h; kernel_rfl
  · exact absurd h (by simp [ruL])
def rwL : List (List UInt8) := [[], wSize, wCount, wCheck]
theorem ruL_is (j : Nat) (t : List UInt8) (h : rwL[j]? = some t) : ruL[j]? = some (.string (tx t)) := by
  have : ruL = rwL.map fun t => Value.string (tx t) := rfl
  rw [this, List.getElem?_map, h]; rfl
theorem ruleOf_hit (t : List UInt8) (j : Nat) (h : rwL[j]? = some t) (hn : ∀ i u, i < j → rwL[i]? = some u → u ≠ t) : ruleOf t = j := by
  rcases j with _ | _ | _ | _ | j
  · obtain rfl := Option.some.inj h; decide
  · obtain rfl := Option.some.inj h; decide
  · obtain rfl := Option.some.inj h; decide
  · obtain rfl := Option.some.inj h; decide
  · exact absurd h (by simp [rwL])
theorem ruleOf_miss (t : List UInt8) (hn : ∀ i u, i < 4 → rwL[i]? = some u → u ≠ t) : ruleOf t = 0 := by
  unfold ruleOf
  rw [if_neg (fun e => hn 1 _ (by omega) rfl e.symm), if_neg (fun e => hn 2 _ (by omega) rfl e.symm), if_neg (fun e => hn 3 _ (by omega) rfl e.symm)]
set_option maxRecDepth 10000 in
theorem ruleOf_at (t : List UInt8) (w : World) (hr : w.rangeAt 2 0 ruL) :
    Calls Tryz.prog 198 #[.string (tx t)] w fun e w' => e = .returned (.int .i64 (ruleOf t : Int)) ∧ w' = w := by
  have hR : Hid (w.rangeAt 2 0 ruL) := hr
  have htl := tl_tx t
  obtain ⟨q, hq⟩ : ∃ q : Nat, q = ruleOf t := ⟨_, rfl⟩
  rw [← hq]
  have HQ : Hid (q = ruleOf t) := hq
  obtain ⟨S, hS⟩ : ∃ S, S = tx t := ⟨_, rfl⟩
  rw [← hS] at htl ⊢
  clear hr hq hS
  go_enter Tryz.func198, Tryz.ntmps198
  go_upto_region 1 with fail
  refine wp_region_lit ?_
  refine wpList_load_mid rfl 243 _ rfl 2 0 rfl ruL _ hR.out Tryz.underlying243 rfl info4 ?_
  generalize hAV : Value.agg ruL.toArray = AV
  have HAV : Hid (Value.agg ruL.toArray = AV) := hAV
  clear hAV hR
  go_wp2
  go_loopw [6] (fun i wr => ∃ j : Nat, j ≤ 4 ∧ i = .int .i64 (j : Int) ∧ wr = w ∧ Hid (∀ i u, i < j → rwL[i]? = some u → u ≠ t)) (fun i _ => 4 - (intOf i).toNat)
  case atStart => exact ⟨0, by omega, rfl, rfl, fun i u h => by omega⟩
  case round =>
    obtain ⟨j, hj, rfl, rfl, HP⟩ := hrel
    by_cases h4 : j < 4
    · have d1 : decide ((j : Int) < 4) = true := decide_eq_true (by omega)
      obtain ⟨u, hu⟩ : ∃ u, rwL[j]? = some u := ⟨_, List.getElem?_eq_getElem (show j < rwL.length from h4)⟩
      have hix := run_rule wr j _ (ruL_is j u hu)
      rw [HAV.out] at hix
      have hul := tl_tx u
      by_cases hp : u = t
      · have HR : Hid (q = j) := by rw [HQ.out]; exact ruleOf_hit t j (by rw [hu, hp]) HP.out
        have hb : ((tx u).toList == S.toList) = true := by rw [hul, htl, hp]; simp
        clear hp hu htl hul
        generalize tx u = U at *
        go_wp2
        go_ret
        exact ⟨ret_int (by rw [HR.out]), rfl⟩
      · have hb : ((tx u).toList == S.toList) = false := by rw [hul, htl, beq_eq_false_iff_ne]; exact hp
        have HP' : Hid (∀ i v, i < j + 1 → rwL[i]? = some v → v ≠ t) := by
          intro i v hi hv
          rcases Nat.lt_or_ge i j with h | h
          · exact HP.out i v h hv
          · obtain rfl : i = j := by omega
            rw [hu] at hv
            injection hv with hv
            rw [← hv]; exact hp
        clear hp hu htl hul
        generalize tx u = U at *
        go_wp2
        go_roundw
        case rel => exact ⟨j + 1, by omega, by go_num, by first | rfl | trivial, HP'.out⟩
        case measure => simp [intOf]; omega
    · obtain rfl : j = 4 := by omega
      have HR : Hid (q = 0) := by rw [HQ.out]; exact ruleOf_miss t HP.out
      go_wp2
      go_ret
      exact ⟨ret_int (by rw [HR.out]; rfl), rfl⟩
end Go.Proofs.YtococaecjecjgaaGreatDoor.tm
