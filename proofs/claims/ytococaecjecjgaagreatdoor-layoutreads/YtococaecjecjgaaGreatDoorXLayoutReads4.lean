/- Texts laid together: Lx4, Lx5, ExP, Ex1, Dig. -/
import Derived.Test.YtococaecjecjgaaGreatDoorXLayoutReads3
import Derived.Defers
import Derived.Recover
import Derived.Test.YtococaecjecjgaaGreatDoorXLayoutReads2
import Derived.Laws.Rows
import Derived.WalkKit
import Derived.ProofKit
import Derived.OpenShut
import Derived.Laws.BytesArg
/- cut of package lex: what is thrown is caught. -/
namespace Go.Proofs.YtococaecjecjgaaGreatDoor.lx
set_option linter.unusedVariables false
open Go.ChangeShapes Go.WideShapes Go.ChangeAt Go.RowKit
open mem

theorem catch_idle (p q : Addr) (w : World) :
    CallsD Tryz.prog 128 #[.pointer (some p), .pointer (some q)] .returning w fun e u' w' => e = .returned (.tuple #[]) ∧ u' = .returning ∧ w' = w := by
  have hta : ∀ w : World, (Instr.typeAssert Value.nilIface 20 113 true).run Tryz.prog w = .ok (.tuple #[.pointer none, .bool false]) w := fun _ => by kernel_rfl
  refine callsD_of_wpS Tryz.func128 rfl fun c₀ cs hu => ?_
  apply wpS_seq
  apply wpS_region
  simp [wpOpsS, go_sem, recoverD, hu, Tryz.ntmps128, Exit.thenS, hta]
  apply wpS_seq
  apply wpS_region
  simp [wpOpsS, go_sem, Exit.thenS]
  refine wpS_cond (t := false) (by simp [Act.eval, Array.replicate]) ?_
  simp only [Bool.false_eq_true, if_false]
  refine wpS_of_wp (wp_skip ?_)
  cases c₀
  simp_all [bodyPostS, results, Tryz.results128]
theorem catch_thrown (p q : Addr) (B : Nat) (x y : Value) (w : World) (hp : w.cell? p = some x) (hpz : w.frozen? p = false) (hq : w.cell? q = some y) (hqz : w.frozen? q = false) (hne : p ≠ q) :
    CallsD Tryz.prog 128 #[.pointer (some p), .pointer (some q)] (.panicking [{ v := .iface 113 (.pointer (some ⟨B, 0, none⟩)), recovered := false }]) w fun e u' w' =>
      e = .returned (.tuple #[]) ∧ u' = .panicking [{ v := .iface 113 (.pointer (some ⟨B, 0, none⟩)), recovered := true }] ∧ w' = (w.setCell p (.slice none 0 0)).setCell q (.iface 113 (.pointer (some ⟨B, 0, none⟩))) := by
  have hta : ∀ w : World, (Instr.typeAssert (.iface 113 (.pointer (some ⟨B, 0, none⟩))) 20 113 true).run Tryz.prog w = .ok (.tuple #[.pointer (some ⟨B, 0, none⟩), .bool true]) w := fun _ => by kernel_rfl
  refine callsD_of_wpS Tryz.func128 rfl fun c₀ cs hu => ?_
  apply wpS_seq
  apply wpS_region
  simp [wpOpsS, go_sem, recoverD, hu, Tryz.ntmps128, Exit.thenS, hta]
  apply wpS_seq
  apply wpS_region
  simp [wpOpsS, go_sem, Exit.thenS]
  refine wpS_cond (t := true) (by simp [Act.eval, Array.replicate]) ?_
  simp only [if_true]
  apply wpS_region
  have hq2 : (w.setCell p (.slice none 0 0)).cell? q = some y := by rw [World.cell?_setCell_other w p q _ hne]; exact hq
  simp [wpOpsS, go_sem, hp, hpz, hq2, hqz, bodyPostS, results, Tryz.results128, Array.replicate]
/-- The tokens of a text, or what is told. -/
def LxAns (s : ByteArray) (w : World) (e : Ending) (w' : World) : Prop :=
  Bl w w' ∧ (((lx (L s) 0).2 = none ∧ ∃ v, e = .returned (.tuple #[v, .nilIface]) ∧ tr.Own w' w.heap.size v (lx (L s) 0).1) ∨
    ∃ p B : Nat, (lx (L s) 0).2 = some p ∧ e = .returned (.tuple #[.slice none 0 0, .iface 113 (.pointer (some ⟨B, 0, none⟩))]) ∧ w.heap.size ≤ B ∧ w'.heap[B]? = some (.cells #[.int .i64 3, .int .i64 (p : Int)] 116 (0, 0)))
theorem Mks.step {w w' : World} (h : Mks w) (hb : Bl w w') : Mks w' := fun j t ht => at_bl hb (h j t ht)
/-- How far cutting has come. -/
structure Ct (s : ByteArray) (w wr : World) (N : Nat) (v : Value) (l : List Tk) (k : Nat) : Prop where
  v1 : Vr wr N v 89
  v2 : Vr wr (N + 1) .nilIface 34
  own : tr.Own wr (N + 2) v l
  bl : Bl w wr
  n : N = w.heap.size
  is : lx (L s) 0 = (l ++ (lx ((L s).drop k) k).1, (lx ((L s).drop k) k).2)
theorem Ct.step {s : ByteArray} {w wr w' : World} {N k b : Nat} {v : Value} {l : List Tk} (h : Ct s w wr N v l k) (hb : Bl wr w') (hk : lx ((L s).drop b) b = lx ((L s).drop k) k) : Ct s w w' N v l b :=
  ⟨h.v1.step hb, h.v2.step hb, h.own.step hb, h.bl.trans hb, h.n, by rw [hk]; exact h.is⟩
theorem Ct.len {s : ByteArray} {w wr : World} {N k : Nat} {v : Value} {l : List Tk} (h : Ct s w wr N v l k) (hs : s.size ≤ 3000) : l.length ≤ 3000 := by
  have h1 := lx_len (L s) _ 0 (Nat.le_refl _)
  rw [h.is, L_len] at h1
  simp only [List.length_append] at h1
  omega
set_option maxRecDepth 10000 in
set_option maxHeartbeats 1000000 in
theorem cut_at (s : ByteArray) (w : World) (hs : s.size ≤ 3000) (hm : Mks w) :
    Calls Tryz.prog 95 #[.string s] w fun e w' => LxAns s w e w' := by
  have hmf : ∀ (fn : Fn) (first cap : Array Value) (w : World), (Instr.makeFunc fn first cap).run Tryz.prog w = .ok (.func fn first cap) w := fun _ _ _ _ => rfl
  have cB := fun I w => begin_at s I w (by omega)
  have cE := fun I w => end_at s I w (by omega)
  have HM : Hid (Mks w) := hm
  clear hm
  go_enter_defers Tryz.func95, Tryz.ntmps95
  go_wp2_with fail
  obtain ⟨w2, hw2⟩ : ∃ w2, w2 = (w.alloc (.cells #[.slice none 0 0] 89)).alloc (.cells #[.nilIface] 34) := ⟨_, rfl⟩
  obtain ⟨N, hN⟩ : ∃ N, N = w.heap.size := ⟨_, rfl⟩
  have HC0 : Hid (Ct s w w2 N (.slice none 0 0) [] 0) := by
    refine ⟨?_, ?_, tr.Own.nil _ _, ?_, hN, by rw [List.drop_zero]; rfl⟩
    · rw [hw2, hN]; exact (Vr.new w _ _).step ((Bl.refl _).alloc _)
    · rw [hw2, hN]
      have := Vr.new (w.alloc (.cells #[.slice none 0 0] 89)) .nilIface 34
      simpa using this
    · rw [hw2]; exact ((Bl.refl _).alloc _).alloc _
  rw [← hw2, ← hN]
  clear hw2 hN
  refine (cB 0 w2 (Nat.zero_le _)).mono ?_
  rintro e w3 ⟨b0, rfl, hb0, hd⟩
  have HC1 : Hid (Ct s w w3 N (.slice none 0 0) [] b0 ∧ (b0 = s.size ∨ b0 < s.size ∧ gap ((L s).drop b0) = 0)) := ⟨HC0.out.step hd.bl hb0.2.2.1, by have := hb0.2.2.2; rw [L_len] at this; exact this⟩
  clear hb0 hd HC0
  go_wp2
  go_loopw [4, 5] (fun i _ wr => ∃ (k : Nat) (v : Value) (l : List Tk), i = .int .i64 (k : Int) ∧ Hid (Ct s w wr N v l k ∧ (k = s.size ∨ k < s.size ∧ gap ((L s).drop k) = 0))) (fun i _ _ => s.size - (intOf i).toNat)
  case atStart => exact ⟨b0, _, _, rfl, HC1.out⟩
  case round =>
    clear HC1
    obtain ⟨k, v, l, rfl, H⟩ := hrel
    obtain ⟨vp, vc, hv, _, _⟩ := H.out.1.own.view
    subst hv
    obtain ⟨n, hn⟩ : ∃ n, n = l.length := ⟨_, rfl⟩
    rw [← hn] at H
    have HN : Hid (n = l.length) := hn
    clear hn
    have c1 := H.out.1.v1.cell
    have c2 := H.out.1.v2.cell
    have f1 := H.out.1.v1.frozen
    have f2 := H.out.1.v2.frozen
    rcases H.out.2 with hk | ⟨hk, hg⟩
    · have d1 : decide ((k : Int) < (s.size : Int)) = false := decide_eq_false (by omega)
      go_wp2
      obtain ⟨w9, hw9⟩ : ∃ w9, w9 = (wr.setCell ⟨N, 0, none⟩ (.slice vp n vc)).setCell ⟨N + 1, 0, none⟩ .nilIface := ⟨_, rfl⟩
      have v1 : Vr w9 N (.slice vp n vc) 89 := by rw [hw9]; exact (H.out.1.v1.set _).set_other (by omega) _
      have v2 : Vr w9 (N + 1) .nilIface 34 := by rw [hw9]; exact (H.out.1.v2.set_other (by omega) _).set _
      have HO : Hid (tr.Own w9 w.heap.size (.slice vp n vc) l ∧ Bl w w9 ∧ lx (L s) 0 = (l, none)) := by
        have hN := H.out.1.n
        refine ⟨?_, ?_, ?_⟩
        · refine tr.Own.low (base := N + 2) ?_ (by omega)
          have hne : ∀ x, (Value.slice vp n vc).ownBlock = some x → N + 2 ≤ x := fun x hx => (H.out.1.own.block x hx).1
          rw [hw9]
          refine (H.out.1.own.kept (grown_set _ _ _ _) ?_).kept (grown_set _ _ _ _) ?_
          · intro x hx e; injection e with e; have := hne x hx; omega
          · intro x hx e; injection e with e; have := hne x hx; omega
        · rw [hw9]
          exact (H.out.1.bl.setCell (by show w.heap.size ≤ N; omega) _).setCell (by show w.heap.size ≤ N + 1; omega) _
        · rw [H.out.1.is, lx_end _ _ (by rw [L_len]; omega)]
          simp
      rw [← hw9]
      have c1' := v1.cell
      have c2' := v2.cell
      clear hw9 v1 v2
      refine leaves_cons (f := 128) (args := #[.pointer (some ⟨N, 0, none⟩), .pointer (some ⟨N + 1, 0, none⟩)]) (by simp) (by simp [go_sem]) ?_
      refine (catch_idle _ _ _).mono ?_
      rintro e u' w'' ⟨rfl, rfl, rfl⟩
      simp [Leaves, settle, results, Tryz.results95, go_sem, c1', c2']
      refine ⟨HO.out.2.1, Or.inl ⟨by rw [HO.out.2.2], _, rfl, ?_⟩⟩
      rw [HO.out.2.2]
      exact HO.out.1
    · have d1 : decide ((k : Int) < (s.size : Int)) = true := decide_eq_true (by omega)
      go_wp2_with fail
      refine (cE k wr hk (HM.out.step H.out.1.bl)).mono ?_
      rintro e w4 (⟨ht, rfl, rfl⟩ | ⟨ht, B, rfl, hthr⟩)
      · skip
        obtain ⟨K, hK⟩ : ∃ K, K = tl ((L s).drop k) := ⟨_, rfl⟩
        have hkn := lx_mark (L s) k K (by rw [L_len]; exact hk) hg hK.symm (by omega)
        rw [L_len] at hkn
        have HX : Hid _ := hkn.2
        have hkK := hkn.1
        have h0K : 0 < K := by omega
        rw [← hK]
        obtain ⟨M, hM⟩ : ∃ M, M = k + K := ⟨_, rfl⟩
        rw [← hM] at HX hkK ⊢
        have hkM : k < M := by omega
        have hkM' : k ≤ M := by omega
        clear hkn hK ht hg hM h0K
        obtain ⟨Z, hZ⟩ : ∃ Z, Z = s.extract k M := ⟨_, rfl⟩
        have hZ' : s.extract k M = Z := hZ.symm
        have HZ : Hid (Z = tx (((L s).take M).drop k)) := by rw [hZ, ← L_ext, tx_L]; rfl
        clear hZ
        obtain ⟨W6, hW6⟩ : ∃ W, W = (w4.alloc (.cells #[.string Z, .int .i64 (k : Int)] 145)).drew := ⟨_, rfl⟩
        have hb6 : Bl w4 W6 := by rw [hW6]; exact ((Bl.refl _).alloc _).drew
        have H6 := H.out.1.step hb6 rfl
        have hx6 : W6.heap[w4.heap.size]? = some (.cells #[.string Z, .int .i64 (k : Int)] 145 (0, 0)) := by rw [hW6]; exact new_at w4 _
        obtain ⟨v', w7, hr, ho, hg'⟩ := tr.app_one W6 (N + 2) (.slice vp n vc) l ⟨((L s).take M).drop k, k⟩ w4.heap.size H6.own (by rw [cell_of hx6, HZ.out]; rfl) (by rw [cell_of hx6]; rfl) (by have := H6.len hs; omega) (by have := H6.v2.lt; omega)
        have hne : ∀ x, (Value.slice vp n vc).ownBlock = some x → N + 2 ≤ x := fun x hx => (H6.own.block x hx).1
        have hv1 : Vr w7 N (.slice vp n vc) 89 := H6.v1.grown hg' (fun e => by have := hne _ e; omega)
        have hv2 : Vr w7 (N + 1) .nilIface 34 := H6.v2.grown hg' (fun e => by have := hne _ e; omega)
        have hne' : ∀ x, v'.ownBlock = some x → N + 2 ≤ x := fun x hx => (ho.block x hx).1
        obtain ⟨vp', vc', hv', _, _⟩ := ho.view
        obtain ⟨n', hn'⟩ : ∃ n', n' = (l ++ [(⟨((L s).take M).drop k, k⟩ : Tk)]).length := ⟨_, rfl⟩
        rw [← hn'] at hv'
        subst hv'
        have HT : Hid (Ct s w (w7.setCell ⟨N, 0, none⟩ (.slice vp' n' vc')) N (.slice vp' n' vc') (l ++ [⟨((L s).take M).drop k, k⟩]) M) := by
          have hN := H6.n
          refine ⟨hv1.set _, hv2.set_other (by omega) _, ?_, ?_, hN, ?_⟩
          · exact ho.kept (grown_set _ _ _ _) (fun x hx e => by injection e with e; have := hne' x hx; omega)
          · exact (bl_grown H6.bl hg' (fun x hx => by have := hne x hx; omega)).setCell (by show w.heap.size ≤ N; omega) _
          · rw [H6.is, HX.out]; simp
        have g1 := hv1.cell
        have g2 := hv1.frozen
        have g0 := (H.out.1.v1.step ((Bl.refl w4).alloc (.cells #[.string Z, .int .i64 (k : Int)] 145))).cell
        have HR : Hid _ := hr
        rw [hW6] at HR
        clear hr hv1 hv2 ho hg' hn' H6 hx6 hb6 hW6 hne hne' HX HZ
        go_wp2
        refine wp_calm ?_
        go_region_law (refine step_append_run rfl (.tmp 16) (.tmp 23) 89 89 rfl _ _ rfl rfl _ _ HR.out ?_)
        all_goals
          refine Calm.in ?_
          clear HR g0 g1 g2 c1 c2 f1 f2
          generalize w7.setCell ⟨N, 0, none⟩ (.slice vp' n' vc') = w8 at HT ⊢
          go_simp
          go_wp2_with fail
          refine (cB M w8 hkK).mono ?_
          rintro e w9 ⟨b, rfl, hb, hd⟩
          have HT' : Hid (Ct s w w9 N (.slice vp' n' vc') (l ++ [⟨((L s).take M).drop k, k⟩]) b ∧ (b = s.size ∨ b < s.size ∧ gap ((L s).drop b) = 0)) := ⟨HT.out.step hd.bl hb.2.2.1, by have := hb.2.2.2; rw [L_len] at this; exact this⟩
          have hMb := hb.1
          clear hb hd
          go_wp2
          go_roundw
          case rel => exact ⟨b, _, _, rfl, HT'.out⟩
          case measure => simp [intOf]; omega
      · have HF : Hid _ := hthr
        clear hthr
        unfold thrown
        go_wp2
        have H4 := H.out.1.step HF.out.2.2 rfl
        have hN := H4.n
        obtain ⟨w9, hw9⟩ : ∃ w9, w9 = (w4.setCell ⟨N, 0, none⟩ (.slice none 0 0)).setCell ⟨N + 1, 0, none⟩ (.iface 113 (.pointer (some ⟨B, 0, none⟩))) := ⟨_, rfl⟩
        have v1 : Vr w9 N (.slice none 0 0) 89 := by rw [hw9]; exact (H4.v1.set _).set_other (by omega) _
        have v2 : Vr w9 (N + 1) (.iface 113 (.pointer (some ⟨B, 0, none⟩))) 34 := by rw [hw9]; exact (H4.v2.set_other (by omega) _).set _
        have HB : N + 1 < B := by have := H.out.1.v2.lt; have := HF.out.1; omega
        have HO : Hid (Bl w w9 ∧ (lx (L s) 0).2 = some k ∧ w.heap.size ≤ B ∧ w9.heap[B]? = some (.cells #[.int .i64 3, .int .i64 (k : Int)] 116 (0, 0))) := by
          refine ⟨?_, ?_, by omega, ?_⟩
          · rw [hw9]
            exact (H4.bl.setCell (by show w.heap.size ≤ N; omega) _).setCell (by show w.heap.size ≤ N + 1; omega) _
          · rw [H4.is, lx_bad _ _ (fun e => by have := congrArg List.length e; rw [List.length_drop, L_len] at this; simp at this; omega) hg ht]
          · rw [hw9, (grown_set _ _ _ _).block B ?_ ?_, (grown_set _ _ _ _).block B ?_ ?_]
            · exact HF.out.2.1
            · exact lt_of_heap HF.out.2.1
            · intro e; injection e with e; omega
            · have := lt_of_heap HF.out.2.1; simpa [World.setCell] using this
            · intro e; injection e with e; omega
        have c1' := v1.cell
        have c2' := v2.cell
        refine leaves_cons (f := 128) (args := #[.pointer (some ⟨N, 0, none⟩), .pointer (some ⟨N + 1, 0, none⟩)]) (by simp) (by simp [go_sem]) ?_
        refine (catch_thrown ⟨N, 0, none⟩ ⟨N + 1, 0, none⟩ B _ _ w4 H4.v1.cell H4.v1.frozen H4.v2.cell H4.v2.frozen (by simp)).mono ?_
        rintro e u' w'' ⟨rfl, rfl, rfl⟩
        rw [← hw9]
        clear hw9 v1 v2
        simp [Leaves, settle, results, Tryz.results95, go_sem, c1', c2']
        exact ⟨HO.out.1, Or.inr ⟨k, B, HO.out.2.1, rfl, HO.out.2.2.1, HO.out.2.2.2⟩⟩
end Go.Proofs.YtococaecjecjgaaGreatDoor.lx
/- Lex and Name of package lex. -/
namespace Go.Proofs.YtococaecjecjgaaGreatDoor.lx
set_option linter.unusedVariables false
open Go.ChangeShapes Go.WideShapes Go.ChangeAt Go.RowKit
open mem

theorem Lex_at (s : ByteArray) (w : World) (hs : s.size ≤ 3000) (hm : Mks w) :
    Calls Tryz.prog 57 #[.string s] w fun e w' => LxAns s w e w' := by
  have hn : ¬ 3000 < (s.size : Int) := by omega
  have c := cut_at s w hs hm
  go_enter Tryz.func57, Tryz.ntmps57
  go_wp2_with fail
  refine c.mono ?_
  rintro e w' ⟨hb, ⟨h1, v, rfl, h2⟩ | ⟨p, B, h1, rfl, h2⟩⟩
  · go_wp2
    go_ret2
    exact ⟨hb, Or.inl ⟨h1, v, rfl, h2⟩⟩
  · go_wp2
    go_ret2
    exact ⟨hb, Or.inr ⟨p, B, h1, rfl, h2⟩⟩
/-- Does a text begin with a letter? -/
def nmb (l : List UInt8) : Bool := match l.head? with | some c => isL c | none => false
theorem Name_at (s : ByteArray) (w : World) : Calls Tryz.prog 132 #[.string s] w fun e w' => e = .returned (.bool (nmb (L s))) ∧ w' = w := by
  by_cases h0 : 0 < s.size
  · have e1 : (((s[0]'h0).toNat : Nat) : Int) = sb s 0 := (sb_get s 0 h0).symm
    have c1 := letter_at (sb s 0)
    have hnm : lt (sb s 0) = nmb (L s) := by
      unfold nmb
      have := L_get s 0 h0
      rw [List.head?_eq_getElem?, this, sb_get s 0 h0]
      rfl
    rw [hnm] at c1
    have hne : (s.toList == []) = false := by
      rw [beq_eq_false_iff_ne, ByteArray.toList_eq]
      intro e
      have := congrArg List.length e
      simp at this
      have h3 : s.size = 0 := by simpa using this
      omega
    go_enter Tryz.func132, Tryz.ntmps132
    go_wp2_with fail
    refine (c1 _).mono ?_
    rintro e w' ⟨rfl, rfl⟩
    go_wp2
    go_ret
    exact ⟨rfl, rfl⟩
  · obtain rfl : s = ⟨#[]⟩ := by
      have h : s.size = 0 := by omega
      exact L_inj (List.eq_nil_of_length_eq_zero (by rw [L_len]; exact h))
    go_enter Tryz.func132, Tryz.ntmps132
    go_wp2
    go_ret
    exact ⟨rfl, rfl⟩
end Go.Proofs.YtococaecjecjgaaGreatDoor.lx
/- Expressions: how tokens are read, in two ways (pure). -/
namespace Go.Proofs.YtococaecjecjgaaGreatDoor.ex
set_option linter.unusedVariables false
open lx

/-- An expression. -/
inductive Ex where
  | num (a : Nat) (n : Int)
  | nam (a : Nat) (t : List UInt8)
  | bin (a : Nat) (o : List UInt8) (l r : Ex)
deriving Inhabited
/-- How much an op binds. -/
def bd (t : List UInt8) : Nat :=
  if t = [61, 61] ∨ t = [33, 61] ∨ t = [60] ∨ t = [62] then 1 else if t = [43] ∨ t = [45] ∨ t = [124] then 2 else if t = [42] ∨ t = [38] then 3 else 0
theorem bd_le (t : List UInt8) : bd t ≤ 3 := by unfold bd; split <;> (try split) <;> (try split) <;> omega
def isN (t : List UInt8) : Bool := match t.head? with | some c => isL c | none => false
def isU (t : List UInt8) : Bool := match t.head? with | some c => isD c | none => false
/-- The token that comes now. -/
def hd (en : Nat) : List Tk → Tk
  | [] => ⟨[], en⟩
  | t :: _ => t
def hb (ts : List Tk) : Nat := match ts with | [] => 0 | t :: _ => bd t.t
abbrev Res := Except (Int × Nat) (Ex × List Tk)
section
variable (nb : List UInt8 → Int × Int) (en : Nat)
mutual
def row : Nat → Nat → Nat → List Tk → Option Res
  | 0, _, _, _ => none
  | f + 1, m, d, ts =>
    if 3 < m then one f d ts
    else match row f (m + 1) d ts with
      | none => none
      | some (.error e) => some (.error e)
      | some (.ok (x, r)) => lp f m d x r
def lp : Nat → Nat → Nat → Ex → List Tk → Option Res
  | 0, _, _, _, _ => none
  | _ + 1, _, _, x, [] => some (.ok (x, []))
  | f + 1, m, d, x, t :: r =>
    if bd t.t = m then
      match row f (m + 1) d r with
      | none => none
      | some (.error e) => some (.error e)
      | some (.ok (y, r')) => lp f m d (.bin t.a t.t x y) r'
    else some (.ok (x, t :: r))
def one : Nat → Nat → List Tk → Option Res
  | 0, _, _ => none
  | _ + 1, _, [] => some (.error (3, en))
  | f + 1, d, t :: r =>
    if isN t.t then (if 12 < t.t.length then some (.error (4, t.a)) else some (.ok (.nam t.a t.t, r)))
    else if isU t.t then (if (nb t.t).2 = 0 then some (.ok (.num t.a (nb t.t).1, r)) else some (.error ((nb t.t).2, t.a)))
    else if t.t = [40] then
      (if d = 8 then some (.error (4, t.a))
      else match row f 1 (d + 1) r with
        | none => none
        | some (.error e) => some (.error e)
        | some (.ok (x, r')) => if (hd en r').t = [41] then some (.ok (x, r'.tail)) else some (.error (3, (hd en r').a)))
    else some (.error (3, t.a))
end
mutual
def ce : Nat → Nat → Nat → List Tk → Option Res
  | 0, _, _, _ => none
  | f + 1, m, d, ts =>
    match sg f d ts with
      | none => none
      | some (.error e) => some (.error e)
      | some (.ok (x, r)) => cl f m d x r
def cl : Nat → Nat → Nat → Ex → List Tk → Option Res
  | 0, _, _, _, _ => none
  | _ + 1, _, _, x, [] => some (.ok (x, []))
  | f + 1, m, d, x, t :: r =>
    if m ≤ bd t.t ∧ 0 < bd t.t then
      match ce f (bd t.t + 1) d r with
      | none => none
      | some (.error e) => some (.error e)
      | some (.ok (y, r')) => cl f m d (.bin t.a t.t x y) r'
    else some (.ok (x, t :: r))
def sg : Nat → Nat → List Tk → Option Res
  | 0, _, _ => none
  | _ + 1, _, [] => some (.error (3, en))
  | f + 1, d, t :: r =>
    if isN t.t then (if 12 < t.t.length then some (.error (4, t.a)) else some (.ok (.nam t.a t.t, r)))
    else if isU t.t then (if (nb t.t).2 = 0 then some (.ok (.num t.a (nb t.t).1, r)) else some (.error ((nb t.t).2, t.a)))
    else if t.t = [40] then
      (if d = 8 then some (.error (4, t.a))
      else match ce f 1 (d + 1) r with
        | none => none
        | some (.error e) => some (.error e)
        | some (.ok (x, r')) => if (hd en r').t = [41] then some (.ok (x, r'.tail)) else some (.error (3, (hd en r').a)))
    else some (.error (3, t.a))
end
variable {nb en}
theorem row_top (f m d : Nat) (ts : List Tk) (h : 3 < m) : row nb en (f + 1) m d ts = one nb en f d ts := by rw [row, if_pos h]
theorem row_low (f m d : Nat) (ts : List Tk) (h : ¬ 3 < m) : row nb en (f + 1) m d ts = match row nb en f (m + 1) d ts with
      | none => none
      | some (.error e) => some (.error e)
      | some (.ok (x, r)) => lp nb en f m d x r := by rw [row, if_neg h]
/-- What is read is gone. -/
theorem len_all (f : Nat) : (∀ m d ts x r, row nb en f m d ts = some (.ok (x, r)) → r.length < ts.length) ∧ (∀ m d y ts x r, lp nb en f m d y ts = some (.ok (x, r)) → r.length ≤ ts.length) ∧ (∀ d ts x r, one nb en f d ts = some (.ok (x, r)) → r.length < ts.length) := by
  induction f with
  | zero => exact ⟨fun _ _ _ _ _ h => by simp [row] at h, fun _ _ _ _ _ _ h => by simp [lp] at h, fun _ _ _ _ h => by simp [one] at h⟩
  | succ f ih =>
    obtain ⟨i1, i2, i3⟩ := ih
    refine ⟨?_, ?_, ?_⟩
    · intro m d ts x r h
      by_cases hm : 3 < m
      · rw [row_top _ _ _ _ hm] at h
        exact i3 _ _ _ _ h
      · rw [row_low _ _ _ _ hm] at h
        split at h
        · cases h
        · cases h
        · rename_i y r' hr
          have := i1 _ _ _ _ _ hr
          have := i2 _ _ _ _ _ _ h
          omega
    · intro m d y ts x r h
      cases ts with
      | nil =>
        simp only [lp, Option.some.injEq, Except.ok.injEq, Prod.mk.injEq] at h
        rw [← h.2]
        exact Nat.le_refl _
      | cons t ts =>
        rw [lp] at h
        split at h
        · split at h
          · cases h
          · cases h
          · rename_i z r' hr
            have := i1 _ _ _ _ _ hr
            have := i2 _ _ _ _ _ _ h
            simp only [List.length_cons]
            omega
        · simp only [Option.some.injEq, Except.ok.injEq, Prod.mk.injEq] at h
          rw [← h.2]
          exact Nat.le_refl _
    · intro d ts x r h
      cases ts with
      | nil => simp [one] at h
      | cons t ts =>
        rw [one] at h
        split at h
        · split at h
          · simp at h
          · simp at h; rw [← h.2]; simp
        · split at h
          · split at h
            · simp at h; rw [← h.2]; simp
            · simp at h
          · split at h
            · split at h
              · simp at h
              · split at h
                · cases h
                · cases h
                · rename_i z r' hr
                  have := i1 _ _ _ _ _ hr
                  split at h
                  · simp at h; rw [← h.2, List.length_tail]; simp; omega
                  · simp at h
            · simp at h
/-- There is always an answer. -/
theorem some_all (f : Nat) : (∀ m d ts, m ≤ 4 → 10 * ts.length + (5 - m) < f → row nb en f m d ts ≠ none) ∧ (∀ m d y ts, m ≤ 3 → 10 * ts.length + 1 < f → lp nb en f m d y ts ≠ none) ∧ (∀ d ts, 10 * ts.length < f → one nb en f d ts ≠ none) := by
  induction f with
  | zero => exact ⟨fun _ _ _ _ h => by omega, fun _ _ _ _ _ h => by omega, fun _ _ h => by omega⟩
  | succ f ih =>
    obtain ⟨i1, i2, i3⟩ := ih
    obtain ⟨l1, l2, l3⟩ := len_all (nb := nb) (en := en) f
    refine ⟨?_, ?_, ?_⟩
    · intro m d ts hm4 hf
      by_cases hm : 3 < m
      · rw [row_top _ _ _ _ hm]
        exact i3 _ _ (by omega)
      · rw [row_low _ _ _ _ hm]
        split
        · rename_i hr
          exact absurd hr (i1 _ _ _ (by omega) (by omega))
        · simp
        · rename_i y r' hr
          have := l1 _ _ _ _ _ hr
          exact i2 _ _ _ _ (by omega) (by omega)
    · intro m d y ts hm hf
      cases ts with
      | nil => simp [lp]
      | cons t ts =>
        simp only [List.length_cons] at hf
        rw [lp]
        split
        · split
          · rename_i hr
            exact absurd hr (i1 _ _ _ (by omega) (by omega))
          · simp
          · rename_i z r' hr
            have := l1 _ _ _ _ _ hr
            exact i2 _ _ _ _ (by omega) (by omega)
        · simp
    · intro d ts hf
      cases ts with
      | nil => simp [one]
      | cons t ts =>
        simp only [List.length_cons] at hf
        rw [one]
        split
        · split <;> simp
        · split
          · split <;> simp
          · split
            · split
              · simp
              · split
                · rename_i hr
                  exact absurd hr (i1 _ _ _ (by omega) (by omega))
                · simp
                · split <;> simp
            · simp
theorem up_all (f : Nat) : (∀ m d ts q, ce nb en f m d ts = some q → ce nb en (f + 1) m d ts = some q) ∧ (∀ m d y ts q, cl nb en f m d y ts = some q → cl nb en (f + 1) m d y ts = some q) ∧ (∀ d ts q, sg nb en f d ts = some q → sg nb en (f + 1) d ts = some q) := by
  induction f with
  | zero => exact ⟨fun _ _ _ _ h => by simp [ce] at h, fun _ _ _ _ _ h => by simp [cl] at h, fun _ _ _ h => by simp [sg] at h⟩
  | succ f ih =>
    obtain ⟨i1, i2, i3⟩ := ih
    refine ⟨?_, ?_, ?_⟩
    · intro m d ts q h
      rw [ce] at h ⊢
      split at h
      · cases h
      · rename_i e hr
        rw [i3 _ _ _ hr]
        exact h
      · rename_i x r hr
        rw [i3 _ _ _ hr]
        exact i2 _ _ _ _ _ h
    · intro m d y ts q h
      cases ts with
      | nil => simpa [cl] using h
      | cons t ts =>
        rw [cl] at h ⊢
        split at h
        · rename_i hc
          rw [if_pos hc]
          split at h
          · cases h
          · rename_i e hr
            rw [i1 _ _ _ _ hr]
            exact h
          · rename_i x r hr
            rw [i1 _ _ _ _ hr]
            exact i2 _ _ _ _ _ h
        · rename_i hc
          rw [if_neg hc]
          exact h
    · intro d ts q h
      cases ts with
      | nil => simpa [sg] using h
      | cons t ts =>
        rw [sg] at h ⊢
        split at h
        · rename_i h1
          rw [if_pos h1]; exact h
        · rename_i h1
          rw [if_neg h1]
          split at h
          · rename_i h2
            rw [if_pos h2]; exact h
          · rename_i h2
            rw [if_neg h2]
            split at h
            · rename_i h3
              rw [if_pos h3]
              split at h
              · rename_i h4
                rw [if_pos h4]; exact h
              · rename_i h4
                rw [if_neg h4]
                split at h
                · cases h
                · rename_i e hr
                  rw [i1 _ _ _ _ hr]; exact h
                · rename_i x r hr
                  rw [i1 _ _ _ _ hr]; exact h
            · rename_i h3
              rw [if_neg h3]; exact h
theorem up_ce {f g m d : Nat} {ts : List Tk} {q : Res} (h : ce nb en f m d ts = some q) (hg : f ≤ g) : ce nb en g m d ts = some q := by
  induction g with
  | zero => obtain rfl : f = 0 := by omega
            exact h
  | succ g ih =>
    rcases Nat.lt_or_ge g f with h1 | h1
    · obtain rfl : f = g + 1 := by omega
      exact h
    · exact (up_all g).1 _ _ _ _ (ih h1)
theorem up_cl {f g m d : Nat} {y : Ex} {ts : List Tk} {q : Res} (h : cl nb en f m d y ts = some q) (hg : f ≤ g) : cl nb en g m d y ts = some q := by
  induction g with
  | zero => obtain rfl : f = 0 := by omega
            exact h
  | succ g ih =>
    rcases Nat.lt_or_ge g f with h1 | h1
    · obtain rfl : f = g + 1 := by omega
      exact h
    · exact (up_all g).2.1 _ _ _ _ _ (ih h1)
theorem up_sg {f g d : Nat} {ts : List Tk} {q : Res} (h : sg nb en f d ts = some q) (hg : f ≤ g) : sg nb en g d ts = some q := by
  induction g with
  | zero => obtain rfl : f = 0 := by omega
            exact h
  | succ g ih =>
    rcases Nat.lt_or_ge g f with h1 | h1
    · obtain rfl : f = g + 1 := by omega
      exact h
    · exact (up_all g).2.2 _ _ _ (ih h1)
/-- Where the loop ends, what comes next binds less. -/
theorem cl_stops (f : Nat) : ∀ m d y ts x r, cl nb en f m d y ts = some (.ok (x, r)) → hb r < m ∨ hb r = 0 := by
  induction f with
  | zero => intro m d y ts x r h; simp [cl] at h
  | succ f ih =>
    intro m d y ts x r h
    cases ts with
    | nil =>
      simp only [cl, Option.some.injEq, Except.ok.injEq, Prod.mk.injEq] at h
      rw [← h.2]
      exact Or.inr rfl
    | cons t ts =>
      rw [cl] at h
      split at h
      · split at h
        · cases h
        · cases h
        · exact ih _ _ _ _ _ _ h
      · rename_i hc
        simp only [Option.some.injEq, Except.ok.injEq, Prod.mk.injEq] at h
        rw [← h.2]
        show bd t.t < m ∨ bd t.t = 0
        omega
theorem ce_stops {f m d : Nat} {ts r : List Tk} {x : Ex} (h : ce nb en f m d ts = some (.ok (x, r))) : hb r < m ∨ hb r = 0 := by
  cases f with
  | zero => simp [ce] at h
  | succ f =>
    rw [ce] at h
    split at h
    · cases h
    · cases h
    · exact cl_stops _ _ _ _ _ _ _ h
/-- What ops that bind more join, and then what others do. -/
theorem cl_err (f : Nat) : ∀ m d y ts e, cl nb en f (m + 1) d y ts = some (.error e) → cl nb en f m d y ts = some (.error e) := by
  induction f with
  | zero => intro m d y ts e h; simp [cl] at h
  | succ f ih =>
    intro m d y ts e h
    cases ts with
    | nil => simp [cl] at h
    | cons t ts =>
      rw [cl] at h ⊢
      split at h
      · rename_i hc
        rw [if_pos (by omega)]
        split at h
        · cases h
        · exact h
        · exact ih _ _ _ _ _ h
      · simp at h
theorem cl_then (f : Nat) : ∀ m d y ts x r g q, cl nb en f (m + 1) d y ts = some (.ok (x, r)) → cl nb en g m d x r = some q → cl nb en (f + g) m d y ts = some q := by
  induction f with
  | zero => intro m d y ts x r g q h; simp [cl] at h
  | succ f ih =>
    intro m d y ts x r g q h hg
    cases ts with
    | nil =>
      simp only [cl, Option.some.injEq, Except.ok.injEq, Prod.mk.injEq] at h
      obtain ⟨rfl, rfl⟩ := h
      exact up_cl hg (by omega)
    | cons t ts =>
      rw [cl] at h
      split at h
      · rename_i hc
        split at h
        · cases h
        · cases h
        · rename_i z r' hr
          have h1 := ih _ _ _ _ _ _ _ _ h hg
          have h2 := up_ce hr (show f ≤ f + g by omega)
          rw [show f + 1 + g = f + g + 1 by omega, cl, if_pos (by omega), h2]
          exact h1
      · simp only [Option.some.injEq, Except.ok.injEq, Prod.mk.injEq] at h
        obtain ⟨rfl, rfl⟩ := h
        exact up_cl hg (by omega)
/-- Both ways are one. -/
theorem both_ways (f : Nat) : (∀ m d ts q, 1 ≤ m → m ≤ 4 → row nb en f m d ts = some q → ∃ g, ce nb en g m d ts = some q) ∧ (∀ m d y ts q, 1 ≤ m → m ≤ 3 → (hb ts ≤ m) → lp nb en f m d y ts = some q → ∃ g, cl nb en g m d y ts = some q) ∧ (∀ d ts q, one nb en f d ts = some q → ∃ g, sg nb en g d ts = some q) := by
  induction f with
  | zero => exact ⟨fun _ _ _ _ _ _ h => by simp [row] at h, fun _ _ _ _ _ _ _ _ h => by simp [lp] at h, fun _ _ _ h => by simp [one] at h⟩
  | succ f ih =>
    obtain ⟨i1, i2, i3⟩ := ih
    refine ⟨?_, ?_, ?_⟩
    · intro m d ts q h1 h4 h
      by_cases hm : 3 < m
      · obtain rfl : m = 4 := by omega
        rw [row_top _ _ _ _ hm] at h
        obtain ⟨g, hg⟩ := i3 _ _ _ h
        refine ⟨g + 2, ?_⟩
        rw [ce, up_sg hg (Nat.le_succ g)]
        cases q with
        | error e => rfl
        | ok p =>
          obtain ⟨x, r⟩ := p
          show cl nb en (g + 1) 4 d x r = _
          cases r with
          | nil => rw [cl]
          | cons t r => rw [cl, if_neg (by have := bd_le t.t; omega)]
      · rw [row_low _ _ _ _ hm] at h
        split at h
        · cases h
        · rename_i e hr
          obtain ⟨g, hg⟩ := i1 _ _ _ _ (by omega) (by omega) hr
          refine ⟨g, ?_⟩
          cases g with
          | zero => simp [ce] at hg
          | succ g =>
            rw [ce] at hg ⊢
            split at hg
            · cases hg
            · rw [hg]; exact h
            · rw [cl_err _ _ _ _ _ _ hg]; exact h
        · rename_i x r hr
          obtain ⟨g, hg⟩ := i1 _ _ _ _ (by omega) (by omega) hr
          have hs := ce_stops hg
          obtain ⟨k, hk⟩ := i2 _ _ _ _ _ h1 (by omega) (by omega) h
          cases g with
          | zero => simp [ce] at hg
          | succ g =>
            rw [ce] at hg
            split at hg
            · cases hg
            · cases hg
            · rename_i y r' hsg
              refine ⟨g + k + 1, ?_⟩
              rw [ce, up_sg hsg (show g ≤ g + k by omega)]
              exact cl_then _ _ _ _ _ _ _ _ _ hg hk
    · intro m d y ts q h1 h3 hh h
      cases ts with
      | nil => exact ⟨1, by simpa [cl, lp] using h⟩
      | cons t ts =>
        rw [lp] at h
        split at h
        · rename_i hb'
          split at h
          · cases h
          · rename_i e hr
            obtain ⟨g, hg⟩ := i1 _ _ _ _ (by omega) (by omega) hr
            refine ⟨g + 1, ?_⟩
            rw [cl, if_pos (by omega), hb', hg]
            exact h
          · rename_i z r hr
            obtain ⟨g, hg⟩ := i1 _ _ _ _ (by omega) (by omega) hr
            have hs := ce_stops hg
            obtain ⟨k, hk⟩ := i2 _ _ _ _ _ h1 h3 (by omega) h
            refine ⟨g + k + 1, ?_⟩
            rw [cl, if_pos (by omega), hb', up_ce hg (show g ≤ g + k by omega)]
            exact up_cl hk (by omega)
        · rename_i hb'
          refine ⟨1, ?_⟩
          have : bd t.t ≤ m := hh
          rw [cl, if_neg (by omega)]
          exact h
    · intro d ts q h
      cases ts with
      | nil => exact ⟨1, by simpa [one, sg] using h⟩
      | cons t ts =>
        rw [one] at h
        by_cases c1 : isN t.t = true
        · exact ⟨1, by rw [sg, if_pos c1]; rw [if_pos c1] at h; exact h⟩
        · rw [if_neg c1] at h
          by_cases c2 : isU t.t = true
          · exact ⟨1, by rw [sg, if_neg c1, if_pos c2]; rw [if_pos c2] at h; exact h⟩
          · rw [if_neg c2] at h
            by_cases c3 : t.t = [40]
            · rw [if_pos c3] at h
              by_cases c4 : d = 8
              · exact ⟨1, by rw [sg, if_neg c1, if_neg c2, if_pos c3, if_pos c4]; rw [if_pos c4] at h; exact h⟩
              · rw [if_neg c4] at h
                split at h
                · cases h
                · rename_i e hr
                  obtain ⟨g, hg⟩ := i1 _ _ _ _ (by omega) (by omega) hr
                  refine ⟨g + 1, ?_⟩
                  rw [sg, if_neg c1, if_neg c2, if_pos c3, if_neg c4, hg]
                  exact h
                · rename_i x r hr
                  obtain ⟨g, hg⟩ := i1 _ _ _ _ (by omega) (by omega) hr
                  refine ⟨g + 1, ?_⟩
                  rw [sg, if_neg c1, if_neg c2, if_pos c3, if_neg c4, hg]
                  exact h
            · exact ⟨1, by rw [sg, if_neg c1, if_neg c2, if_neg c3]; rw [if_neg c3] at h; exact h⟩
end
end Go.Proofs.YtococaecjecjgaaGreatDoor.ex
/- Expressions as they lie; a reader of tokens: next, take, at; binds, number. -/
namespace Go.Proofs.YtococaecjecjgaaGreatDoor.ex
set_option linter.unusedVariables false
open Go.ChangeShapes Go.WideShapes Go.ChangeAt Go.RowKit
open mem lx

/-- The cells of a part of an expression. -/
def cellsX (code a n : Int) (nm op : List UInt8) (l r : Value) : Obj := .cells #[.int .i64 code, .int .i64 a, .int .i64 n, .string (tx nm), .string (tx op), l, r] 152 (0, 0)
/-- An expression, as it lies. -/
def IsX (w : World) : Value → Ex → Prop
  | v, .num a n => ∃ b, v = .pointer (some ⟨b, 0, none⟩) ∧ w.heap[b]? = some (cellsX 1 a n [] [] (.pointer none) (.pointer none))
  | v, .nam a t => ∃ b, v = .pointer (some ⟨b, 0, none⟩) ∧ w.heap[b]? = some (cellsX 2 a 0 t [] (.pointer none) (.pointer none))
  | v, .bin a o l r => ∃ b vl vr, v = .pointer (some ⟨b, 0, none⟩) ∧ w.heap[b]? = some (cellsX 3 a 0 [] o vl vr) ∧ IsX w vl l ∧ IsX w vr r
/-- Parts of expressions stay as they are. -/
def Kx (w w' : World) : Prop := ∀ (b : Nat) (cs : Array Value), w.heap[b]? = some (.cells cs 152 (0, 0)) → w'.heap[b]? = some (.cells cs 152 (0, 0))
theorem Kx.bl {w w' : World} (h : Bl w w') : Kx w w' := fun b cs hb => by rw [Below.block h b (lt_of_heap hb)]; exact hb
theorem Kx.trans {a b c : World} (h : Kx a b) (k : Kx b c) : Kx a c := fun x cs hx => k x cs (h x cs hx)
theorem IsX.keep {w w' : World} (h : Kx w w') {v : Value} {x : Ex} (hx : IsX w v x) : IsX w' v x := by
  induction x generalizing v with
  | num a n =>
    obtain ⟨b, h1, h2⟩ := hx
    exact ⟨b, h1, h _ _ h2⟩
  | nam a t =>
    obtain ⟨b, h1, h2⟩ := hx
    exact ⟨b, h1, h _ _ h2⟩
  | bin a o l r il ir =>
    obtain ⟨b, vl, vr, h1, h2, h3, h4⟩ := hx
    exact ⟨b, vl, vr, h1, h _ _ h2, il h3, ir h4⟩
theorem IsX.ptr {w : World} {v : Value} {x : Ex} (hx : IsX w v x) : ∃ b, v = .pointer (some ⟨b, 0, none⟩) ∧ b < w.heap.size := by
  cases x with
  | num a n => obtain ⟨b, h1, h2⟩ := hx; exact ⟨b, h1, lt_of_heap h2⟩
  | nam a t => obtain ⟨b, h1, h2⟩ := hx; exact ⟨b, h1, lt_of_heap h2⟩
  | bin a o l r => obtain ⟨b, vl, vr, h1, h2, _⟩ := hx; exact ⟨b, h1, lt_of_heap h2⟩
/-- What was there is as it was, but for one block. -/
structure Gp (P : Nat) (w w' : World) : Prop where
  os : w'.os = w.os
  tape : w'.tape = w.tape
  output : w'.output = w.output
  size : w.heap.size ≤ w'.heap.size
  block : ∀ k, k < w.heap.size → k ≠ P → w'.heap[k]? = w.heap[k]?
theorem Gp.bl {P : Nat} {w w' : World} (h : Bl w w') : Gp P w w' := ⟨h.os, h.tape, h.output, h.size, fun k hk _ => Below.block h k hk⟩
theorem Gp.refl (P : Nat) (w : World) : Gp P w w := Gp.bl (Bl.refl _)
theorem Gp.trans {P : Nat} {a b c : World} (h : Gp P a b) (k : Gp P b c) : Gp P a c :=
  ⟨k.os.trans h.os, k.tape.trans h.tape, k.output.trans h.output, Nat.le_trans h.size k.size, fun x hx hne => (k.block x (Nat.lt_of_lt_of_le hx h.size) hne).trans (h.block x hx hne)⟩
theorem Gp.set {P j : Nat} {w : World} (v : Value) : Gp P w (w.setCell ⟨P, j, none⟩ v) :=
  let g := grown_set w P j v
  ⟨g.os, g.tape, g.output, g.size, fun k hk hne => g.block k hk (fun e => hne (by injection e))⟩
theorem Gp.setNew {P N j : Nat} {w w' : World} (h : Gp P w w') (hN : w.heap.size ≤ N) (v : Value) : Gp P w (w'.setCell ⟨N, j, none⟩ v) :=
  let g := grown_set w' N j v
  ⟨g.os.trans h.os, g.tape.trans h.tape, g.output.trans h.output, Nat.le_trans h.size g.size, fun k hk hne => (g.block k (Nat.lt_of_lt_of_le hk h.size) (fun e => by injection e with e; omega)).trans (h.block k hk hne)⟩
theorem Gp.alloc {P : Nat} {w w' : World} (h : Gp P w w') (o : Obj) : Gp P w (w'.alloc o) := h.trans (Gp.bl ((Bl.refl _).alloc _))
theorem Gp.kx {P : Nat} {w w' : World} {cs : Array Value} {fz : Nat × Nat} (h : Gp P w w') (hp : w.heap[P]? = some (.cells cs 269 fz)) : Kx w w' := fun b cs' hb => by
  rw [h.block b (lt_of_heap hb) (fun e => by rw [e, hp] at hb; simp at hb)]
  exact hb
theorem Gp.below {P : Nat} {w0 w w' : World} (h0 : Bl w0 w) (h : Gp P w w') (hP : w0.heap.size ≤ P) : Bl w0 w' :=
  ⟨h.os.trans h0.os, h.tape.trans h0.tape, h.output.trans h0.output, Nat.le_trans h0.size h.size, fun k hk => by
    rw [h.block k (Nat.lt_of_lt_of_le hk h0.size) (by omega)]
    exact Below.block h0 k hk⟩
/-- A reader of these tokens, with so many brackets open. -/
structure Rd (w : World) (P : Nat) (ts : List Tk) (d en : Nat) : Prop where
  ex : ∃ (p : Option Addr) (c : Nat), w.heap[P]? = some (.cells #[.slice p ts.length c, .int .i64 (en : Int), .int .i64 (d : Int)] 269 (0, 0)) ∧ ts.length ≤ c ∧ tr.In w p ts ∧ (∀ x, p = some x → x.block < w.heap.size ∧ x.block ≠ P)
theorem In.gp {P : Nat} {w w' : World} {p : Option Addr} {l : List Tk} (h : tr.In w p l) (hg : Gp P w w') (hp : ∀ x, p = some x → x.block < w.heap.size ∧ x.block ≠ P) : tr.In w' p l := by
  rcases h with h | ⟨x, h1, h2⟩
  · exact Or.inl h
  · refine Or.inr ⟨x, h1, fun k u hk => ?_⟩
    have := h2 k u hk
    obtain ⟨q1, q2⟩ := hp x h1
    have hb : (x.add k).block = x.block := by cases k <;> rfl
    unfold World.cell? at this ⊢
    rw [hb, hg.block _ q1 q2, ← hb]
    exact this
theorem Rd.step {w w' : World} {P : Nat} {ts : List Tk} {d en : Nat} (h : Rd w P ts d en) (hb : Bl w w') : Rd w' P ts d en := by
  obtain ⟨p, c, h1, h2, h3, h4⟩ := h.ex
  exact ⟨p, c, by rw [Below.block hb P (lt_of_heap h1)]; exact h1, h2, h3.step hb, fun x hx => ⟨Nat.lt_of_lt_of_le (h4 x hx).1 hb.size, (h4 x hx).2⟩⟩
theorem Rd.is {w : World} {P : Nat} {ts : List Tk} {d en : Nat} (h : Rd w P ts d en) : ∃ cs, w.heap[P]? = some (.cells cs 269 (0, 0)) := by
  obtain ⟨p, c, h1, _⟩ := h.ex
  exact ⟨_, h1⟩
theorem Rd.lt {w : World} {P : Nat} {ts : List Tk} {d en : Nat} (h : Rd w P ts d en) : P < w.heap.size := by
  obtain ⟨cs, h1⟩ := h.is
  exact lt_of_heap h1
def tkV (t : Tk) : Value := .agg #[.string (tx t.t), .int .i64 (t.a : Int)]
theorem infoT : (Tryz.prog.info? 145).map (·.size) = some 2 := by kernel_rfl
theorem next_at (w : World) (P : Nat) (ts : List Tk) (d en : Nat) (h : Rd w P ts d en) (hl : ts.length ≤ 100000) :
    Calls Tryz.prog 194 #[.pointer (some ⟨P, 0, none⟩)] w fun e w' => e = .returned (tkV (hd en ts)) ∧ Bl w w' := by
  obtain ⟨p, c, h1, h2, h3, h4⟩ := h.ex
  have hP := lt_of_heap h1
  have c0 : w.cell? ⟨P, 0, none⟩ = some (.slice p ts.length c) := by rw [cell_of h1]; rfl
  have c1 : w.cell? ⟨P, 1, none⟩ = some (.int .i64 (en : Int)) := by rw [cell_of h1]; rfl
  cases ts with
  | nil =>
    rw [show ([] : List Tk).length = 0 from rfl] at c0
    clear h1 h2 h3 h4 hl
    go_enter Tryz.func194, Tryz.ntmps194
    go_wp2
    exact bodyPost_ret (v := tkV ⟨[], en⟩) (results_cell_row rfl _ _ w.heap.size 145 #[.string ⟨#[]⟩, .int .i64 (en : Int)] (0, 0) _ rfl (new_at w _) Tryz.underlying145 rfl infoT) rfl ⟨rfl, (Bl.refl _).alloc _⟩
  | cons t ts =>
    obtain ⟨x, rfl, g0, g1⟩ := h3.at' 0 (by simp)
    obtain ⟨n, hn⟩ : ∃ n, n = ts.length := ⟨_, rfl⟩
    rw [show (t :: ts).length = n + 1 by simp [hn]] at c0 h2 hl
    simp only [Nat.zero_mul, Addr.add_zero'] at g0 g1
    rw [show (t :: ts)[0] = t from rfl] at g0 g1
    obtain ⟨q1, q2⟩ := h4 x rfl
    have hne : ((((n + 1 : Nat) : Int)) == 0) = false := by rw [beq_eq_false_iff_ne]; omega
    have hxs : ¬ x.block = w.heap.size := by omega
    have g0' := at_bl ((Bl.refl w).alloc (.cells #[.string ⟨#[]⟩, .int .i64 0] 145)) g0
    have g1' := at_bl ((Bl.refl w).alloc (.cells #[.string ⟨#[]⟩, .int .i64 0] 145)) g1
    clear h1 h3 h4 hn h
    go_enter Tryz.func194, Tryz.ntmps194
    go_wp2
    exact bodyPost_ret (v := tkV t) (results_cell_row rfl _ _ w.heap.size 145 #[.string (tx t.t), .int .i64 (t.a : Int)] (0, 0) _ rfl (new_at w _) Tryz.underlying145 rfl infoT) rfl ⟨rfl, (Bl.refl _).alloc _⟩
set_option maxRecDepth 10000 in
theorem take_at (w : World) (P : Nat) (ts : List Tk) (d en : Nat) (h : Rd w P ts d en) (hl : ts.length ≤ 100000) :
    Calls Tryz.prog 205 #[.pointer (some ⟨P, 0, none⟩)] w fun e w' => e = .returned (tkV (hd en ts)) ∧ Rd w' P ts.tail d en ∧ Gp P w w' := by
  have cN := fun wx (hb : Bl w wx) => next_at wx P ts d en (h.step hb) hl
  obtain ⟨p, c, h1, h2, h3, h4⟩ := h.ex
  have hP := lt_of_heap h1
  have HR : Hid (Rd w P ts d en) := h
  clear h
  obtain ⟨N, hN⟩ : ∃ N, N = w.heap.size := ⟨_, rfl⟩
  have hPN : ¬ P = N := by omega
  have keep : ∀ w2 : World, Bl (w.alloc (.cells #[.string ⟨#[]⟩, .int .i64 0] 145)) w2 → w2.heap[N]? = some (.cells #[.string ⟨#[]⟩, .int .i64 0] 145 (0, 0)) ∧ Bl w w2 ∧ N < w2.heap.size := by
    intro w2 hb
    have h0 := new_at w (.cells #[.string ⟨#[]⟩, .int .i64 0] 145)
    rw [← hN] at h0
    have h1 := Below.block hb N (lt_of_heap h0)
    rw [h0] at h1
    exact ⟨h1, ((Bl.refl _).alloc _).trans hb, lt_of_heap h1⟩
  cases ts with
  | nil =>
    unfold tkV at cN ⊢
    have e0 : hd en ([] : List Tk) = ⟨[], en⟩ := rfl
    rw [e0] at cN ⊢
    generalize tx ([] : List UInt8) = S at *
    go_enter Tryz.func205, Tryz.ntmps205
    go_wp2_with fail
    refine (cN _ ((Bl.refl _).alloc _)).mono ?_
    rintro e w2 ⟨rfl, hb2⟩
    obtain ⟨k1, k2, k3⟩ := keep w2 hb2
    have c0 : w2.cell? ⟨P, 0, none⟩ = some (.slice p 0 c) := at_bl k2 (by rw [cell_of h1]; rfl)
    have hPs : P < w2.heap.size := by have := k2.size; omega
    have n0 : w2.cell? ⟨N, 0, none⟩ = some (.string ⟨#[]⟩) := by rw [cell_of k1]; rfl
    have n1 : w2.cell? ⟨N, 1, none⟩ = some (.int .i64 0) := by rw [cell_of k1]; rfl
    have z0 : w2.frozen? ⟨N, 0, none⟩ = false := by simp [World.frozen?, k1]
    have z1 : w2.frozen? ⟨N, 1, none⟩ = false := by simp [World.frozen?, k1]
    have HK : Hid (Bl w w2 ∧ w2.heap[N]? = some (.cells #[.string ⟨#[]⟩, .int .i64 0] 145 (0, 0))) := ⟨k2, k1⟩
    rw [← hN]
    have HN : Hid (N = w.heap.size) := hN
    clear k1 k2 hb2 cN keep h1 h2 h3 h4 hN hP
    go_wp2
    have hw : w.heap.size ≤ N := by have := HN.out; omega
    have hbl : Bl w (((w2.setCell ⟨N, 0, none⟩ (.string S)).setCell ⟨N, 1, none⟩ (.int .i64 (en : Int))).alloc (.cells #[.string S, .int .i64 (en : Int)] 145)) := ((HK.out.1.setCell hw _).setCell hw _).alloc _
    have hcl : (((w2.setCell ⟨N, 0, none⟩ (.string S)).setCell ⟨N, 1, none⟩ (.int .i64 (en : Int))).alloc (.cells #[.string S, .int .i64 (en : Int)] 145)).heap[N]? = some (.cells #[.string S, .int .i64 (en : Int)] 145 (0, 0)) := by
      have h1 : ((w2.setCell ⟨N, 0, none⟩ (.string S)).setCell ⟨N, 1, none⟩ (.int .i64 (en : Int))).heap[N]? = some (.cells #[.string S, .int .i64 (en : Int)] 145 (0, 0)) := by simp [World.setCell, Array.getElem?_modify, HK.out.2]
      rw [Below.block ((Bl.refl _).alloc _) N (lt_of_heap h1)]
      exact h1
    exact bodyPost_ret (v := .agg #[.string S, .int .i64 (en : Int)]) (results_cell_row rfl _ _ N 145 #[.string S, .int .i64 (en : Int)] (0, 0) _ rfl hcl Tryz.underlying145 rfl infoT) rfl ⟨rfl, HR.out.step hbl, Gp.bl hbl⟩
  | cons t ts =>
    unfold tkV at cN ⊢
    have e0 : hd en (t :: ts) = t := rfl
    rw [e0] at cN ⊢
    obtain ⟨n, hn⟩ : ∃ n, n = ts.length := ⟨_, rfl⟩
    have hx : ∃ x, p = some x := by
      rcases h3 with h | ⟨x, h, _⟩
      · cases h
      · exact ⟨x, h⟩
    obtain ⟨x, rfl⟩ := hx
    obtain ⟨q1, q2, q3⟩ := h3.cut rfl h2
    have hc1 : 1 ≤ c := by simp at h2; omega
    have hlc : (t :: ts).length = n + 1 := by simp [hn]
    rw [hlc] at h1 h2 hl
    obtain ⟨xb1, xb2⟩ := h4 x rfl
    obtain ⟨S, hS⟩ : ∃ S, S = tx t.t := ⟨_, rfl⟩
    obtain ⟨A, hA⟩ : ∃ A, A = t.a := ⟨_, rfl⟩
    rw [← hS, ← hA] at cN ⊢
    go_enter Tryz.func205, Tryz.ntmps205
    go_wp2_with fail
    refine (cN _ ((Bl.refl _).alloc _)).mono ?_
    rintro e w2 ⟨rfl, hb2⟩
    obtain ⟨k1, k2, k3⟩ := keep w2 hb2
    have h1' : w2.heap[P]? = _ := (Below.block k2 P hP).trans h1
    have c0 : w2.cell? ⟨P, 0, none⟩ = some (.slice (some x) (n + 1) c) := by rw [cell_of h1']; rfl
    have z2 : w2.frozen? ⟨P, 0, none⟩ = false := by simp [World.frozen?, h1']
    have hPs : P < w2.heap.size := by have := k2.size; omega
    have n0 : w2.cell? ⟨N, 0, none⟩ = some (.string ⟨#[]⟩) := by rw [cell_of k1]; rfl
    have n1 : w2.cell? ⟨N, 1, none⟩ = some (.int .i64 0) := by rw [cell_of k1]; rfl
    have z0 : w2.frozen? ⟨N, 0, none⟩ = false := by simp [World.frozen?, k1]
    have z1 : w2.frozen? ⟨N, 1, none⟩ = false := by simp [World.frozen?, k1]
    have HK : Hid (Bl w w2 ∧ w2.heap[N]? = some (.cells #[.string ⟨#[]⟩, .int .i64 0] 145 (0, 0)) ∧ w2.heap[P]? = some (.cells #[.slice (some x) (n + 1) c, .int .i64 (en : Int), .int .i64 (d : Int)] 269 (0, 0))) := ⟨k2, k1, h1'⟩
    rw [← hN]
    have HN : Hid (N = w.heap.size ∧ P < w.heap.size ∧ x.block < w.heap.size ∧ x.block ≠ P) := ⟨hN, hP, xb1, xb2⟩
    obtain ⟨Q, hQ⟩ : ∃ Q, Q = (if c = 1 then some x else some ⟨x.block, x.off + 2, none⟩) := ⟨_, rfl⟩
    have hQ' : (if c = 1 then some x else some ⟨x.block, x.off + 2, none⟩) = Q := hQ.symm
    rw [← hQ] at q1
    have HQ : Hid (tr.In w Q ts ∧ n = ts.length ∧ ts.length ≤ c - 1 ∧ (∀ y, Q = some y → y.block = x.block)) := by
      refine ⟨q1, hn, q3, fun y hy => ?_⟩
      rw [hQ] at hy
      split at hy
      · injection hy with hy; rw [← hy]
      · injection hy with hy; rw [← hy]
    clear k1 k2 hb2 cN keep h1 h1' h3 h4 hN hP q1 q2 q3 hQ hn hlc xb1 xb2 hS hA
    go_wp2
    obtain ⟨r1, r2, r3, r4⟩ := HN.out
    have hw : w.heap.size ≤ N := by omega
    obtain ⟨W, hW⟩ : ∃ W, W = (((w2.setCell ⟨P, 0, none⟩ (.slice Q n (c - 1))).setCell ⟨N, 0, none⟩ (.string S)).setCell ⟨N, 1, none⟩ (.int .i64 (A : Int))) := ⟨_, rfl⟩
    have hg : Gp P w (W.alloc (.cells #[.string S, .int .i64 (A : Int)] 145)) := by
      rw [hW]
      exact ((((Gp.bl HK.out.1).trans (Gp.set _)).setNew hw _).setNew hw _).alloc _
    have hcN : W.heap[N]? = some (.cells #[.string S, .int .i64 (A : Int)] 145 (0, 0)) := by
      rw [hW]
      simp [World.setCell, Array.getElem?_modify, HK.out.2.1, hPN]
    have hcP : W.heap[P]? = some (.cells #[.slice Q n (c - 1), .int .i64 (en : Int), .int .i64 (d : Int)] 269 (0, 0)) := by
      rw [hW]
      have hNP : ¬ N = P := fun e => hPN e.symm
      simp [World.setCell, Array.getElem?_modify, HK.out.2.2, hNP]
    have hbW : Bl W (W.alloc (.cells #[.string S, .int .i64 (A : Int)] 145)) := (Bl.refl _).alloc _
    have hcl := (Below.block hbW N (lt_of_heap hcN)).trans hcN
    have hcP' := (Below.block hbW P (lt_of_heap hcP)).trans hcP
    rw [← hW]
    clear hW
    obtain ⟨s1, s2, s3, s4⟩ := HQ.out
    refine bodyPost_ret (v := .agg #[.string S, .int .i64 (A : Int)]) (results_cell_row rfl _ _ N 145 #[.string S, .int .i64 (A : Int)] (0, 0) _ rfl hcl Tryz.underlying145 rfl infoT) rfl ⟨rfl, ⟨Q, c - 1, ?_, s3, ?_, ?_⟩, hg⟩
    · show _ = some (Obj.cells #[.slice Q ts.length (c - 1), _, _] _ _)
      rw [← s2]; exact hcP'
    · exact In.gp s1 hg (fun y hy => by have := s4 y hy; rw [this]; exact ⟨r3, r4⟩)
    · intro y hy
      have := s4 y hy
      rw [this]
      exact ⟨Nat.lt_of_lt_of_le r3 hg.size, r4⟩
theorem at_at (t : Tk) (c : Int) (w : World) : Calls Tryz.prog 193 #[tkV t, .int .i64 c] w fun e w' => ∃ B, e = .returned (.pointer (some ⟨B, 0, none⟩)) ∧ Thr w w' B c t.a := by
  unfold tkV
  go_enter Tryz.func193, Tryz.ntmps193
  go_wp2
  go_ret
  have hn := new_at (w.alloc (.cells #[.string (tx t.t), .int .i64 (t.a : Int)] 145)) (.cells #[.int .i64 c, .int .i64 (t.a : Int)] 116)
  have hs : (w.alloc (.cells #[.string (tx t.t), .int .i64 (t.a : Int)] 145)).heap.size = w.heap.size + 1 := by simp
  rw [hs] at hn
  exact ⟨_, rfl, Nat.le_succ _, hn, ((Bl.refl _).alloc _).alloc _⟩
theorem tl_tx (t : List UInt8) : (tx t).toList = t := by rw [ByteArray.toList_eq]; simp [tx]
theorem binds_at (t : List UInt8) (w : World) : Calls Tryz.prog 173 #[.string (tx t)] w fun e w' => e = .returned (.int .i64 (bd t : Int)) ∧ w' = w := by
  by_cases h0 : t = [61, 61]
  · subst h0
    show Calls Tryz.prog _ #[.string ⟨#[61, 61]⟩] w fun e w' => e = .returned (.int .i64 1) ∧ w' = w
    go_enter Tryz.func173, Tryz.ntmps173
    go_wp2
    go_ret
    exact ⟨rfl, rfl⟩
  by_cases h1 : t = [33, 61]
  · subst h1
    show Calls Tryz.prog _ #[.string ⟨#[33, 61]⟩] w fun e w' => e = .returned (.int .i64 1) ∧ w' = w
    go_enter Tryz.func173, Tryz.ntmps173
    go_wp2
    go_ret
    exact ⟨rfl, rfl⟩
  by_cases h2 : t = [60]
  · subst h2
    show Calls Tryz.prog _ #[.string ⟨#[60]⟩] w fun e w' => e = .returned (.int .i64 1) ∧ w' = w
    go_enter Tryz.func173, Tryz.ntmps173
    go_wp2
    go_ret
    exact ⟨rfl, rfl⟩
  by_cases h3 : t = [62]
  · subst h3
    show Calls Tryz.prog _ #[.string ⟨#[62]⟩] w fun e w' => e = .returned (.int .i64 1) ∧ w' = w
    go_enter Tryz.func173, Tryz.ntmps173
    go_wp2
    go_ret
    exact ⟨rfl, rfl⟩
  by_cases h4 : t = [43]
  · subst h4
    show Calls Tryz.prog _ #[.string ⟨#[43]⟩] w fun e w' => e = .returned (.int .i64 2) ∧ w' = w
    go_enter Tryz.func173, Tryz.ntmps173
    go_wp2
    go_ret
    exact ⟨rfl, rfl⟩
  by_cases h5 : t = [45]
  · subst h5
    show Calls Tryz.prog _ #[.string ⟨#[45]⟩] w fun e w' => e = .returned (.int .i64 2) ∧ w' = w
    go_enter Tryz.func173, Tryz.ntmps173
    go_wp2
    go_ret
    exact ⟨rfl, rfl⟩
  by_cases h6 : t = [124]
  · subst h6
    show Calls Tryz.prog _ #[.string ⟨#[124]⟩] w fun e w' => e = .returned (.int .i64 2) ∧ w' = w
    go_enter Tryz.func173, Tryz.ntmps173
    go_wp2
    go_ret
    exact ⟨rfl, rfl⟩
  by_cases h7 : t = [42]
  · subst h7
    show Calls Tryz.prog _ #[.string ⟨#[42]⟩] w fun e w' => e = .returned (.int .i64 3) ∧ w' = w
    go_enter Tryz.func173, Tryz.ntmps173
    go_wp2
    go_ret
    exact ⟨rfl, rfl⟩
  by_cases h8 : t = [38]
  · subst h8
    show Calls Tryz.prog _ #[.string ⟨#[38]⟩] w fun e w' => e = .returned (.int .i64 3) ∧ w' = w
    go_enter Tryz.func173, Tryz.ntmps173
    go_wp2
    go_ret
    exact ⟨rfl, rfl⟩
  have e0 : bd t = 0 := by unfold bd; rw [if_neg (by simp [h0, h1, h2, h3]), if_neg (by simp [h4, h5, h6]), if_neg (by simp [h7, h8])]
  have htl := tl_tx t
  have n0 : (t == [61, 61]) = false := by rw [beq_eq_false_iff_ne]; exact h0
  have n1 : (t == [33, 61]) = false := by rw [beq_eq_false_iff_ne]; exact h1
  have n2 : (t == [60]) = false := by rw [beq_eq_false_iff_ne]; exact h2
  have n3 : (t == [62]) = false := by rw [beq_eq_false_iff_ne]; exact h3
  have n4 : (t == [43]) = false := by rw [beq_eq_false_iff_ne]; exact h4
  have n5 : (t == [45]) = false := by rw [beq_eq_false_iff_ne]; exact h5
  have n6 : (t == [124]) = false := by rw [beq_eq_false_iff_ne]; exact h6
  have n7 : (t == [42]) = false := by rw [beq_eq_false_iff_ne]; exact h7
  have n8 : (t == [38]) = false := by rw [beq_eq_false_iff_ne]; exact h8
  rw [e0]
  generalize tx t = S at *
  clear h0 h1 h2 h3 h4 h5 h6 h7 h8 e0
  go_enter Tryz.func173, Tryz.ntmps173
  go_wp2
  go_ret
  exact ⟨rfl, rfl⟩
theorem number_yes (t : List UInt8) (w : World) : Calls Tryz.prog 212 #[.string (tx t)] w fun e w' => e = .returned (.bool (isU t)) ∧ w' = w := by
  cases t with
  | nil =>
    show Calls Tryz.prog _ #[.string ⟨#[]⟩] w fun e w' => e = .returned (.bool false) ∧ w' = w
    go_enter Tryz.func212, Tryz.ntmps212
    go_wp2
    go_ret
    exact ⟨rfl, rfl⟩
  | cons c r =>
    have h0 : 0 < (tx (c :: r)).size := by rw [tx_size]; simp
    have e1 : ((((tx (c :: r))[0]'h0).toNat : Nat) : Int) = (c.toNat : Int) := rfl
    have hne : ((tx (c :: r)).toList == []) = false := by rw [tl_tx]; rfl
    have hU : isU (c :: r) = dg (c.toNat : Int) := rfl
    rw [hU]
    generalize (c.toNat : Int) = x at *
    generalize tx (c :: r) = S at *
    go_enter Tryz.func212, Tryz.ntmps212
    go_wp2
    all_goals
      go_ret
      refine ⟨ret_bool ?_, rfl⟩
      rw [Bool.eq_iff_iff]
      simp [dg]
      try omega
end Go.Proofs.YtococaecjecjgaaGreatDoor.ex
/- Plain facts on digits: pr lays a number's digits, pv is the number that digits are. No program. -/
namespace Go.Proofs.YtococaecjecjgaaGreatDoor.dig
open Go.RowKit

/-- Byte j of a text. -/
def sb (s : ByteArray) (j : Nat) : Int := ((s.data.toList.getD j 0).toNat : Int)
theorem sb_bd (s : ByteArray) (j : Nat) : 0 ≤ sb s j ∧ sb s j < 256 := by
  unfold sb
  have := (s.data.toList.getD j 0).toNat_lt
  omega
theorem sb_get (s : ByteArray) (j : Nat) (h : j < s.size) : sb s j = ((s[j]'h).toNat : Int) := by
  unfold sb
  have h' : j < s.data.toList.length := by simpa using h
  rw [List.getD_eq_getElem?_getD, List.getElem?_eq_getElem h']
  rfl
/-- What a byte is as a digit (-1: none). -/
def dv (c : Int) : Int := if 48 ≤ c ∧ c ≤ 57 then c - 48 else if 97 ≤ c ∧ c ≤ 102 then c - 87 else if 65 ≤ c ∧ c ≤ 70 then c - 55 else -1
/-- All small digits. -/
def lit : ByteArray := ⟨#[48, 49, 50, 51, 52, 53, 54, 55, 56, 57, 97, 98, 99, 100, 101, 102]⟩
/-- The number that a text's first k bytes are, as digits. -/
def pv (b : Nat) (s : ByteArray) : Nat → Nat
  | 0 => 0
  | k + 1 => pv b s k * b + (dv (sb s k)).toNat
theorem pv_mono (b : Nat) (s : ByteArray) (hb : 2 ≤ b) (k j : Nat) (h : k ≤ j) : pv b s k ≤ pv b s j := by
  induction j with
  | zero => obtain rfl : k = 0 := by omega
            exact Nat.le_refl _
  | succ j ih =>
    rcases Nat.lt_or_ge j k with h' | h'
    · obtain rfl : k = j + 1 := by omega
      exact Nat.le_refl _
    · refine Nat.le_trans (ih h') ?_
      show pv b s j ≤ pv b s j * b + _
      exact Nat.le_trans (Nat.le_mul_of_pos_right _ (by omega)) (Nat.le_add_right _ _)
/-- Are all bytes digits below b, and is there one? -/
def okD (b : Nat) (s : ByteArray) : Prop := 0 < s.size ∧ ∀ i, i < s.size → 0 ≤ dv (sb s i) ∧ dv (sb s i) < b
end Go.Proofs.YtococaecjecjgaaGreatDoor.dig
