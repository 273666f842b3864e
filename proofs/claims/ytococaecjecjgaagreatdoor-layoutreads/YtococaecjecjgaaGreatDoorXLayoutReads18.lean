/- Texts laid together: TmF, TmT, TmG, Ly14, IntRow. -/
import Derived.Test.YtococaecjecjgaaGreatDoorXLayoutReads17
import Derived.RegionCalls
import Derived.Test.YtococaecjecjgaaGreatDoorChecked
import Derived.Test.YtococaecjecjgaaGreatDoorXLayoutReads1
import Derived.Laws.AppendOwn
import Derived.Lib.AppendZeros
/- A reader of a template's tokens: types. -/
namespace Go.Proofs.YtococaecjecjgaaGreatDoor.tm
set_option linter.unusedVariables false
open Go.ChangeShapes Go.WideShapes Go.ChangeAt Go.RowKit Go.Shelf
open mem lx ex

def preT (l : List Ty) : Except (Int × Nat) (List Ty) → Except (Int × Nat) (List Ty)
  | .error e => .error e
  | .ok m => .ok (l ++ m)
theorem typs_is (en n : Nat) (l : List Ty) (t : Tk) (r : List Tk) :
    (¬ t.t = wStruct → preT l (typs nb en n (t :: r)) = .error (3, t.a)) ∧ (t.t = wStruct → n = 0 → preT l (typs nb en n (t :: r)) = .error (4, t.a)) ∧
    (t.t = wStruct → ∀ m, n = m + 1 → (∀ e, name en r = .error e → preT l (typs nb en n (t :: r)) = .error e) ∧ ∀ x r1, name en r = .ok (x, r1) →
      (∀ e, blk nb en 8 r1 = .error e → preT l (typs nb en n (t :: r)) = .error e) ∧ ∀ it r2, blk nb en 8 r1 = .ok (it, r2) →
        preT l (typs nb en n (t :: r)) = preT (l ++ [⟨x, (hd en r).a, it⟩]) (typs nb en m r2)) := by
  cases n with
  | zero =>
    rw [typs]
    exact ⟨fun h => by rw [if_neg h]; rfl, fun h _ => by rw [if_pos h]; rfl, fun h m hm => by omega⟩
  | succ n =>
    rw [typs]
    refine ⟨fun h => by rw [if_neg h]; rfl, fun h h0 => by omega, fun h m hm => ?_⟩
    obtain rfl : n = m := by omega
    rw [if_pos h]
    refine ⟨fun e he => by rw [he]; rfl, fun x r1 hx => ?_⟩
    rw [hx]
    dsimp only
    refine ⟨fun e he => by rw [he]; rfl, fun it r2 hb => ?_⟩
    rw [hb]
    dsimp only
    cases typs nb en n r2 with
    | error e => rfl
    | ok q => show Except.ok (l ++ (⟨x, (hd en r).a, it⟩ :: q)) = Except.ok ((l ++ [⟨x, (hd en r).a, it⟩]) ++ q); simp
theorem typs_end (en n : Nat) (l : List Ty) : preT l (typs nb en n []) = .ok l := by
  cases n <;> (show Except.ok (l ++ []) = _; rw [List.append_nil])
/-- The row of structs, under way. -/
structure Bt (w0 w : World) (P : Nat) (s : ByteArray) (ts : List Tk) (d mb base : Nat) (v : Value) (cs : List CT) (l : List Ty) : Prop where
  gp : Gp P w0 w
  rd : RdT w P s ts d mb
  gt : Gt w
  own : sr.Own w base v cs
  rep : RepT w (fun g => w0.heap.size ≤ g ∧ v.ownBlock ≠ some g) l cs
theorem Bt.bl {w0 w w' : World} {P : Nat} {s : ByteArray} {ts : List Tk} {d mb base : Nat} {v : Value} {cs : List CT} {l : List Ty} (h : Bt w0 w P s ts d mb base v cs l) (hb : Bl w w') : Bt w0 w' P s ts d mb base v cs l :=
  ⟨h.gp.trans (Gp.bl hb), h.rd.step hb, h.gt.bl hb, h.own.bl hb, h.rep.keep (fun g _ hg => Below.block hb g hg) hb.size (Kx.bl hb)⟩
theorem Bt.go {w0 w w' : World} {P : Nat} {s : ByteArray} {ts ts' : List Tk} {d mb base : Nat} {v : Value} {cs : List CT} {l : List Ty} (h : Bt w0 w P s ts d mb base v cs l) (hg : Gp P w w') (hr : RdT w' P s ts' d mb) (hP0 : P < w0.heap.size) (hPb : P < base) (hGP : 6 ≤ P) : Bt w0 w' P s ts' d mb base v cs l :=
  ⟨h.gp.trans hg, hr, h.gt.gp hg hGP h.rd.lt, h.own.gp hg hPb, h.rep.keep (fun g h1 hg' => hg.block g hg' (by omega)) hg.size (kx_gp h.rd hg)⟩
/-- One struct more. -/
theorem Bt.app {w0 w w6 : World} {P : Nat} {s : ByteArray} {ts : List Tk} {d mb base : Nat} {v : Value} {cs : List CT} {l : List Ty} {c : CT} {it : Its} {v' : Value} {w' : World} {M : Nat}
    (h : Bt w0 w P s ts d mb base v cs l) (hs : ∃ cs2, ir.Lie w (fun g => M ≤ g) c.p c.n c.c cs2 ∧ Rep w (fun g => M ≤ g) it cs2) (hM : w0.heap.size ≤ M) (hvM : ∀ k, v.ownBlock = some k → k < M) (hb6 : w6 = w.alloc (.cells (clT c).toArray 96))
    (ho' : sr.Own w' base v' (cs ++ [c])) (hg : w6.grownBy w' v.ownBlock) (hw : v'.ownBlock = v.ownBlock ∨ v'.ownBlock = some w6.heap.size) (hPb : P < base) (hbase : base ≤ w.heap.size) (hb0 : w0.heap.size ≤ base) (hNP : 6 ≤ P) : Bt w0 w' P s ts d mb base v' (cs ++ [c]) (l ++ [⟨c.nm, c.a, it⟩]) := by
  have hbl : Bl w w6 := by rw [hb6]; exact (Bl.refl _).alloc _
  have h6 := h.bl hbl
  have hbk : ∀ k, v.ownBlock = some k → base ≤ k ∧ k < w.heap.size := h.own.block
  have keep : ∀ k, k < w6.heap.size → v.ownBlock ≠ some k → w'.heap[k]? = w6.heap[k]? := fun k hk hne => hg.block k hk (fun e => hne e.symm)
  have hkx : Kx w6 w' := fun b cs' hb => by
    rw [keep b (lt_of_heap hb) (fun e => by
      obtain ⟨cap, hv⟩ : ∃ cap, v = .slice (some ⟨b, 0, none⟩) cs.length cap := by
        rcases h6.own.shape with ⟨rfl, _⟩ | ⟨g, cap, rfl, _⟩
        · cases e
        · have : g = b := by
            have : (Value.slice (some ⟨g, 0, none⟩) cs.length cap).ownBlock = some g := rfl
            rw [this] at e; injection e
          subst this; exact ⟨cap, rfl⟩
      have ho6 := h6.own
      rw [hv] at ho6
      obtain ⟨cur, hcur⟩ := ho6.kind
      rw [hb] at hcur
      simp at hcur)]
    exact hb
  refine ⟨?_, ?_, ?_, ho', ?_⟩
  · exact ⟨hg.os.trans h6.gp.os, hg.tape.trans h6.gp.tape, hg.output.trans h6.gp.output, Nat.le_trans h6.gp.size hg.size, fun k hk hne => (keep k (Nat.lt_of_lt_of_le hk h6.gp.size) (fun e => by have := (hbk k e).1; omega)).trans (h6.gp.block k hk hne)⟩
  · cases hv : v.ownBlock with
    | none =>
      rw [hv] at hg
      exact h6.rd.step ⟨hg.os, hg.tape, hg.output, hg.size, fun k hk => hg.block k hk (fun e => by cases e)⟩
    | some g =>
      rw [hv] at hg
      exact h6.rd.behind hg (by have := (hbk g hv).1; omega)
  · have := h6.rd.lt
    exact h6.gt.below ⟨hg.os, hg.tape, hg.output, hg.size, fun k hk => keep k (by omega) (fun e => by have := (hbk k e).1; omega)⟩
  · have hsz : w6.heap.size = w.heap.size + 1 := by rw [hb6]; simp
    have r7 : RepT w' (fun g => w0.heap.size ≤ g ∧ v'.ownBlock ≠ some g) l cs := by
      have r5 : RepT w (fun g => (w0.heap.size ≤ g ∧ v.ownBlock ≠ some g) ∧ g < w.heap.size) l cs := h.rep.mono (fun g h1 h2 => ⟨h1, h2⟩)
      have r5' : RepT w' (fun g => (w0.heap.size ≤ g ∧ v.ownBlock ≠ some g) ∧ g < w.heap.size) l cs := (r5.keep (fun g h1 hg' => Below.block hbl g hg') hbl.size (Kx.bl hbl)).keep (fun g h1 hg' => keep g hg' h1.1.2) hg.size hkx
      refine r5'.mono (fun g h1 _ => ⟨h1.1.1, fun e => ?_⟩)
      rcases hw with hw | hw
      · rw [hw] at e; exact h1.1.2 e
      · rw [hw] at e; injection e with e; have := h1.2; omega
    refine RepT.app ?_ r7
    obtain ⟨cs2, k1, k2⟩ := hs
    have hlt : ∀ g, M ≤ g → g < w.heap.size → v'.ownBlock ≠ some g := fun g h1 h2 e => by
      rcases hw with hw | hw
      · rw [hw] at e; have := hvM g e; omega
      · rw [hw] at e; injection e with e; omega
    have k1' := k1.mono (ok' := fun g => M ≤ g ∧ g < w.heap.size) (fun g h1 h2 => ⟨h1, h2⟩)
    have k2' := k2.mono (ok' := fun g => M ≤ g ∧ g < w.heap.size) (fun g h1 h2 => ⟨h1, h2⟩)
    refine ⟨cs2, ?_, ?_⟩
    · exact ((k1'.keep (fun g _ hg' => Below.block hbl g hg') hbl.size).keep (fun g h1 hg' => keep g hg' (fun e => by have := hvM g e; omega)) hg.size).mono (fun g h1 _ => ⟨by omega, hlt g h1.1 h1.2⟩)
    · exact ((k2'.keep (fun g _ hg' => Below.block hbl g hg') hbl.size (Kx.bl hbl)).keep (fun g h1 hg' => keep g hg' (fun e => by have := hvM g e; omega)) hg.size hkx).mono (fun g h1 _ => ⟨by omega, hlt g h1.1 h1.2⟩)
/-- What all structs' reading answers. -/
def TsA (P : Nat) (w : World) (q : Except (Int × Nat) (List Ty)) (e : Ending) (w' : World) : Prop :=
  Gp P w w' ∧ match q with
  | .ok l => ∃ v, e = .returned v ∧ IsTs w' (fun g => w.heap.size ≤ g) v l
  | .error (c, p) => ∃ B : Nat, e = thrownT B ∧ w.heap.size ≤ B ∧ AtX w' B c (p : Int)
theorem TsA.of_err {P : Nat} {w w' : World} {q : Except (Int × Nat) (List Ty)} {c : Int} {p B : Nat} (hq : q = .error (c, p)) (hg : Gp P w w') (hB : w.heap.size ≤ B) (hA : AtX w' B c (p : Int)) : TsA P w q (thrownT B) w' := by rw [hq]; exact ⟨hg, B, rfl, hB, hA⟩
set_option maxRecDepth 10000 in
set_option maxHeartbeats 4000000 in
theorem types_at (w : World) (P mb : Nat) (s : ByteArray) (ts : List Tk) (h : RdT w P s ts 0 mb) (hG : Gt w) (hGP : 6 ≤ P) :
    Calls Tryz.prog 60 #[.pointer (some ⟨P, 0, none⟩)] w fun e w' => TsA P w (typs nb s.size 8 ts) e w' := by
  obtain ⟨q, hq⟩ : ∃ q, q = typs nb s.size 8 ts := ⟨_, rfl⟩
  rw [← hq]
  have hPw := h.lt
  obtain ⟨base, hbase⟩ : ∃ base, base = w.heap.size := ⟨_, rfl⟩
  have H0 : Hid (Bt w w P s ts 0 mb base (.slice none 0 0) [] [] ∧ preT [] (typs nb s.size 8 ts) = q ∧ base = w.heap.size) := by
    refine ⟨⟨Gp.refl _ _, h, hG, sr.Own.nil _ _, rfl⟩, ?_, hbase⟩
    rw [hq]
    cases typs nb s.size 8 ts with
    | error e => rfl
    | ok x => rfl
  have hf0 := run_text
  clear h hG hq hbase
  go_enter Tryz.func60, Tryz.ntmps60
  go_wp2
  go_loopw [3] (fun v3 wr => ∃ (cs : List CT) (l : List Ty) (n : Nat) (ts' : List Tk), n + cs.length = 8 ∧ Hid (Bt w wr P s ts' 0 mb base v3 cs l ∧ base ≤ wr.heap.size ∧ preT l (typs nb s.size n ts') = q)) (fun v3 _ => 8 - lenV v3)
  case atStart => exact ⟨[], [], 8, ts, rfl, H0.out.1, by rw [H0.out.2.2]; exact Nat.le_refl _, H0.out.2.1⟩
  case round =>
    obtain ⟨cs, l, n, ts', hn, HB⟩ := hrel
    obtain ⟨lp, lc, rfl, hlie⟩ := HB.out.1.own.lie
    have hcl := HB.out.1.rep.len
    obtain ⟨m, hm⟩ : ∃ m, m = cs.length := ⟨_, rfl⟩
    have HL : Hid (sr.Lie wr (fun g => base ≤ g) lp cs.length lc cs ∧ m = cs.length ∧ m = l.length) := ⟨hlie, hm, by rw [hm]; exact hcl⟩
    obtain ⟨p0, c0, e0, e1, e2, e3, ez, _⟩ := HB.out.1.rd.cells
    have hPr := HB.out.1.rd.lt
    rw [← hm] at hn HB ⊢
    clear hlie hcl hm ez e0 e2 e3
    cases ts' with
    | nil =>
      have HQ2 : Hid (q = .ok l) := by have := HB.out.2.2; rw [typs_end] at this; exact this.symm
      have e1' : wr.cell? ⟨P, 1, none⟩ = some (.slice p0 0 c0) := e1
      clear e1
      go_wp2
      go_ret
      rw [HQ2.out]
      refine ⟨HB.out.1.gp, _, rfl, lp, lc, cs, by rw [HL.out.2.2]; rfl, ?_, HB.out.1.rep.mono (fun g h1 _ => h1.1)⟩
      have h1 := HL.out.1
      rw [← HL.out.2.1, HL.out.2.2] at h1
      exact h1.mono (fun g hg _ => by rw [← H0.out.2.2]; exact hg)
    | cons t r =>
      obtain ⟨j, hj⟩ : ∃ j, j = r.length := ⟨_, rfl⟩
      rw [show (t :: r).length = j + 1 by rw [hj]; rfl] at e1
      have hpos : decide ((0 : Int) < ((j + 1 : Nat) : Int)) = true := decide_eq_true (by omega)
      have hpos' : (0 : Int) < ((j : Nat) : Int) + 1 := by omega
      obtain ⟨o1, o2, o3⟩ := typs_is s.size n l t r
      rw [HB.out.2.2] at o1 o2 o3
      have cW := want_at ⟨#[115, 116, 114, 117, 99, 116]⟩ wr P 0 mb s (t :: r) HB.out.1.rd
      rw [show L ⟨#[115, 116, 114, 117, 99, 116]⟩ = wStruct from rfl] at cW
      clear hj
      by_cases hst : t.t = wStruct
      · rw [wantU_yes (show (hd s.size (t :: r)).t = wStruct from hst)] at cW
        rw [show hd s.size (t :: r) = t from rfl] at cW
        have o2' := o2 hst
        have o3' := o3 hst
        have hthr := throw_at t 4
        unfold tkV at cW hthr
        obtain ⟨S2, hS2⟩ : ∃ S2, S2 = tx t.t := ⟨_, rfl⟩
        rw [← hS2] at cW hthr
        clear o1 o2 o3 hst hS2
        go_wp2_with fail
        refine cW.mono ?_
        rintro e w5 ⟨hg5, v5, rfl, rfl, hR5⟩
        have hR5' : RdT w5 P s r 0 mb := hR5
        have H5 := HB.out.1.go hg5 hR5' hPw (by have := H0.out.2.2; omega) hGP
        obtain ⟨w6, hw6⟩ : ∃ w6, w6 = w5.alloc (.cells #[.string S2, .int .i64 (t.a : Int)] 145) := ⟨_, rfl⟩
        have hb6 : Bl w5 w6 := by rw [hw6]; exact (Bl.refl _).alloc _
        have hv6 := Tv.new w5 S2 (t.a : Int)
        obtain ⟨N1, hN1⟩ : ∃ N1, N1 = w5.heap.size := ⟨_, rfl⟩
        rw [← hw6, ← hN1] at hv6
        have H6 : Hid (Bt w w6 P s r 0 mb base (.slice lp m lc) cs l ∧ base ≤ w6.heap.size ∧ Tv w6 N1 S2 (t.a : Int)) := ⟨H5.bl hb6, by have := HB.out.2.1; have := hg5.size; have := hb6.size; omega, hv6⟩
        obtain ⟨g0, g1, z0, z1, hNs⟩ := hv6.facts
        clear hR5 hR5' hg5 H5 hb6 hv6 cW e1
        cases n with
        | zero =>
          have HQ2 : Hid (q = .error (4, t.a)) := o2' rfl
          have hm8 : ((m : Int) == 8) = true := by rw [beq_iff_eq]; omega
          clear o2' o3'
          go_upto_region 4 with fail
          rw [← hw6, ← hN1]
          clear hw6 hN1
          go_wp2_with fail
          refine (hthr _).mono ?_
          rintro e w7 ⟨B, rfl, k1, k2, k3⟩
          unfold thrownT
          go_wp2
          exact ⟨rfl, TsA.of_err HQ2.out (H6.out.1.gp.trans (Gp.bl k3)) (Nat.le_trans H6.out.1.gp.size k1) k2⟩
        | succ n =>
          obtain ⟨o4, o5⟩ := o3' n rfl
          have hm8 : ((m : Int) == 8) = false := by rw [beq_eq_false_iff_ne]; omega
          clear o2' o3' hthr
          go_upto_region 4 with fail
          rw [← hw6, ← hN1]
          clear hw6 hN1 g0 g1 z0 z1 hNs
          have cA := name_at w6 P 0 mb s r H6.out.1.rd
          go_wp2_with fail
          refine cA.mono ?_
          rintro e w7 ⟨hg7, hans⟩
          cases hnm : name s.size r with
          | error kp =>
            obtain ⟨k1, p1⟩ := kp
            rw [hnm] at hans
            obtain ⟨B, rfl, hB, hA⟩ := hans
            have HQ2 : Hid (q = .error (k1, p1)) := o4 _ hnm
            unfold thrownT
            clear cA o4 o5 hnm
            go_wp2
            exact ⟨rfl, TsA.of_err HQ2.out (H6.out.1.gp.trans hg7) (Nat.le_trans H6.out.1.gp.size hB) hA⟩
          | ok xr =>
            obtain ⟨x, r1⟩ := xr
            rw [hnm] at hans
            obtain ⟨v7, rfl, rfl, hR7⟩ := hans
            obtain ⟨o6, o7⟩ := o5 _ _ hnm
            have H7 := H6.out.1.go hg7 hR7 hPw (by have := H0.out.2.2; omega) hGP
            obtain ⟨A, hA⟩ : ∃ A, A = (hd s.size r).a := ⟨_, rfl⟩
            obtain ⟨W, hW⟩ : ∃ W, W = w7.alloc (.cells #[.string (tx x), .int .i64 (A : Int)] 145) := ⟨_, rfl⟩
            have hbW : Bl w7 W := by rw [hW]; exact (Bl.refl _).alloc _
            have hvW := Tv.new w7 (tx x) (A : Int)
            obtain ⟨N2, hN2⟩ : ∃ N2, N2 = w7.heap.size := ⟨_, rfl⟩
            rw [← hW, ← hN2] at hvW
            have HW : Hid (Bt w W P s r1 0 mb base (.slice lp m lc) cs l ∧ base ≤ W.heap.size ∧ Tv W N2 (tx x) (A : Int) ∧ N2 ≠ P) := ⟨H7.bl hbW, by have := H6.out.2.1; have := hg7.size; have := hbW.size; omega, hvW, by have := hR7.lt; omega⟩
            obtain ⟨g0, g1, z0, z1, hNs⟩ := hvW.facts
            have cB := fun wx (hb : Bl W wx) => block_at 8 wx P 0 mb s r1 rfl (HW.out.1.rd.step hb) (HW.out.1.gt.bl hb) hGP
            rw [← hA] at o7
            have HD : Hid (Bl W W.drew ∧ ∀ k, (Value.slice lp m lc).ownBlock = some k → k < N2) := ⟨(Bl.refl _).drew, fun k hk => by have := (H7.own.block k hk).2; rw [hN2]; exact this⟩
            have g0d := at_bl (Bl.refl W).drew g0
            have g1d := at_bl (Bl.refl W).drew g1
            unfold tkV
            rw [← hA]
            clear hR7 hg7 H7 hbW hvW cA hnm o4 o5 hA
            go_upto_region 7 with fail
            rw [← hW, ← hN2]
            clear hW hN2
            -- the block
            cases hbk : blk nb s.size 8 r1 with
            | error kp =>
              obtain ⟨k1, p1⟩ := kp
              have HQ2 : Hid (q = .error (k1, p1)) := o6 _ hbk
              rw [hbk] at cB
              clear o6 o7 hbk
              refine wp_region_any (by kernel_rfl) ?_
              change wpAny _ _ _ _ _ _ _ (World.drew _)
              refine wpAny_take (i := 0) (v := ?_) rfl (by kernel_rfl) (by kernel_rfl) (by kernel_rfl) (fun _ _ _ h => h) (Or.inl ⟨by rfl, ?_⟩) ?_
              rotate_left
              · intro w
                go_simp
                rfl
              refine wpAny_take (i := 1) (v := ?_) rfl (by kernel_rfl) (by kernel_rfl) (by kernel_rfl) (fun _ _ _ h => h) (Or.inl ⟨by rfl, ?_⟩) ?_
              rotate_left
              · intro w
                go_simp
                rfl
              refine wpAny_take (i := 3) (v := ?_) rfl (by kernel_rfl) (by kernel_rfl) (by kernel_rfl) (fun _ _ _ h => h) (Or.inl ⟨by rfl, ?_⟩) ?_
              rotate_left
              · intro w
                go_simp
                rfl
              refine wpAny_take (i := 5) (v := ?_) rfl (by kernel_rfl) (by kernel_rfl) (by kernel_rfl) (fun _ _ _ h => h) (Or.inl ⟨by rfl, ?_⟩) ?_
              rotate_left
              · intro w
                go_simp
                rfl
              refine wpAny_ready (rs := [2, 4, 6]) (by kernel_rfl) (by simp) ?_
              refine AllReady.cons rfl (fun K hK => ?_) (AllReady.cons rfl (fun K hK => ?_) (AllReady.cons rfl (fun K hK => ?_) (AllReady.nil)))
              · go_simp
                refine hK _ _ ?_
                clear hK K
                refine wpAny_ready (rs := [4, 6]) (by kernel_rfl) (by simp) ?_
                refine AllReady.cons rfl (fun K hK => ?_) (AllReady.cons rfl (fun K hK => ?_) (AllReady.nil))
                · go_simp
                  refine hK _ _ ?_
                  clear hK K
                  refine wpAny_ready (rs := [6]) (by kernel_rfl) (by simp) ?_
                  refine AllReady.cons rfl (fun K hK => ?_) (AllReady.nil)
                  go_simp
                  refine (cB _ HD.out.1).mono ?_
                  rintro e w6 ⟨hg6, B, rfl, hs6, hat6⟩
                  clear hK
                  unfold thrownT
                  dsimp only
                  clear K
                  go_wp2
                  exact ⟨rfl, TsA.of_err HQ2.out ((HW.out.1.gp.trans (Gp.bl HD.out.1)).trans hg6) (Nat.le_trans (Nat.le_trans HW.out.1.gp.size HD.out.1.size) hs6) hat6⟩
                · go_simp
                  refine (cB _ HD.out.1).mono ?_
                  rintro e w6 ⟨hg6, B, rfl, hs6, hat6⟩
                  clear hK
                  unfold thrownT
                  dsimp only
                  clear K
                  go_wp2
                  exact ⟨rfl, TsA.of_err HQ2.out ((HW.out.1.gp.trans (Gp.bl HD.out.1)).trans hg6) (Nat.le_trans (Nat.le_trans HW.out.1.gp.size HD.out.1.size) hs6) hat6⟩
              · go_simp
                refine hK _ _ ?_
                clear hK K
                refine wpAny_ready (rs := [2, 6]) (by kernel_rfl) (by simp) ?_
                refine AllReady.cons rfl (fun K hK => ?_) (AllReady.cons rfl (fun K hK => ?_) (AllReady.nil))
                · go_simp
                  refine hK _ _ ?_
                  clear hK K
                  refine wpAny_ready (rs := [6]) (by kernel_rfl) (by simp) ?_
                  refine AllReady.cons rfl (fun K hK => ?_) (AllReady.nil)
                  go_simp
                  refine (cB _ HD.out.1).mono ?_
                  rintro e w6 ⟨hg6, B, rfl, hs6, hat6⟩
                  clear hK
                  unfold thrownT
                  dsimp only
                  clear K
                  go_wp2
                  exact ⟨rfl, TsA.of_err HQ2.out ((HW.out.1.gp.trans (Gp.bl HD.out.1)).trans hg6) (Nat.le_trans (Nat.le_trans HW.out.1.gp.size HD.out.1.size) hs6) hat6⟩
                · go_simp
                  refine (cB _ HD.out.1).mono ?_
                  rintro e w6 ⟨hg6, B, rfl, hs6, hat6⟩
                  clear hK
                  unfold thrownT
                  dsimp only
                  clear K
                  go_wp2
                  exact ⟨rfl, TsA.of_err HQ2.out ((HW.out.1.gp.trans (Gp.bl HD.out.1)).trans hg6) (Nat.le_trans (Nat.le_trans HW.out.1.gp.size HD.out.1.size) hs6) hat6⟩
              · go_simp
                refine (cB _ HD.out.1).mono ?_
                rintro e w6 ⟨hg6, B, rfl, hs6, hat6⟩
                clear hK
                unfold thrownT
                dsimp only
                clear K
                go_wp2
                exact ⟨rfl, TsA.of_err HQ2.out ((HW.out.1.gp.trans (Gp.bl HD.out.1)).trans hg6) (Nat.le_trans (Nat.le_trans HW.out.1.gp.size HD.out.1.size) hs6) hat6⟩
            | ok ir =>
              obtain ⟨it, r2⟩ := ir
              have hq8 := o7 _ _ hbk
              rw [hbk] at cB
              clear o6 o7 hbk
              go_region_held3 (fun w' => w'.cell? ⟨N2, 0, none⟩ = some (.string (tx x)) ∧ w'.cell? ⟨N2, 1, none⟩ = some (.int .i64 (A : Int))) (refine ⟨?_, ?_⟩ <;> first | assumption | exact at_bl ((Bl.refl _).drew) (by assumption) | exact at_bl ((Bl.refl _).alloc _) (by assumption))
                (first
                  | (go_at_call 99; (refine (cB _ HD.out.1).mono ?_); rintro e w8 ⟨hg8, v8, rfl, ⟨bp, bc, bcs, rfl, hl1, hl2⟩, hR8⟩
                     obtain ⟨ln, hln⟩ : ∃ ln, ln = it.len := ⟨_, rfl⟩
                     have H8 := (HW.out.1.bl HD.out.1).go hg8 hR8 hPw (by have := H0.out.2.2; omega) hGP
                     have hT8 := (HW.out.2.2.1.bl HD.out.1).gp hg8 HW.out.2.2.2
                     have q0 := hT8.facts.1
                     have q1 := hT8.facts.2.1
                     rw [← hln] at hl1
                     rw [← hln]
                     obtain ⟨c9, hc9⟩ : ∃ c9 : CT, c9 = ⟨x, A, bp, ln, bc⟩ := ⟨_, rfl⟩
                     obtain ⟨w9, hw9⟩ : ∃ w9, w9 = w8.alloc (.cells (clT c9).toArray 96) := ⟨_, rfl⟩
                     have hb9 : Bl w8 w9 := by rw [hw9]; exact (Bl.refl _).alloc _
                     obtain ⟨X, hX⟩ : ∃ X, X = w8.heap.size := ⟨_, rfl⟩
                     have hX9 : w9.heap[X]? = some (.cells (clT c9).toArray 96 (0, 0)) := by rw [hw9, hX]; exact new_at _ _
                     have hown9 := H8.own.bl hb9
                     have hcells : ∀ j u, (clT c9)[j]? = some u → w9.cell? ((⟨X, 0, none⟩ : Addr).add j) = some u := fun j u hu => by
                       rw [Addr.add_lit, Nat.zero_add, cell_of hX9]; simpa using hu
                     have hb89 : base ≤ w9.heap.size := by have := HW.out.2.1; have := HD.out.1.size; have := hg8.size; have := hb9.size; omega
                     obtain ⟨v', w10, hr, ho10, hg10⟩ := sr.app_one w9 base (.slice lp m lc) cs c9 ⟨X, 0, none⟩ hown9 hcells (by have := HL.out.2.1; omega) hb89
                     have hwh := sr_where w9 base (.slice lp m lc) cs c9 ⟨X, 0, none⟩ hown9 hcells (by have := HL.out.2.1; omega) v' w10 hr
                     have H10 : Hid (Bt w w10 P s r2 0 mb base v' (cs ++ [c9]) (l ++ [⟨x, A, it⟩]) ∧ base ≤ w10.heap.size ∧ lenV v' = m + 1 ∧ m + 1 = (cs ++ [c9]).length) := by
                       have h1 := H8.app (c := c9) (it := it) (M := W.heap.size) ⟨bcs, by rw [hc9]; exact hl1.mono (fun g hg _ => Nat.le_trans HD.out.1.size hg), hl2.mono (fun g hg _ => Nat.le_trans HD.out.1.size hg)⟩ HW.out.1.gp.size (fun x hx => (HW.out.1.own.block x hx).2) hw9 ho10 hg10 hwh (by have := H0.out.2.2; omega) (by have := HW.out.2.1; have := HD.out.1.size; have := hg8.size; omega) (by rw [H0.out.2.2]; exact Nat.le_refl _) hGP
                       rw [hc9] at h1
                       refine ⟨by rw [hc9]; exact h1, Nat.le_trans hb89 hg10.size, ?_, by rw [List.length_append, ← HL.out.2.1]; rfl⟩
                       obtain ⟨p8, c8, hv8, _⟩ := ho10.lie
                       rw [hv8]
                       show (cs ++ [c9]).length = m + 1
                       rw [List.length_append, ← HL.out.2.1]; rfl
                     have HRn : Hid _ := hr
                     have s10 : w10.cell? ⟨N2, 0, none⟩ = some (.string (tx x)) ∧ w10.cell? ⟨N2, 1, none⟩ = some (.int .i64 (A : Int)) := by
                       have h9 := hT8.bl hb9
                       have hh : w10.heap[N2]? = _ := (hg10.block N2 h9.facts.2.2.2.2 (fun e => by have := HD.out.2 _ e.symm; omega)).trans h9.h
                       exact ⟨by rw [cell_of hh]; rfl, by rw [cell_of hh]; rfl⟩
                     obtain ⟨t0, t1⟩ := s10
                     have q09 := (hT8.bl hb9).facts.1
                     have q19 := (hT8.bl hb9).facts.2.1
                     have hcl : (clT c9).toArray = #[.string (tx x), .int .i64 (A : Int), .slice bp ln bc] := by rw [hc9]; rfl
                     rw [hcl] at hw9
                     have hw9' := hw9.symm
                     have hX' : w8.heap.size = X := hX.symm
                     clear hcl hw9 hX hb9 hX9 hown9 hcells hb89 hr ho10 hg10 hwh hg8 hR8 H8 hl1 hl2 hln hc9 hT8)
                  | (refine step_append_run rfl (.tmp 21) (.tmp 29) 22 22 rfl _ _ rfl rfl _ _ HRn.out ?_))
              have HQ8 : Hid (preT (l ++ [⟨x, A, it⟩]) (typs nb s.size n r2) = q) := hq8.symm
              clear cB hq8 g0 g1 z0 z1 g0d g1d q0 q1 t0 t1 q09 q19 HRn
              go_wp2
              refine ⟨⟨cs ++ [c9], _, n, r2, by rw [← H10.out.2.2.2]; omega, H10.out.1, H10.out.2.1, HQ8.out⟩, ?_⟩
              rw [H10.out.2.2.1]
              show 8 - (m + 1) < 8 - m
              omega
      · have HQ2 : Hid (q = .error (3, t.a)) := o1 hst
        rw [wantU_no (show ¬ (hd s.size (t :: r)).t = wStruct from hst)] at cW
        clear o1 o2 o3 hst
        go_wp2_with fail
        refine cW.mono ?_
        rintro e w5 ⟨hg5, B, rfl, hB, hA⟩
        unfold thrownT
        go_wp2
        exact ⟨rfl, TsA.of_err HQ2.out (HB.out.1.gp.trans hg5) (Nat.le_trans HB.out.1.gp.size hB) hA⟩
end Go.Proofs.YtococaecjecjgaaGreatDoor.tm
/- The words that are no names: taken of package tmpl. -/
namespace Go.Proofs.YtococaecjecjgaaGreatDoor.tm
set_option linter.unusedVariables false
open Go.ChangeShapes Go.WideShapes Go.ChangeAt Go.RowKit Go.Shelf
open mem lx ex

/-- The words, with so many of those for numbers. -/
def mp : Nat → List UInt8 → Option Int
  | 0 => fun y => if y = wCheck then some (-1) else if y = wCount then some (-1) else if y = wSize then some (-1) else if y = wWhen then some (-1) else if y = wBytes then some (-1) else if y = wStruct then some (-1) else none
  | i + 1 => fun y => if y = (numW[i]?.map (·.1)).getD [] then some (i : Int) else mp i y
theorem mp_all : mp 12 = fun t => if resv t = true then some (wdV t) else none := by
  funext y
  by_cases h : y ∈ [wStruct, wBytes, wWhen, wSize, wCount, wCheck] ∨ y ∈ numW.map (·.1)
  · have key : ∀ y, y ∈ [wStruct, wBytes, wWhen, wSize, wCount, wCheck] ∨ y ∈ numW.map (·.1) → mp 12 y = if resv y = true then some (wdV y) else none := by
      intro y hy
      rcases hy with hy | hy
      · have k : ∀ y ∈ [wStruct, wBytes, wWhen, wSize, wCount, wCheck], mp 12 y = if resv y = true then some (wdV y) else none := by decide
        exact k y hy
      · have k : ∀ y ∈ numW.map (·.1), mp 12 y = if resv y = true then some (wdV y) else none := by decide
        exact k y hy
    exact key y h
  · have h1 : ∀ w ∈ [wStruct, wBytes, wWhen, wSize, wCount, wCheck], ¬ y = w := fun w hw e => h (Or.inl (by rw [e]; exact hw))
    have h2 : ∀ w ∈ numW.map (·.1), ¬ y = w := fun w hw e => h (Or.inr (by rw [e]; exact hw))
    have hr : resv y = false := by
      unfold resv
      rw [Bool.or_eq_false_iff]
      refine ⟨?_, ?_⟩
      · rw [Bool.eq_false_iff]
        intro hc
        rw [List.contains_iff_mem] at hc
        exact h1 y hc rfl
      · unfold numOf
        have : numW.find? (fun p => p.1 == y) = none := by
          rw [List.find?_eq_none]
          intro p hp
          have := h2 p.1 (List.mem_map_of_mem hp)
          simp
          exact fun e => this e.symm
        rw [this]; rfl
    rw [hr]
    have m0 : mp 0 y = none := by
      unfold mp
      rw [if_neg (h1 _ (by simp)), if_neg (h1 _ (by simp)), if_neg (h1 _ (by simp)), if_neg (h1 _ (by simp)), if_neg (h1 _ (by simp)), if_neg (h1 _ (by simp))]
    have step : ∀ i, i ≤ 12 → mp i y = none := by
      intro i
      induction i with
      | zero => intro _; exact m0
      | succ i ih =>
        intro hi
        show (if y = (numW[i]?.map (·.1)).getD [] then some (i : Int) else mp i y) = none
        rw [if_neg, ih (by omega)]
        have hlt : i < numW.length := by have : numW.length = 12 := rfl; omega
        rw [List.getElem?_eq_getElem hlt]
        exact h2 _ (List.mem_map_of_mem (List.getElem_mem hlt))
    rw [step 12 (by omega)]
    rfl
def kv6 (w w' : World) (t : ByteArray) (b : Nat) : Prop := (Instr.mapUpdate 100 (.map (some b)) (.string t) (.int .i64 (-1))).run Tryz.prog w = .ok () w'
/-- The map that is made. -/
theorem six (w : World) : ∃ w1 w2 w3 w4 w5 w6 : World, kv6 (w.alloc (.map #[] 0)) w1 ⟨#[115, 116, 114, 117, 99, 116]⟩ w.heap.size ∧ kv6 w1 w2 ⟨#[98, 121, 116, 101, 115]⟩ w.heap.size ∧ kv6 w2 w3 ⟨#[119, 104, 101, 110]⟩ w.heap.size ∧ kv6 w3 w4 ⟨#[115, 105, 122, 101]⟩ w.heap.size ∧ kv6 w4 w5 ⟨#[99, 111, 117, 110, 116]⟩ w.heap.size ∧ kv6 w5 w6 ⟨#[99, 104, 101, 99, 107]⟩ w.heap.size ∧
    Bl w w6 ∧ Om w6 w.heap.size (mp 0) 6 := by
  have hr : R64 (-1) := by unfold R64; omega
  obtain ⟨w1, r1, o1, g1⟩ := (Om.made w).put ⟨#[115, 116, 114, 117, 99, 116]⟩ (-1) (by decide) hr (by omega)
  obtain ⟨w2, r2, o2, g2⟩ := o1.put ⟨#[98, 121, 116, 101, 115]⟩ (-1) (by decide) hr (by omega)
  obtain ⟨w3, r3, o3, g3⟩ := o2.put ⟨#[119, 104, 101, 110]⟩ (-1) (by decide) hr (by omega)
  obtain ⟨w4, r4, o4, g4⟩ := o3.put ⟨#[115, 105, 122, 101]⟩ (-1) (by decide) hr (by omega)
  obtain ⟨w5, r5, o5, g5⟩ := o4.put ⟨#[99, 111, 117, 110, 116]⟩ (-1) (by decide) hr (by omega)
  obtain ⟨w6, r6, o6, g6⟩ := o5.put ⟨#[99, 104, 101, 99, 107]⟩ (-1) (by decide) hr (by omega)
  refine ⟨w1, w2, w3, w4, w5, w6, r1, r2, r3, r4, r5, r6, ?_, o6⟩
  have b0 : Bl w (w.alloc (.map #[] 0)) := (Bl.refl w).alloc _
  have ne : ∀ k, some w.heap.size = some k → w.heap.size ≤ k := fun k hk => by injection hk with hk; omega
  exact bl_grown (bl_grown (bl_grown (bl_grown (bl_grown (bl_grown b0 g1 ne) g2 ne) g3 ne) g4 ne) g5 ne) g6 ne
theorem info48 : (Tryz.prog.info? 177).map (·.size) = some nuL.length := by kernel_rfl
def numV (p : List UInt8 × Nat × Nat × Bool) : Value := .agg #[.string (tx p.1), .int .i64 (p.2.1 : Int), .int .i64 (p.2.2.1 : Int), .bool p.2.2.2]
theorem run_num (w : World) (j : Nat) (p : List UInt8 × Nat × Nat × Bool) (h : numW[j]? = some p) : (Instr.index 177 (.agg nuL.toArray) (.int .i64 (j : Int))).run Tryz.prog w = .ok (numV p) w := by
  rcases j with _ | _ | _ | _ | _ | _ | _ | _ | _ | _ | _ | _ | j
  all_goals first | (obtain rfl := Option.some.inj h; kernel_rfl) | exact absurd h (by simp [numW])
/-- What taken answers. -/
def TkA (w : World) (e : Ending) (w' : World) : Prop := ∃ b, e = .returned (.map (some b)) ∧ w.heap.size ≤ b ∧ b < w'.heap.size ∧ Wds w' b ∧ Bl w w'
theorem om_lt {w : World} {b c : Nat} {f : List UInt8 → Option Int} (h : Om w b f c) : b < w.heap.size := by
  obtain ⟨D, h1, _⟩ := h
  exact h1.lt
set_option maxRecDepth 10000 in
set_option maxHeartbeats 2000000 in
theorem taken_at (w : World) (hG : Gt w) : Calls Tryz.prog 59 #[] w fun e w' => TkA w e w' := by
  have hmm : ∀ w, (Instr.makeMap 100 none).run Tryz.prog w = .ok (.map (some w.heap.size)) (w.alloc (.map #[] 0)) := fun w => by kernel_rfl
  obtain ⟨w1, w2, w3, w4, w5, w6, r1, r2, r3, r4, r5, r6, hb6, o6⟩ := six w
  unfold kv6 at r1 r2 r3 r4 r5 r6
  have hR : Hid (w6.rangeAt 0 0 nuL) := (hG.bl hb6).nu
  obtain ⟨b, hb⟩ : ∃ b, b = w.heap.size := ⟨_, rfl⟩
  rw [← hb] at o6
  have H6 : Hid (Om w6 b (mp 0) 6 ∧ Bl w w6 ∧ b = w.heap.size) := ⟨o6, hb6, hb⟩
  clear o6 hb6 hb hG
  go_enter Tryz.func59, Tryz.ntmps59
  go_upto_region 2 with fail
  rw [← H6.out.2.2]
  clear r1 r2 r3 r4 r5 r6 hmm
  refine wp_region_lit ?_
  refine wpList_load_mid rfl 177 _ rfl 0 0 rfl nuL _ hR.out Tryz.underlying177 rfl info48 ?_
  generalize hAV : Value.agg nuL.toArray = AV
  have HAV : Hid (Value.agg nuL.toArray = AV) := hAV
  clear hAV hR
  go_wp2
  go_loopw [7] (fun i wr => ∃ j : Nat, j ≤ 12 ∧ i = .int .i64 (j : Int) ∧ Hid (Om wr b (mp j) (6 + j) ∧ Bl w wr)) (fun i _ => 12 - (intOf i).toNat)
  case atStart => exact ⟨0, by omega, rfl, H6.out.1, H6.out.2.1⟩
  case round =>
    obtain ⟨j, hj, rfl, HB⟩ := hrel
    by_cases h12 : j < 12
    · have d1 : decide ((j : Int) < 12) = true := decide_eq_true (by omega)
      obtain ⟨p, hp⟩ : ∃ p, numW[j]? = some p := ⟨_, List.getElem?_eq_getElem (show j < numW.length from h12)⟩
      have hix := fun w => run_num w j p hp
      rw [HAV.out] at hix
      obtain ⟨w7, hw7⟩ : ∃ w7, w7 = wr.alloc (.cells #[.string (tx p.1), .int .i64 (p.2.1 : Int), .int .i64 (p.2.2.1 : Int), .bool p.2.2.2] 176) := ⟨_, rfl⟩
      have hb7 : Bl wr w7 := by rw [hw7]; exact (Bl.refl _).alloc _
      obtain ⟨N, hN⟩ : ∃ N, N = wr.heap.size := ⟨_, rfl⟩
      have h7 : w7.heap[N]? = some (.cells #[.string (tx p.1), .int .i64 (p.2.1 : Int), .int .i64 (p.2.2.1 : Int), .bool p.2.2.2] 176 (0, 0)) := by rw [hw7, hN]; exact new_at _ _
      have g0 : w7.cell? ⟨N, 0, none⟩ = some (.string (tx p.1)) := by rw [cell_of h7]; rfl
      have hNs := lt_of_heap h7
      have o7 := HB.out.1.step (row := none) ⟨hb7.os, hb7.tape, hb7.output, hb7.size, fun k hk _ => Below.block hb7 k hk⟩ (by simp)
      have hlen : (tx p.1).size ≤ 5000 := by
        rw [tx_size]
        have key : ∀ p ∈ numW, p.1.length ≤ 5000 := by decide
        exact key p (List.mem_of_getElem? hp)
      obtain ⟨w8, r8, o8, g8⟩ := o7.put (tx p.1) (j : Int) hlen (by unfold R64; omega) (by omega)
      have H8 : Hid (Om w8 b (mp (j + 1)) (6 + (j + 1)) ∧ Bl w w8) := by
        refine ⟨?_, bl_grown (HB.out.2.trans hb7) g8 (fun k hk => by injection hk with hk; have := H6.out.2.2; omega)⟩
        have e1 : (tx p.1).data.toList = p.1 := L_tx _
        rw [e1] at o8
        have e2 : mp (j + 1) = fun y => if y = p.1 then some (j : Int) else mp j y := by
          show (fun y => if y = (numW[j]?.map (·.1)).getD [] then some (j : Int) else mp j y) = _
          rw [hp]; rfl
        rw [e2]
        exact o8
      unfold numV at hix
      clear hp h7 hb7 o7 hlen o8 g8
      generalize tx p.1 = S at *
      generalize p.2.1 = p1 at *
      generalize p.2.2.1 = p2 at *
      generalize p.2.2.2 = p3 at *
      go_upto_region 5 with fail
      rw [← hw7, ← hN]
      clear hw7 hN
      go_wp2
      go_roundw
      case rel => exact ⟨j + 1, by omega, by go_num, H8.out⟩
      case measure => simp [intOf]; omega
    · obtain rfl : j = 12 := by omega
      have HF := HB.out
      rw [mp_all] at HF
      have HF' : Hid (Om wr b (fun t => if resv t = true then some (wdV t) else none) (6 + 12) ∧ Bl w wr) := HF
      clear HF
      go_wp2
      go_ret
      exact ⟨b, rfl, by have := H6.out.2.2; omega, om_lt HF'.out.1, ⟨_, HF'.out.1⟩, HF'.out.2⟩
end Go.Proofs.YtococaecjecjgaaGreatDoor.tm
/- Parse of package tmpl. -/
namespace Go.Proofs.YtococaecjecjgaaGreatDoor.tm
set_option linter.unusedVariables false
open Go.ChangeShapes Go.WideShapes Go.ChangeAt Go.RowKit Go.Shelf
open mem lx ex

theorem tcatch_idle (p q : Addr) (w : World) :
    CallsD Tryz.prog 58 #[.pointer (some p), .pointer (some q)] .returning w fun e u' w' => e = .returned (.tuple #[]) ∧ u' = .returning ∧ Bl w w' := by
  have hta : ∀ w : World, (Instr.typeAssert Value.nilIface 20 124 true).run Tryz.prog w = .ok (.tuple #[.agg #[.nilIface], .bool false]) w := fun _ => by kernel_rfl
  refine callsD_of_wpS Tryz.func58 rfl fun c₀ cs hu => ?_
  apply wpS_seq
  apply wpS_region
  simp [wpOpsS, go_sem, recoverD, hu, Tryz.ntmps58, Exit.thenS, hta]
  apply wpS_seq
  apply wpS_region
  simp [wpOpsS, go_sem, Exit.thenS]
  refine wpS_cond (t := false) (by simp [Act.eval, Array.replicate]) ?_
  simp only [Bool.false_eq_true, if_false]
  refine wpS_of_wp (wp_skip ?_)
  cases c₀
  simp_all [bodyPostS, results, Tryz.results58]
  exact (Bl.refl _).alloc _
/-- Parse's variables. -/
structure PvT (w wr : World) (N : Nat) (v e : Value) : Prop where
  v1 : Vr wr N v 22
  v2 : Vr wr (N + 1) e 34
  bl : Bl w wr
  n : N = w.heap.size
theorem PvT.step {w wr w' : World} {N : Nat} {v e : Value} (h : PvT w wr N v e) (hb : Bl wr w') : PvT w w' N v e := ⟨h.v1.step hb, h.v2.step hb, h.bl.trans hb, h.n⟩
theorem PvT.gp {P : Nat} {w wr w' : World} {N : Nat} {v e : Value} (h : PvT w wr N v e) (hg : Gp P wr w') (hP : N + 1 < P) : PvT w w' N v e :=
  ⟨Vr.gp h.v1 hg (by omega), Vr.gp h.v2 hg (by omega), hg.below h.bl (by have := h.n; omega), h.n⟩
theorem PvT.set1 {w wr : World} {N : Nat} {v e : Value} (h : PvT w wr N v e) (x : Value) : PvT w (wr.setCell ⟨N, 0, none⟩ x) N x e :=
  ⟨h.v1.set _, h.v2.set_other (by omega) _, h.bl.setCell (by show w.heap.size ≤ N; have := h.n; omega) _, h.n⟩
theorem PvT.set2 {w wr : World} {N : Nat} {v e : Value} (h : PvT w wr N v e) (x : Value) : PvT w (wr.setCell ⟨N + 1, 0, none⟩ x) N v x :=
  ⟨h.v1.set_other (by omega) _, h.v2.set _, h.bl.setCell (by show w.heap.size ≤ N + 1; have := h.n; omega) _, h.n⟩
theorem PvT.new (w : World) : PvT w ((w.alloc (.cells #[.slice none 0 0] 22)).alloc (.cells #[.nilIface] 34)) w.heap.size (.slice none 0 0) .nilIface := by
  refine ⟨(Vr.new w _ _).step ((Bl.refl _).alloc _), ?_, ((Bl.refl _).alloc _).alloc _, rfl⟩
  have := Vr.new (w.alloc (.cells #[.slice none 0 0] 22)) .nilIface 34
  simpa using this
theorem AtX.bl {w w' : World} {B : Nat} {c p : Int} (h : AtX w B c p) (hb : Bl w w') : AtX w' B c p := by
  unfold AtX at h ⊢
  rw [Below.block hb B (lt_of_heap h)]
  exact h
def thrV (B : Nat) : Value := .iface 124 (.agg #[.iface 113 (.pointer (some ⟨B, 0, none⟩))])
def atV (B : Nat) : Value := .iface 113 (.pointer (some ⟨B, 0, none⟩))
theorem tcatch_thrown (N B : Nat) (w0 w : World) (v e0 : Value) (c p : Int) (h : PvT w0 w N v e0) (hA : AtX w B c p) (hB : N + 1 < B) :
    CallsD Tryz.prog 58 #[.pointer (some ⟨N, 0, none⟩), .pointer (some ⟨N + 1, 0, none⟩)] (.panicking [{ v := thrV B, recovered := false }]) w fun e u' w' =>
      e = .returned (.tuple #[]) ∧ u' = .panicking [{ v := thrV B, recovered := true }] ∧ PvT w0 w' N (.slice none 0 0) (atV B) ∧ AtX w' B c p := by
  have hta : ∀ w : World, (Instr.typeAssert (thrV B) 20 124 true).run Tryz.prog w = .ok (.tuple #[.agg #[.iface 113 (.pointer (some ⟨B, 0, none⟩))], .bool true]) w := fun _ => by kernel_rfl
  refine callsD_of_wpS Tryz.func58 rfl fun c₀ cs hu => ?_
  apply wpS_seq
  apply wpS_region
  simp [wpOpsS, go_sem, recoverD, hu, Tryz.ntmps58, Exit.thenS, hta]
  apply wpS_seq
  apply wpS_region
  simp [wpOpsS, go_sem, Exit.thenS]
  refine wpS_cond (t := true) (by simp [Act.eval, Array.replicate]) ?_
  simp only [if_true]
  have hM := h.v2.lt
  obtain ⟨M, hMe⟩ : ∃ M, M = w.heap.size := ⟨_, rfl⟩
  rw [← hMe] at hM ⊢
  obtain ⟨w1, hw1⟩ : ∃ w1, w1 = w.alloc (.cells #[.iface 113 (.pointer (some ⟨B, 0, none⟩))] 124) := ⟨_, rfl⟩
  have hb1 : Bl w w1 := by rw [hw1]; exact (Bl.refl _).alloc _
  have hcM : w1.cell? ⟨M, 0, none⟩ = some (.iface 113 (.pointer (some ⟨B, 0, none⟩))) := by
    have := new_at w (.cells #[.iface 113 (.pointer (some ⟨B, 0, none⟩))] 124)
    rw [hMe, hw1, cell_of this]; rfl
  have H1 : Hid (PvT w0 w1 N v e0 ∧ AtX w1 B c p) := ⟨h.step hb1, AtX.bl hA hb1⟩
  rw [← hw1]
  clear hw1 hb1 hA h hMe
  have c1 := H1.out.1.v1.cell
  have c2 := H1.out.1.v2.cell
  have f1 := H1.out.1.v1.frozen
  have f2 := H1.out.1.v2.frozen
  have hMN : ¬ M = N := by omega
  have hMN1 : ¬ M = N + 1 := by omega
  refine wpS_of_wp ?_
  refine wp_calm ?_
  go_region
  all_goals
    refine Calm.in ?_
    have H9 : PvT w0 ((w1.setCell ⟨N, 0, none⟩ (.slice none 0 0)).setCell ⟨N + 1, 0, none⟩ (atV B)).drew N (.slice none 0 0) (atV B) ∧ AtX ((w1.setCell ⟨N, 0, none⟩ (.slice none 0 0)).setCell ⟨N + 1, 0, none⟩ (atV B)).drew B c p :=
      ⟨((H1.out.1.set1 _).set2 _).step (Bl.refl _).drew, AtX.bl ((H1.out.2.set (by omega)).set (by omega)) (Bl.refl _).drew⟩
    unfold atV at H9
    generalize ((w1.setCell ⟨N, 0, none⟩ (.slice none 0 0)).setCell ⟨N + 1, 0, none⟩ (.iface 113 (.pointer (some ⟨B, 0, none⟩)))).drew = w9 at H9 ⊢
    cases c₀
    simp_all [bodyPostS, results, Tryz.results58, atV]
end Go.Proofs.YtococaecjecjgaaGreatDoor.tm
/- A reader of texts: structs by their names; what is thrown is caught. -/
namespace Go.Proofs.YtococaecjecjgaaGreatDoor.ly
set_option linter.unusedVariables false
open Go.ChangeShapes Go.WideShapes Go.ChangeAt Go.RowKit
open mem lx ex tm num

theorem fnd_snoc (l : List Ty) (t : Ty) (x : List UInt8) : fnd (l ++ [t]) x = if t.nm = x then some t.l else fnd l x := by
  induction l with
  | nil => rfl
  | cons u r ih =>
    rw [List.cons_append, fnd, ih, fnd]
    by_cases h : t.nm = x
    · rw [if_pos h, if_pos h]
    · rw [if_neg h, if_neg h]
/-- Structs by their names, so many at the most. -/
def TyN (w : World) (mb : Nat) (l : List Ty) (n : Nat) : Prop := ∃ f, Sm w mb f n ∧ ∀ x, x.length ≤ maxLen → (f x = none ∧ fnd l x = none) ∨
  ∃ (nm : List UInt8) (a : Nat) (p : Option Addr) (k c : Nat) (i : Its) (cs : List C), f x = some (.agg #[.string (tx nm), .int .i64 (a : Int), .slice p k c]) ∧ fnd l x = some i ∧ ir.Lie w (fun g => g < mb) p k c cs ∧ Rep w (fun g => g < mb) i cs
theorem TyN.bl {w w' : World} {mb n : Nat} {l : List Ty} (h : TyN w mb l n) (hb : Bl w w') : TyN w' mb l n := by
  obtain ⟨f, h1, h2⟩ := h
  refine ⟨f, h1.same (Below.block hb mb h1.lt), fun x hx' => ?_⟩
  rcases h2 x hx' with h | ⟨nm, a, p, k, c, i, cs, g1, g2, g3, g4⟩
  · exact Or.inl h
  · exact Or.inr ⟨nm, a, p, k, c, i, cs, g1, g2, g3.keep (fun g _ hg => Below.block hb g hg) hb.size, g4.keep (fun g _ hg => Below.block hb g hg) hb.size (Kx.bl hb)⟩
theorem TyN.put {w : World} {mb n : Nat} {l : List Ty} (h : TyN w mb l n) (t : Ty) {p : Option Addr} {k c : Nat} {cs : List C} (hnm : t.nm.length ≤ maxLen) (hl : ir.Lie w (fun g => g < mb) p k c cs) (hr : Rep w (fun g => g < mb) t.l cs) (hn : n ≤ 5000) :
    ∃ w', (Instr.mapUpdate 64 (.map (some mb)) (.string (tx t.nm)) (.agg #[.string (tx t.nm), .int .i64 (t.at_ : Int), .slice p k c])).run Tryz.prog w = .ok () w' ∧ TyN w' mb (l ++ [t]) (n + 1) ∧ Gp mb w w' := by
  obtain ⟨f, h1, h2⟩ := h
  obtain ⟨w', hrun, h3, hg⟩ := h1.put (tx t.nm) (.agg #[.string (tx t.nm), .int .i64 (t.at_ : Int), .slice p k c]) (by rw [tx_size]; exact hnm) hn
  have hgp : Gp mb w w' := ⟨hg.os, hg.tape, hg.output, hg.size, fun j h1 h2 => hg.block j h1 (fun e => h2 (by injection e))⟩
  have hx : Kx w w' := fun b cs' hb => (hgp.block b (lt_of_heap hb) (fun e => by
    subst e
    obtain ⟨D, ⟨es, clock, q1, _⟩, _⟩ := h1
    rw [hb] at q1; cases q1)).trans hb
  refine ⟨w', hrun, ⟨_, h3, fun x hx' => ?_⟩, hgp⟩
  have e : (tx t.nm).data.toList = t.nm := L_tx t.nm
  rw [fnd_snoc, e]
  have keepL : ∀ {p k c} {cs : List C}, ir.Lie w (fun g => g < mb) p k c cs → ir.Lie w' (fun g => g < mb) p k c cs := fun h => h.keep (fun g hg' hs => hgp.block g hs (by omega)) hgp.size
  have keepR : ∀ {i : Its} {cs : List C}, Rep w (fun g => g < mb) i cs → Rep w' (fun g => g < mb) i cs := fun h => h.keep (fun g hg' hs => hgp.block g hs (by omega)) hgp.size hx
  by_cases hxe : x = t.nm
  · rw [if_pos hxe, if_pos hxe.symm]
    exact Or.inr ⟨t.nm, t.at_, p, k, c, t.l, cs, rfl, rfl, keepL hl, keepR hr⟩
  · rw [if_neg hxe, if_neg (fun e => hxe e.symm)]
    rcases h2 x hx' with g | ⟨nm, a, p, k, c, i, cs, g1, g2, g3, g4⟩
    · exact Or.inl g
    · exact Or.inr ⟨nm, a, p, k, c, i, cs, g1, g2, keepL g3, keepR g4⟩
theorem RepT.at {w : World} {ok : Nat → Prop} {l : List Ty} : ∀ {cs : List CT} {j : Nat}, RepT w ok l cs → j < l.length → ∃ t c, l[j]? = some t ∧ cs[j]? = some c ∧ c.nm = t.nm ∧ c.a = t.at_ ∧ ∃ cs2, ir.Lie w ok c.p c.n c.c cs2 ∧ Rep w ok t.l cs2 := by
  induction l with
  | nil => intro cs j _ hj; simp at hj
  | cons t r ih =>
    intro cs j h hj
    obtain ⟨c, rr, rfl, h1, h2, h3, h4⟩ := h
    cases j with
    | zero => exact ⟨t, c, rfl, rfl, h1, h2, h3⟩
    | succ j =>
      obtain ⟨t', c', g1, g2, g3⟩ := ih h4 (by simpa using hj)
      exact ⟨t', c', by simpa using g1, by simpa using g2, g3⟩
set_option maxRecDepth 10000 in
set_option maxHeartbeats 2000000 in
theorem named_at (w : World) (ok : Nat → Prop) (v : Value) (l : List Ty) (h : IsTs w ok v l) (hl8 : l.length ≤ 8) (hnm : ∀ t ∈ l, t.nm.length ≤ maxLen) :
    Calls Tryz.prog 24 #[v] w fun e w' => e = .returned (.map (some w.heap.size)) ∧ Bl w w' ∧ TyM w' w.heap.size l ∧ w.heap.size < w'.heap.size := by
  have hmm : ∀ w, (Instr.makeMap 64 none).run Tryz.prog w = .ok (.map (some w.heap.size)) (w.alloc (.map #[] 0)) := fun w => by kernel_rfl
  obtain ⟨p, c, cs, rfl, hlie, hrep⟩ := h
  obtain ⟨mb, hmb⟩ : ∃ mb, mb = w.heap.size := ⟨_, rfl⟩
  rw [← hmb]
  obtain ⟨w1, hw1⟩ : ∃ w1, w1 = w.alloc (.map #[] 0) := ⟨_, rfl⟩
  have hb1 : Bl w w1 := by rw [hw1]; exact (Bl.refl _).alloc _
  have ht1 : TyN w1 mb [] 0 := by
    rw [hw1, hmb]
    exact ⟨_, Sm.made w, fun x _ => Or.inl ⟨rfl, rfl⟩⟩
  obtain ⟨n, hn⟩ : ∃ n, n = l.length := ⟨_, rfl⟩
  rw [← hn] at hlie hl8 ⊢
  have H0 : Hid (sr.Lie w ok p n c cs ∧ RepT w ok l cs ∧ n = l.length ∧ (∀ t ∈ l, t.nm.length ≤ maxLen) ∧ Bl w w1 ∧ mb = w.heap.size ∧ TyN w1 mb [] 0) := ⟨hlie, hrep, hn, hnm, hb1, hmb, ht1⟩
  clear hlie hrep hnm hb1 ht1 hn
  go_enter Tryz.func24, Tryz.ntmps24
  go_wp2
  rw [← hw1, ← hmb]
  clear hw1 hmb
  go_loopw [9] (fun v9 wr => ∃ j : Nat, v9 = .int .i64 (j : Int) ∧ j ≤ n ∧ Hid (Gp mb w wr ∧ TyN wr mb (l.take j) j ∧ mb < wr.heap.size)) (fun v9 _ => n - (intOf v9).toNat)
  case atStart => exact ⟨0, rfl, Nat.zero_le _, Gp.bl H0.out.2.2.2.2.1, H0.out.2.2.2.2.2.2, by obtain ⟨f, h, _⟩ := H0.out.2.2.2.2.2.2; exact h.lt⟩
  case round =>
    obtain ⟨j, rfl, hj, HM⟩ := hrel
    by_cases hlt : j < n
    · obtain ⟨t, ct, e1, e2, e3, e4, cs2, e5, e6⟩ := RepT.at H0.out.2.1 (j := j) (by have := H0.out.2.2.1; omega)
      obtain ⟨_, hnc, hlc⟩ := H0.out.1
      have hmbw := H0.out.2.2.2.2.2.1
      obtain ⟨g, rfl, hgs, hcell⟩ : ∃ g, p = some ⟨g, 0, none⟩ ∧ g < w.heap.size ∧ ∀ j u, (sr.rowE cs)[j]? = some u → w.cell? ⟨g, j, none⟩ = some u := by
        rcases hlc with hlc | ⟨g, g1, _, g3, g4⟩
        · rw [hlc] at e2; cases e2
        · exact ⟨g, g1, g3, g4⟩
      have hcj : ∀ i u, (clT ct)[i]? = some u → wr.cell? ⟨g, j * 3 + i, none⟩ = some u := fun i u hu => by
        have hi : i < 3 := by
          have := (List.getElem?_eq_some_iff.1 hu).1
          rw [sr.cl_len] at this
          exact this
        obtain ⟨hjl, e⟩ := List.getElem?_eq_some_iff.1 e2
        have h9 := hcell _ _ (by rw [sr.rowE_get cs j hjl i hi, e]; exact hu)
        unfold World.cell? at h9 ⊢
        dsimp only at h9 ⊢
        rw [HM.out.1.block g hgs (by omega)]
        exact h9
      have f0 : wr.cell? ⟨g, j * 3, none⟩ = some (.string (tx ct.nm)) := hcj 0 _ rfl
      have f1 : wr.cell? ⟨g, j * 3 + 1, none⟩ = some (.int .i64 (ct.a : Int)) := hcj 1 _ rfl
      have f2 : wr.cell? ⟨g, j * 3 + 2, none⟩ = some (.slice ct.p ct.n ct.c) := hcj 2 _ rfl
      have hgr : g < wr.heap.size := by have := HM.out.1.size; omega
      rw [e3] at f0
      rw [e4] at f1
      obtain ⟨w3, hw3⟩ : ∃ w3, w3 = wr.alloc (.cells #[.string (tx t.nm), .int .i64 (t.at_ : Int), .slice ct.p ct.n ct.c] 96) := ⟨_, rfl⟩
      have hb3 : Bl wr w3 := by rw [hw3]; exact (Bl.refl _).alloc _
      obtain ⟨Xb, hXb⟩ : ∃ Xb, Xb = wr.heap.size := ⟨_, rfl⟩
      have hv3 : w3.heap[Xb]? = some (.cells #[.string (tx t.nm), .int .i64 (t.at_ : Int), .slice ct.p ct.n ct.c] 96 (0, 0)) := by rw [hw3, hXb]; exact new_at _ _
      have x0 : w3.cell? ⟨Xb, 0, none⟩ = some (.string (tx t.nm)) := by rw [cell_of hv3]; rfl
      have x1 : w3.cell? ⟨Xb, 1, none⟩ = some (.int .i64 (t.at_ : Int)) := by rw [cell_of hv3]; rfl
      have x2 : w3.cell? ⟨Xb, 2, none⟩ = some (.slice ct.p ct.n ct.c) := by rw [cell_of hv3]; rfl
      have hXs := lt_of_heap hv3
      have hgw3 : Gp mb w w3 := HM.out.1.trans (Gp.bl hb3)
      have hkx : Kx w w3 := fun b cs' hb => (hgw3.block b (lt_of_heap hb) (by have := lt_of_heap hb; omega)).trans hb
      have hL3 : ir.Lie w3 (fun g => g < mb) ct.p ct.n ct.c cs2 := (e5.mono (ok' := fun g => g < mb) (fun g _ h2 => by omega)).keep (fun g h1 h2 => hgw3.block g h2 (by omega)) hgw3.size
      have hR3 : Rep w3 (fun g => g < mb) t.l cs2 := (e6.mono (ok' := fun g => g < mb) (fun g _ h2 => by omega)).keep (fun g h1 h2 => hgw3.block g h2 (by omega)) hgw3.size hkx
      have htm : t ∈ l := List.mem_of_getElem? e1
      obtain ⟨w6, hrun, hT6, hg6⟩ := (HM.out.2.1.bl hb3).put t (H0.out.2.2.2.1 t htm) hL3 hR3 (by omega)
      have htk : l.take (j + 1) = l.take j ++ [t] := by
        obtain ⟨hjl, e⟩ := List.getElem?_eq_some_iff.1 e1
        rw [List.take_succ_eq_append_getElem hjl, e]
      rw [← htk] at hT6
      have H6 : Hid (Gp mb w w6 ∧ TyN w6 mb (l.take (j + 1)) (j + 1) ∧ mb < w6.heap.size) := ⟨hgw3.trans hg6, hT6, by have := HM.out.2.2; have := hb3.size; have := hg6.size; omega⟩
      have hj1 : (0 : Int) ≤ (j : Int) := by omega
      have hj2 : (j : Int) < (n : Int) := by omega
      have hn8 : n ≤ 8 := hl8
      clear e1 e2 e3 e4 e5 e6 hnc hlc hcell hcj hb3 hv3 hgw3 hkx hL3 hR3 htm hT6 hg6 htk hgs hmbw
      go_upto_region 5 with fail
      rw [← hw3, ← hXb]
      clear hw3 hXb f0 f1 f2
      go_wp2
      go_roundw
      case rel => exact ⟨j + 1, by go_num, by omega, H6.out⟩
      case measure => simp [intOf]; omega
    · obtain rfl : j = n := by omega
      go_wp2
      go_ret
      have e : l.take j = l := by rw [H0.out.2.2.1, List.take_length]
      have hT := HM.out.2.1
      rw [e] at hT
      obtain ⟨f, q1, q2⟩ := hT
      exact ⟨rfl, ⟨HM.out.1.os, HM.out.1.tape, HM.out.1.output, HM.out.1.size, fun k hk => HM.out.1.block k hk (by have := H0.out.2.2.2.2.2.1; omega)⟩, ⟨f, j, q1, q2⟩, HM.out.2.2⟩
end Go.Proofs.YtococaecjecjgaaGreatDoor.ly
/- A row of numbers that grows: what append makes of it, and what lies in it then; two rows that lie apart. -/
namespace Go.Proofs.YtococaecjecjgaaGreatDoor.rows
set_option linter.unusedVariables false
open Go.ChangeShapes Go.WideShapes Go.ChangeAt Go.RowKit
open mem

def rowI (l : List Int) : List Value := l.map (Value.int .i64)
theorem rowI_get (l : List Int) (k : Nat) (h : k < l.length) : (rowI l)[k]? = some (.int .i64 (l.getD k 0)) := by simp [rowI, h]
theorem infoI : (Tryz.prog.info? 3).map (fun i => (i.zero, i.size, i.bytes)) = some (some (.int .i64 0), 1, 8) := by kernel_rfl
theorem infoI' : ∃ i, Tryz.prog.info? 3 = some i ∧ i.zero = some (.int .i64 0) ∧ i.size = 1 ∧ i.bytes = 8 := by
  obtain ⟨i, h1, h2⟩ := Option.map_eq_some_iff.1 infoI
  simp only [Prod.mk.injEq] at h2
  exact ⟨i, h1, h2.1, h2.2.1, h2.2.2⟩
/-- A row of the call's own that holds just these numbers. -/
def Own (w : World) (base : Nat) (v : Value) (l : List Int) : Prop := w.ownsRow base 3 1 v l.length (rowI l)
theorem Own.nil (w : World) (base : Nat) : Own w base (.slice none 0 0) [] := World.ownsRow_nil _ _ _ _
theorem Own.shape {w : World} {base : Nat} {v : Value} {l : List Int} (h : Own w base v l) : (v = .slice none 0 0 ∧ l = []) ∨
    ∃ g cap, v = .slice (some ⟨g, 0, none⟩) l.length cap ∧ base ≤ g ∧ g < w.heap.size ∧ l.length ≤ cap ∧ cap ≤ maxLen ∧ ∀ k, k < l.length → w.cell? ⟨g, k, none⟩ = some (.int .i64 (l.getD k 0)) := by
  rcases h.2 with ⟨h1, h2⟩ | ⟨g, cap, cur, rfl, hbg, hg, hnc, hcm, hcs, htake⟩
  · exact Or.inl ⟨h1, List.eq_nil_of_length_eq_zero h2⟩
  · refine Or.inr ⟨g, cap, rfl, hbg, ?_, hnc, hcm, fun k hk => ?_⟩
    · rcases Nat.lt_or_ge g w.heap.size with h | h
      · exact h
      · rw [Array.getElem?_eq_none h] at hg; cases hg
    · have := rowI_get l k hk
      rw [← htake, Nat.mul_one, List.getElem?_take, if_pos hk] at this
      simp only [World.cell?, hg]
      simpa using this
theorem Own.block {w : World} {base : Nat} {v : Value} {l : List Int} (h : Own w base v l) : ∀ k, v.ownBlock = some k → base ≤ k ∧ k < w.heap.size := World.ownsRow.lt h
theorem Own.step {w w' : World} {base : Nat} {v : Value} {l : List Int} (h : Own w base v l) (hb : Bl w w') : Own w' base v l := by
  refine ⟨h.1, ?_⟩
  rcases h.2 with h | ⟨g, cap, cur, h1, h2, h3, h4⟩
  · exact Or.inl h
  · refine Or.inr ⟨g, cap, cur, h1, h2, ?_, h4⟩
    have hg : g < w.heap.size := by
      rcases Nat.lt_or_ge g w.heap.size with h | h
      · exact h
      · rw [Array.getElem?_eq_none h] at h3; cases h3
    rw [Below.block hb g hg]
    exact h3
theorem Own.kept {w w' : World} {base : Nat} {v : Value} {l : List Int} {row : Option Nat} (h : Own w base v l) (hg : w.grownBy w' row) (hne : ∀ k, v.ownBlock = some k → row ≠ some k) : Own w' base v l :=
  World.ownsRow.kept h hg (by
    cases e : v.ownBlock with
    | none => exact Or.inl rfl
    | some k => exact Or.inr (fun e' => hne k e e'.symm))
theorem bl_grown {w0 w w' : World} {row : Option Nat} (h : Bl w0 w) (hg : w.grownBy w' row) (hrow : ∀ k, row = some k → w0.heap.size ≤ k) : Bl w0 w' := by
  refine ⟨hg.os.trans h.os, hg.tape.trans h.tape, hg.output.trans h.output, Nat.le_trans h.size hg.size, fun k hk => ?_⟩
  rw [hg.block k (Nat.lt_of_lt_of_le hk h.size) (fun e => by have := hrow k e.symm; omega)]
  exact h.block k hk
theorem app_one (w : World) (base : Nat) (v : Value) (l : List Int) (z : Int) (X : Nat) (hown : Own w base v l) (hX : w.cell? ⟨X, 0, none⟩ = some (.int .i64 z)) (hn : l.length ≤ 5000) (hb : base ≤ w.heap.size) :
    ∃ v' w', (Builtin.append_ #[198, 198] 198 #[v, .slice (some ⟨X, 0, none⟩) 1 1]).run Tryz.prog w = .ok v' w' ∧ Own w' base v' (l ++ [z]) ∧ w.grownBy w' v.ownBlock ∧ (v'.ownBlock = v.ownBlock ∨ v'.ownBlock = some w.heap.size) := by
  obtain ⟨i, hi, hz, h1, h2⟩ := infoI'
  have hnews : ∀ j u, [Value.int .i64 z][j]? = some u → w.cell? ((⟨X, 0, none⟩ : Addr).add j) = some u := fun j u hu => by
    cases j with
    | zero => simp at hu; subst hu; simpa [Addr.add] using hX
    | succ j => simp at hu
  obtain ⟨v', w', hr, ho, hg, _⟩ := run_append_own (P := Tryz.prog) w base 198 198 3 i (.int .i64 0) 1 8 Tryz.underlying198 hi hz h1 h2 rfl (by decide) v l.length (rowI l) hown
    ⟨X, 0, none⟩ 1 1 [.int .i64 z] rfl hnews (fun u hu => by simp at hu; subst hu; rfl) (by simp [maxLen]; omega) (by omega) hb
  refine ⟨v', w', hr, ?_, hg, ?_⟩
  · have e : rowI (l ++ [z]) = rowI l ++ [.int .i64 z] := by simp [rowI]
    unfold Own
    rw [e, List.length_append]
    exact ho
  · rcases hown.2 with ⟨rfl, hl0⟩ | ⟨g, cap, cur, rfl, hbg, hg, hnc, hcm, hcs, htake⟩
    · have hr2 := run_append_nil (P := Tryz.prog) w 198 198 3 i (.int .i64 0) Tryz.underlying198 hi hz ⟨X, 0, none⟩ 1 1 [.int .i64 z] (by rw [h1]; rfl) hnews (by omega) (by omega) (by rw [h2]; omega)
      rw [hr2] at hr
      injection hr with e1 _
      exact Or.inr (by rw [← e1]; rfl)
    · by_cases hroom : l.length + 1 ≤ cap
      · have hr2 := run_append_room (P := Tryz.prog) w 198 198 3 i Tryz.underlying198 hi g l.length cap cur hg ⟨X, 0, none⟩ 1 1 [.int .i64 z] (by rw [h1]; rfl) hnews (fun u hu => by simp at hu; subst hu; rfl) hroom (by rw [h1, hcs]; simp; omega)
        rw [hr2] at hr
        injection hr with e1 _
        exact Or.inl (by rw [← e1]; rfl)
      · have holds : ∀ j u, (rowI l)[j]? = some u → w.cell? ((⟨g, 0, none⟩ : Addr).add j) = some u := World.ownsRow.cells hown (g := g) rfl
        have hr2 := run_append_grow (P := Tryz.prog) w 198 198 3 i (.int .i64 0) Tryz.underlying198 hi hz ⟨g, 0, none⟩ l.length cap (rowI l) (by rw [h1]; exact hown.1) holds ⟨X, 0, none⟩ 1 1 [.int .i64 z] (by rw [h1]; rfl) hnews (by omega) (by omega) (growslice_fits (by omega) (by rw [h2]; omega))
        rw [hr2] at hr
        injection hr with e1 _
        exact Or.inr (by rw [← e1]; rfl)
/-- Two rows of the call's own that lie apart. -/
structure Own2 (w : World) (base : Nat) (v1 : Value) (l1 : List Int) (v2 : Value) (l2 : List Int) : Prop where
  a : Own w base v1 l1
  b : Own w base v2 l2
  apart : ∀ k, v1.ownBlock = some k → v2.ownBlock ≠ some k
  le : base ≤ w.heap.size
theorem Own2.step {w w' : World} {base : Nat} {v1 v2 : Value} {l1 l2 : List Int} (h : Own2 w base v1 l1 v2 l2) (hb : Bl w w') : Own2 w' base v1 l1 v2 l2 :=
  ⟨h.a.step hb, h.b.step hb, h.apart, Nat.le_trans h.le hb.size⟩
theorem Own2.alloc {w : World} {base : Nat} {v1 v2 : Value} {l1 l2 : List Int} (h : Own2 w base v1 l1 v2 l2) (o : Obj) : Own2 (w.alloc o) base v1 l1 v2 l2 := h.step ((Bl.refl w).alloc o)
theorem Own2.first {w w' : World} {base : Nat} {v1 v2 v' : Value} {l1 l2 l' : List Int} (h : Own2 w base v1 l1 v2 l2) (ho : Own w' base v' l') (hg : w.grownBy w' v1.ownBlock) (hv : v'.ownBlock = v1.ownBlock ∨ v'.ownBlock = some w.heap.size) : Own2 w' base v' l' v2 l2 := by
  refine ⟨ho, h.b.kept hg (fun k e e' => h.apart k e' e), fun k e e' => ?_, Nat.le_trans h.le hg.size⟩
  rcases hv with hv | hv
  · exact h.apart k (by rw [← hv]; exact e) e'
  · have := (h.b.block k e').2
    rw [hv] at e
    injection e with e
    omega
theorem Own2.second {w w' : World} {base : Nat} {v1 v2 v' : Value} {l1 l2 l' : List Int} (h : Own2 w base v1 l1 v2 l2) (ho : Own w' base v' l') (hg : w.grownBy w' v2.ownBlock) (hv : v'.ownBlock = v2.ownBlock ∨ v'.ownBlock = some w.heap.size) : Own2 w' base v1 l1 v' l' := by
  refine ⟨h.a.kept hg (fun k e e' => h.apart k e e'), ho, fun k e e' => ?_, Nat.le_trans h.le hg.size⟩
  rcases hv with hv | hv
  · exact h.apart k e (by rw [← hv]; exact e')
  · have := (h.a.block k e).2
    rw [hv] at e'
    injection e' with e'
    omega
end Go.Proofs.YtococaecjecjgaaGreatDoor.rows
