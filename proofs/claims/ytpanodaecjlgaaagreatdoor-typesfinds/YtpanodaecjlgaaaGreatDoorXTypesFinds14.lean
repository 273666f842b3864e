/- Texts laid together: TmF, TmT, TmG, TmH, TmI. -/
import Derived.Test.YtpanodaecjlgaaaGreatDoorXTypesFinds13
import Derived.RegionCalls
import Derived.Test.YtpanodaecjlgaaaGreatDoorXTypesFinds10
/- A reader of a template's tokens: types. -/
namespace Go.Proofs.YtpanodaecjlgaaaGreatDoor.tm
set_option linter.unusedVariables false
open Go.ChangeShapes Go.WideShapes Go.ChangeAt Go.RowKit Go.Shelf
open mem lx ex

def preT (l : List Ty) : Except (Int × Nat) (List Ty) → Except (Int × Nat) (List Ty)
  | .error e => .error e
  | .ok m => .ok (l ++ m)
theorem typs_is (en n : Nat) (l : List Ty) (t : Tk) (r : List Tk) :
    (¬ t.t = wStruct → preT l (typs nb en n (t :: r)) = .error (3, t.a)) ∧ (t.t = wStruct → n = 0 → preT l (typs nb en n (t :: r)) = .error (4, t.a)) ∧
    (t.t = wStruct → ∀ m, n = m + 1 → (∀ e, name en r = .error e → preT l (typs nb en n (t :: r)) = .error e) ∧ ∀ x r1, name en r = .ok (x, r1) →
      (∀ e, blk nb en 8 r1 = .error e → preT l (typs nb en n (t :: r)) = .error e) ∧ ∀ it r2, blk nb en 8 r1 = .ok (it, r2) →
        preT l (typs nb en n (t :: r)) = preT (l ++ [⟨x, (hd en r).a, it⟩]) (typs nb en m r2)) := by
  cases n with
  | zero =>
    rw [typs]
    exact ⟨fun h => by rw [if_neg h]; rfl, fun h _ => by rw [if_pos h]; rfl, fun h m hm => by omega⟩
  | succ n =>
    rw [typs]
    refine ⟨fun h => by rw [if_neg h]; rfl, fun h h0 => by omega, fun h m hm => ?_⟩
    obtain rfl : n = m := by omega
    rw [if_pos h]
    refine ⟨fun e he => by rw [he]; rfl, fun x r1 hx => ?_⟩
    rw [hx]
    dsimp only
    refine ⟨fun e he => by rw [he]; rfl, fun it r2 hb => ?_⟩
    rw [hb]
    dsimp only
    cases typs nb en n r2 with
    | error e => rfl
    | ok q => show Except.ok (l ++ (⟨x, (hd en r).a, it⟩ :: q)) = Except.ok ((l ++ [⟨x, (hd en r).a, it⟩]) ++ q); simp
theorem typs_end (en n : Nat) (l : List Ty) : preT l (typs nb en n []) = .ok l := by
  cases n <;> (show Except.ok (l ++ []) = _; rw [List.append_nil])
/-- The row of structs, under way. -/
structure Bt (w0 w : World) (P : Nat) (s : ByteArray) (ts : List Tk) (d mb base : Nat) (v : Value) (cs : List CT) (l : List Ty) : Prop where
  gp : Gp P w0 w
  rd : RdT w P s ts d mb
  gt : Gt w
  own : sr.Own w base v cs
  rep : RepT w (fun g => w0.heap.size ≤ g ∧ v.ownBlock ≠ some g) l cs
theorem Bt.bl {w0 w w' : World} {P : Nat} {s : ByteArray} {ts : List Tk} {d mb base : Nat} {v : Value} {cs : List CT} {l : List Ty} (h : Bt w0 w P s ts d mb base v cs l) (hb : Bl w w') : Bt w0 w' P s ts d mb base v cs l :=
  ⟨h.gp.trans (Gp.bl hb), h.rd.step hb, h.gt.bl hb, h.own.bl hb, h.rep.keep (fun g _ hg => Below.block hb g hg) hb.size (Kx.bl hb)⟩
theorem Bt.go {w0 w w' : World} {P : Nat} {s : ByteArray} {ts ts' : List Tk} {d mb base : Nat} {v : Value} {cs : List CT} {l : List Ty} (h : Bt w0 w P s ts d mb base v cs l) (hg : Gp P w w') (hr : RdT w' P s ts' d mb) (hP0 : P < w0.heap.size) (hPb : P < base) (hGP : 6 ≤ P) : Bt w0 w' P s ts' d mb base v cs l :=
  ⟨h.gp.trans hg, hr, h.gt.gp hg hGP h.rd.lt, h.own.gp hg hPb, h.rep.keep (fun g h1 hg' => hg.block g hg' (by omega)) hg.size (kx_gp h.rd hg)⟩
/-- One struct more. -/
theorem Bt.app {w0 w w6 : World} {P : Nat} {s : ByteArray} {ts : List Tk} {d mb base : Nat} {v : Value} {cs : List CT} {l : List Ty} {c : CT} {it : Its} {v' : Value} {w' : World} {M : Nat}
    (h : Bt w0 w P s ts d mb base v cs l) (hs : ∃ cs2, ir.Lie w (fun g => M ≤ g) c.p c.n c.c cs2 ∧ Rep w (fun g => M ≤ g) it cs2) (hM : w0.heap.size ≤ M) (hvM : ∀ k, v.ownBlock = some k → k < M) (hb6 : w6 = w.alloc (.cells (clT c).toArray 36))
    (ho' : sr.Own w' base v' (cs ++ [c])) (hg : w6.grownBy w' v.ownBlock) (hw : v'.ownBlock = v.ownBlock ∨ v'.ownBlock = some w6.heap.size) (hPb : P < base) (hbase : base ≤ w.heap.size) (hb0 : w0.heap.size ≤ base) (hNP : 6 ≤ P) : Bt w0 w' P s ts d mb base v' (cs ++ [c]) (l ++ [⟨c.nm, c.a, it⟩]) := by
  have hbl : Bl w w6 := by rw [hb6]; exact (Bl.refl _).alloc _
  have h6 := h.bl hbl
  have hbk : ∀ k, v.ownBlock = some k → base ≤ k ∧ k < w.heap.size := h.own.block
  have keep : ∀ k, k < w6.heap.size → v.ownBlock ≠ some k → w'.heap[k]? = w6.heap[k]? := fun k hk hne => hg.block k hk (fun e => hne e.symm)
  have hkx : Kx w6 w' := fun b cs' hb => by
    rw [keep b (lt_of_heap hb) (fun e => by
      obtain ⟨cap, hv⟩ : ∃ cap, v = .slice (some ⟨b, 0, none⟩) cs.length cap := by
        rcases h6.own.shape with ⟨rfl, _⟩ | ⟨g, cap, rfl, _⟩
        · cases e
        · have : g = b := by
            have : (Value.slice (some ⟨g, 0, none⟩) cs.length cap).ownBlock = some g := rfl
            rw [this] at e; injection e
          subst this; exact ⟨cap, rfl⟩
      have ho6 := h6.own
      rw [hv] at ho6
      obtain ⟨cur, hcur⟩ := ho6.kind
      rw [hb] at hcur
      simp at hcur)]
    exact hb
  refine ⟨?_, ?_, ?_, ho', ?_⟩
  · exact ⟨hg.os.trans h6.gp.os, hg.tape.trans h6.gp.tape, hg.output.trans h6.gp.output, Nat.le_trans h6.gp.size hg.size, fun k hk hne => (keep k (Nat.lt_of_lt_of_le hk h6.gp.size) (fun e => by have := (hbk k e).1; omega)).trans (h6.gp.block k hk hne)⟩
  · cases hv : v.ownBlock with
    | none =>
      rw [hv] at hg
      exact h6.rd.step ⟨hg.os, hg.tape, hg.output, hg.size, fun k hk => hg.block k hk (fun e => by cases e)⟩
    | some g =>
      rw [hv] at hg
      exact h6.rd.behind hg (by have := (hbk g hv).1; omega)
  · have := h6.rd.lt
    exact h6.gt.below ⟨hg.os, hg.tape, hg.output, hg.size, fun k hk => keep k (by omega) (fun e => by have := (hbk k e).1; omega)⟩
  · have hsz : w6.heap.size = w.heap.size + 1 := by rw [hb6]; simp
    have r7 : RepT w' (fun g => w0.heap.size ≤ g ∧ v'.ownBlock ≠ some g) l cs := by
      have r5 : RepT w (fun g => (w0.heap.size ≤ g ∧ v.ownBlock ≠ some g) ∧ g < w.heap.size) l cs := h.rep.mono (fun g h1 h2 => ⟨h1, h2⟩)
      have r5' : RepT w' (fun g => (w0.heap.size ≤ g ∧ v.ownBlock ≠ some g) ∧ g < w.heap.size) l cs := (r5.keep (fun g h1 hg' => Below.block hbl g hg') hbl.size (Kx.bl hbl)).keep (fun g h1 hg' => keep g hg' h1.1.2) hg.size hkx
      refine r5'.mono (fun g h1 _ => ⟨h1.1.1, fun e => ?_⟩)
      rcases hw with hw | hw
      · rw [hw] at e; exact h1.1.2 e
      · rw [hw] at e; injection e with e; have := h1.2; omega
    refine RepT.app ?_ r7
    obtain ⟨cs2, k1, k2⟩ := hs
    have hlt : ∀ g, M ≤ g → g < w.heap.size → v'.ownBlock ≠ some g := fun g h1 h2 e => by
      rcases hw with hw | hw
      · rw [hw] at e; have := hvM g e; omega
      · rw [hw] at e; injection e with e; omega
    have k1' := k1.mono (ok' := fun g => M ≤ g ∧ g < w.heap.size) (fun g h1 h2 => ⟨h1, h2⟩)
    have k2' := k2.mono (ok' := fun g => M ≤ g ∧ g < w.heap.size) (fun g h1 h2 => ⟨h1, h2⟩)
    refine ⟨cs2, ?_, ?_⟩
    · exact ((k1'.keep (fun g _ hg' => Below.block hbl g hg') hbl.size).keep (fun g h1 hg' => keep g hg' (fun e => by have := hvM g e; omega)) hg.size).mono (fun g h1 _ => ⟨by omega, hlt g h1.1 h1.2⟩)
    · exact ((k2'.keep (fun g _ hg' => Below.block hbl g hg') hbl.size (Kx.bl hbl)).keep (fun g h1 hg' => keep g hg' (fun e => by have := hvM g e; omega)) hg.size hkx).mono (fun g h1 _ => ⟨by omega, hlt g h1.1 h1.2⟩)
/-- What all structs' reading answers. -/
def TsA (P : Nat) (w : World) (q : Except (Int × Nat) (List Ty)) (e : Ending) (w' : World) : Prop :=
  Gp P w w' ∧ match q with
  | .ok l => ∃ v, e = .returned v ∧ IsTs w' (fun g => w.heap.size ≤ g) v l
  | .error (c, p) => ∃ B : Nat, e = thrownT B ∧ w.heap.size ≤ B ∧ AtX w' B c (p : Int)
theorem TsA.of_err {P : Nat} {w w' : World} {q : Except (Int × Nat) (List Ty)} {c : Int} {p B : Nat} (hq : q = .error (c, p)) (hg : Gp P w w') (hB : w.heap.size ≤ B) (hA : AtX w' B c (p : Int)) : TsA P w q (thrownT B) w' := by rw [hq]; exact ⟨hg, B, rfl, hB, hA⟩
set_option maxRecDepth 10000 in
set_option maxHeartbeats 4000000 in
theorem types_at (w : World) (P mb : Nat) (s : ByteArray) (ts : List Tk) (h : RdT w P s ts 0 mb) (hG : Gt w) (hGP : 6 ≤ P) :
    Calls Tryz.prog 35 #[.pointer (some ⟨P, 0, none⟩)] w fun e w' => TsA P w (typs nb s.size 8 ts) e w' := by
  obtain ⟨q, hq⟩ : ∃ q, q = typs nb s.size 8 ts := ⟨_, rfl⟩
  rw [← hq]
  have hPw := h.lt
  obtain ⟨base, hbase⟩ : ∃ base, base = w.heap.size := ⟨_, rfl⟩
  have H0 : Hid (Bt w w P s ts 0 mb base (.slice none 0 0) [] [] ∧ preT [] (typs nb s.size 8 ts) = q ∧ base = w.heap.size) := by
    refine ⟨⟨Gp.refl _ _, h, hG, sr.Own.nil _ _, rfl⟩, ?_, hbase⟩
    rw [hq]
    cases typs nb s.size 8 ts with
    | error e => rfl
    | ok x => rfl
  have hf0 := run_text
  clear h hG hq hbase
  go_enter Tryz.func35, Tryz.ntmps35
  go_wp2
  go_loopw [3] (fun v3 wr => ∃ (cs : List CT) (l : List Ty) (n : Nat) (ts' : List Tk), n + cs.length = 8 ∧ Hid (Bt w wr P s ts' 0 mb base v3 cs l ∧ base ≤ wr.heap.size ∧ preT l (typs nb s.size n ts') = q)) (fun v3 _ => 8 - lenV v3)
  case atStart => exact ⟨[], [], 8, ts, rfl, H0.out.1, by rw [H0.out.2.2]; exact Nat.le_refl _, H0.out.2.1⟩
  case round =>
    obtain ⟨cs, l, n, ts', hn, HB⟩ := hrel
    obtain ⟨lp, lc, rfl, hlie⟩ := HB.out.1.own.lie
    have hcl := HB.out.1.rep.len
    obtain ⟨m, hm⟩ : ∃ m, m = cs.length := ⟨_, rfl⟩
    have HL : Hid (sr.Lie wr (fun g => base ≤ g) lp cs.length lc cs ∧ m = cs.length ∧ m = l.length) := ⟨hlie, hm, by rw [hm]; exact hcl⟩
    obtain ⟨p0, c0, e0, e1, e2, e3, ez, _⟩ := HB.out.1.rd.cells
    have hPr := HB.out.1.rd.lt
    rw [← hm] at hn HB ⊢
    clear hlie hcl hm ez e0 e2 e3
    cases ts' with
    | nil =>
      have HQ2 : Hid (q = .ok l) := by have := HB.out.2.2; rw [typs_end] at this; exact this.symm
      have e1' : wr.cell? ⟨P, 1, none⟩ = some (.slice p0 0 c0) := e1
      clear e1
      go_wp2
      go_ret
      rw [HQ2.out]
      refine ⟨HB.out.1.gp, _, rfl, lp, lc, cs, by rw [HL.out.2.2]; rfl, ?_, HB.out.1.rep.mono (fun g h1 _ => h1.1)⟩
      have h1 := HL.out.1
      rw [← HL.out.2.1, HL.out.2.2] at h1
      exact h1.mono (fun g hg _ => by rw [← H0.out.2.2]; exact hg)
    | cons t r =>
      obtain ⟨j, hj⟩ : ∃ j, j = r.length := ⟨_, rfl⟩
      rw [show (t :: r).length = j + 1 by rw [hj]; rfl] at e1
      have hpos : decide ((0 : Int) < ((j + 1 : Nat) : Int)) = true := decide_eq_true (by omega)
      have hpos' : (0 : Int) < ((j : Nat) : Int) + 1 := by omega
      obtain ⟨o1, o2, o3⟩ := typs_is s.size n l t r
      rw [HB.out.2.2] at o1 o2 o3
      have cW := want_at ⟨#[115, 116, 114, 117, 99, 116]⟩ wr P 0 mb s (t :: r) HB.out.1.rd
      rw [show L ⟨#[115, 116, 114, 117, 99, 116]⟩ = wStruct from rfl] at cW
      clear hj
      by_cases hst : t.t = wStruct
      · rw [wantU_yes (show (hd s.size (t :: r)).t = wStruct from hst)] at cW
        rw [show hd s.size (t :: r) = t from rfl] at cW
        have o2' := o2 hst
        have o3' := o3 hst
        have hthr := throw_at t 4
        unfold tkV at cW hthr
        obtain ⟨S2, hS2⟩ : ∃ S2, S2 = tx t.t := ⟨_, rfl⟩
        rw [← hS2] at cW hthr
        clear o1 o2 o3 hst hS2
        go_wp2_with fail
        refine cW.mono ?_
        rintro e w5 ⟨hg5, v5, rfl, rfl, hR5⟩
        have hR5' : RdT w5 P s r 0 mb := hR5
        have H5 := HB.out.1.go hg5 hR5' hPw (by have := H0.out.2.2; omega) hGP
        obtain ⟨w6, hw6⟩ : ∃ w6, w6 = w5.alloc (.cells #[.string S2, .int .i64 (t.a : Int)] 49) := ⟨_, rfl⟩
        have hb6 : Bl w5 w6 := by rw [hw6]; exact (Bl.refl _).alloc _
        have hv6 := Tv.new w5 S2 (t.a : Int)
        obtain ⟨N1, hN1⟩ : ∃ N1, N1 = w5.heap.size := ⟨_, rfl⟩
        rw [← hw6, ← hN1] at hv6
        have H6 : Hid (Bt w w6 P s r 0 mb base (.slice lp m lc) cs l ∧ base ≤ w6.heap.size ∧ Tv w6 N1 S2 (t.a : Int)) := ⟨H5.bl hb6, by have := HB.out.2.1; have := hg5.size; have := hb6.size; omega, hv6⟩
        obtain ⟨g0, g1, z0, z1, hNs⟩ := hv6.facts
        clear hR5 hR5' hg5 H5 hb6 hv6 cW e1
        cases n with
        | zero =>
          have HQ2 : Hid (q = .error (4, t.a)) := o2' rfl
          have hm8 : ((m : Int) == 8) = true := by rw [beq_iff_eq]; omega
          clear o2' o3'
          go_upto_region 4 with fail
          rw [← hw6, ← hN1]
          clear hw6 hN1
          go_wp2_with fail
          refine (hthr _).mono ?_
          rintro e w7 ⟨B, rfl, k1, k2, k3⟩
          unfold thrownT
          go_wp2
          exact ⟨rfl, TsA.of_err HQ2.out (H6.out.1.gp.trans (Gp.bl k3)) (Nat.le_trans H6.out.1.gp.size k1) k2⟩
        | succ n =>
          obtain ⟨o4, o5⟩ := o3' n rfl
          have hm8 : ((m : Int) == 8) = false := by rw [beq_eq_false_iff_ne]; omega
          clear o2' o3' hthr
          go_upto_region 4 with fail
          rw [← hw6, ← hN1]
          clear hw6 hN1 g0 g1 z0 z1 hNs
          have cA := name_at w6 P 0 mb s r H6.out.1.rd
          go_wp2_with fail
          refine cA.mono ?_
          rintro e w7 ⟨hg7, hans⟩
          cases hnm : name s.size r with
          | error kp =>
            obtain ⟨k1, p1⟩ := kp
            rw [hnm] at hans
            obtain ⟨B, rfl, hB, hA⟩ := hans
            have HQ2 : Hid (q = .error (k1, p1)) := o4 _ hnm
            unfold thrownT
            clear cA o4 o5 hnm
            go_wp2
            exact ⟨rfl, TsA.of_err HQ2.out (H6.out.1.gp.trans hg7) (Nat.le_trans H6.out.1.gp.size hB) hA⟩
          | ok xr =>
            obtain ⟨x, r1⟩ := xr
            rw [hnm] at hans
            obtain ⟨v7, rfl, rfl, hR7⟩ := hans
            obtain ⟨o6, o7⟩ := o5 _ _ hnm
            have H7 := H6.out.1.go hg7 hR7 hPw (by have := H0.out.2.2; omega) hGP
            obtain ⟨A, hA⟩ : ∃ A, A = (hd s.size r).a := ⟨_, rfl⟩
            obtain ⟨W, hW⟩ : ∃ W, W = w7.alloc (.cells #[.string (tx x), .int .i64 (A : Int)] 49) := ⟨_, rfl⟩
            have hbW : Bl w7 W := by rw [hW]; exact (Bl.refl _).alloc _
            have hvW := Tv.new w7 (tx x) (A : Int)
            obtain ⟨N2, hN2⟩ : ∃ N2, N2 = w7.heap.size := ⟨_, rfl⟩
            rw [← hW, ← hN2] at hvW
            have HW : Hid (Bt w W P s r1 0 mb base (.slice lp m lc) cs l ∧ base ≤ W.heap.size ∧ Tv W N2 (tx x) (A : Int) ∧ N2 ≠ P) := ⟨H7.bl hbW, by have := H6.out.2.1; have := hg7.size; have := hbW.size; omega, hvW, by have := hR7.lt; omega⟩
            obtain ⟨g0, g1, z0, z1, hNs⟩ := hvW.facts
            have cB := fun wx (hb : Bl W wx) => block_at 8 wx P 0 mb s r1 rfl (HW.out.1.rd.step hb) (HW.out.1.gt.bl hb) hGP
            rw [← hA] at o7
            have HD : Hid (Bl W W.drew ∧ ∀ k, (Value.slice lp m lc).ownBlock = some k → k < N2) := ⟨(Bl.refl _).drew, fun k hk => by have := (H7.own.block k hk).2; rw [hN2]; exact this⟩
            have g0d := at_bl (Bl.refl W).drew g0
            have g1d := at_bl (Bl.refl W).drew g1
            unfold tkV
            rw [← hA]
            clear hR7 hg7 H7 hbW hvW cA hnm o4 o5 hA
            go_upto_region 7 with fail
            rw [← hW, ← hN2]
            clear hW hN2
            -- the block
            cases hbk : blk nb s.size 8 r1 with
            | error kp =>
              obtain ⟨k1, p1⟩ := kp
              have HQ2 : Hid (q = .error (k1, p1)) := o6 _ hbk
              rw [hbk] at cB
              clear o6 o7 hbk
              refine wp_region_any (by kernel_rfl) ?_
              change wpAny _ _ _ _ _ _ _ (World.drew _)
              refine wpAny_take (i := 0) (v := ?_) rfl (by kernel_rfl) (by kernel_rfl) (by kernel_rfl) (fun _ _ _ h => h) (Or.inl ⟨by rfl, ?_⟩) ?_
              rotate_left
              · intro w
                go_simp
                rfl
              refine wpAny_take (i := 1) (v := ?_) rfl (by kernel_rfl) (by kernel_rfl) (by kernel_rfl) (fun _ _ _ h => h) (Or.inl ⟨by rfl, ?_⟩) ?_
              rotate_left
              · intro w
                go_simp
                rfl
              refine wpAny_take (i := 3) (v := ?_) rfl (by kernel_rfl) (by kernel_rfl) (by kernel_rfl) (fun _ _ _ h => h) (Or.inl ⟨by rfl, ?_⟩) ?_
              rotate_left
              · intro w
                go_simp
                rfl
              refine wpAny_take (i := 5) (v := ?_) rfl (by kernel_rfl) (by kernel_rfl) (by kernel_rfl) (fun _ _ _ h => h) (Or.inl ⟨by rfl, ?_⟩) ?_
              rotate_left
              · intro w
                go_simp
                rfl
              refine wpAny_ready (rs := [2, 4, 6]) (by kernel_rfl) (by simp) ?_
              refine AllReady.cons rfl (fun K hK => ?_) (AllReady.cons rfl (fun K hK => ?_) (AllReady.cons rfl (fun K hK => ?_) (AllReady.nil)))
              · go_simp
                refine hK _ _ ?_
                clear hK K
                refine wpAny_ready (rs := [4, 6]) (by kernel_rfl) (by simp) ?_
                refine AllReady.cons rfl (fun K hK => ?_) (AllReady.cons rfl (fun K hK => ?_) (AllReady.nil))
                · go_simp
                  refine hK _ _ ?_
                  clear hK K
                  refine wpAny_ready (rs := [6]) (by kernel_rfl) (by simp) ?_
                  refine AllReady.cons rfl (fun K hK => ?_) (AllReady.nil)
                  go_simp
                  refine (cB _ HD.out.1).mono ?_
                  rintro e w6 ⟨hg6, B, rfl, hs6, hat6⟩
                  clear hK
                  unfold thrownT
                  dsimp only
                  clear K
                  go_wp2
                  exact ⟨rfl, TsA.of_err HQ2.out ((HW.out.1.gp.trans (Gp.bl HD.out.1)).trans hg6) (Nat.le_trans (Nat.le_trans HW.out.1.gp.size HD.out.1.size) hs6) hat6⟩
                · go_simp
                  refine (cB _ HD.out.1).mono ?_
                  rintro e w6 ⟨hg6, B, rfl, hs6, hat6⟩
                  clear hK
                  unfold thrownT
                  dsimp only
                  clear K
                  go_wp2
                  exact ⟨rfl, TsA.of_err HQ2.out ((HW.out.1.gp.trans (Gp.bl HD.out.1)).trans hg6) (Nat.le_trans (Nat.le_trans HW.out.1.gp.size HD.out.1.size) hs6) hat6⟩
              · go_simp
                refine hK _ _ ?_
                clear hK K
                refine wpAny_ready (rs := [2, 6]) (by kernel_rfl) (by simp) ?_
                refine AllReady.cons rfl (fun K hK => ?_) (AllReady.cons rfl (fun K hK => ?_) (AllReady.nil))
                · go_simp
                  refine hK _ _ ?_
                  clear hK K
                  refine wpAny_ready (rs := [6]) (by kernel_rfl) (by simp) ?_
                  refine AllReady.cons rfl (fun K hK => ?_) (AllReady.nil)
                  go_simp
                  refine (cB _ HD.out.1).mono ?_
                  rintro e w6 ⟨hg6, B, rfl, hs6, hat6⟩
                  clear hK
                  unfold thrownT
                  dsimp only
                  clear K
                  go_wp2
                  exact ⟨rfl, TsA.of_err HQ2.out ((HW.out.1.gp.trans (Gp.bl HD.out.1)).trans hg6) (Nat.le_trans (Nat.le_trans HW.out.1.gp.size HD.out.1.size) hs6) hat6⟩
                · go_simp
                  refine (cB _ HD.out.1).mono ?_
                  rintro e w6 ⟨hg6, B, rfl, hs6, hat6⟩
                  clear hK
                  unfold thrownT
                  dsimp only
                  clear K
                  go_wp2
                  exact ⟨rfl, TsA.of_err HQ2.out ((HW.out.1.gp.trans (Gp.bl HD.out.1)).trans hg6) (Nat.le_trans (Nat.le_trans HW.out.1.gp.size HD.out.1.size) hs6) hat6⟩
              · go_simp
                refine (cB _ HD.out.1).mono ?_
                rintro e w6 ⟨hg6, B, rfl, hs6, hat6⟩
                clear hK
                unfold thrownT
                dsimp only
                clear K
                go_wp2
                exact ⟨rfl, TsA.of_err HQ2.out ((HW.out.1.gp.trans (Gp.bl HD.out.1)).trans hg6) (Nat.le_trans (Nat.le_trans HW.out.1.gp.size HD.out.1.size) hs6) hat6⟩
            | ok ir =>
              obtain ⟨it, r2⟩ := ir
              have hq8 := o7 _ _ hbk
              rw [hbk] at cB
              clear o6 o7 hbk
              go_region_held3 (fun w' => w'.cell? ⟨N2, 0, none⟩ = some (.string (tx x)) ∧ w'.cell? ⟨N2, 1, none⟩ = some (.int .i64 (A : Int))) (refine ⟨?_, ?_⟩ <;> first | assumption | exact at_bl ((Bl.refl _).drew) (by assumption) | exact at_bl ((Bl.refl _).alloc _) (by assumption))
                (first
                  | (go_at_call 60; (refine (cB _ HD.out.1).mono ?_); rintro e w8 ⟨hg8, v8, rfl, ⟨bp, bc, bcs, rfl, hl1, hl2⟩, hR8⟩
                     obtain ⟨ln, hln⟩ : ∃ ln, ln = it.len := ⟨_, rfl⟩
                     have H8 := (HW.out.1.bl HD.out.1).go hg8 hR8 hPw (by have := H0.out.2.2; omega) hGP
                     have hT8 := (HW.out.2.2.1.bl HD.out.1).gp hg8 HW.out.2.2.2
                     have q0 := hT8.facts.1
                     have q1 := hT8.facts.2.1
                     rw [← hln] at hl1
                     rw [← hln]
                     obtain ⟨c9, hc9⟩ : ∃ c9 : CT, c9 = ⟨x, A, bp, ln, bc⟩ := ⟨_, rfl⟩
                     obtain ⟨w9, hw9⟩ : ∃ w9, w9 = w8.alloc (.cells (clT c9).toArray 36) := ⟨_, rfl⟩
                     have hb9 : Bl w8 w9 := by rw [hw9]; exact (Bl.refl _).alloc _
                     obtain ⟨X, hX⟩ : ∃ X, X = w8.heap.size := ⟨_, rfl⟩
                     have hX9 : w9.heap[X]? = some (.cells (clT c9).toArray 36 (0, 0)) := by rw [hw9, hX]; exact new_at _ _
                     have hown9 := H8.own.bl hb9
                     have hcells : ∀ j u, (clT c9)[j]? = some u → w9.cell? ((⟨X, 0, none⟩ : Addr).add j) = some u := fun j u hu => by
                       rw [Addr.add_lit, Nat.zero_add, cell_of hX9]; simpa using hu
                     have hb89 : base ≤ w9.heap.size := by have := HW.out.2.1; have := HD.out.1.size; have := hg8.size; have := hb9.size; omega
                     obtain ⟨v', w10, hr, ho10, hg10⟩ := sr.app_one w9 base (.slice lp m lc) cs c9 ⟨X, 0, none⟩ hown9 hcells (by have := HL.out.2.1; omega) hb89
                     have hwh := sr_where w9 base (.slice lp m lc) cs c9 ⟨X, 0, none⟩ hown9 hcells (by have := HL.out.2.1; omega) v' w10 hr
                     have H10 : Hid (Bt w w10 P s r2 0 mb base v' (cs ++ [c9]) (l ++ [⟨x, A, it⟩]) ∧ base ≤ w10.heap.size ∧ lenV v' = m + 1 ∧ m + 1 = (cs ++ [c9]).length) := by
                       have h1 := H8.app (c := c9) (it := it) (M := W.heap.size) ⟨bcs, by rw [hc9]; exact hl1.mono (fun g hg _ => Nat.le_trans HD.out.1.size hg), hl2.mono (fun g hg _ => Nat.le_trans HD.out.1.size hg)⟩ HW.out.1.gp.size (fun x hx => (HW.out.1.own.block x hx).2) hw9 ho10 hg10 hwh (by have := H0.out.2.2; omega) (by have := HW.out.2.1; have := HD.out.1.size; have := hg8.size; omega) (by rw [H0.out.2.2]; exact Nat.le_refl _) hGP
                       rw [hc9] at h1
                       refine ⟨by rw [hc9]; exact h1, Nat.le_trans hb89 hg10.size, ?_, by rw [List.length_append, ← HL.out.2.1]; rfl⟩
                       obtain ⟨p8, c8, hv8, _⟩ := ho10.lie
                       rw [hv8]
                       show (cs ++ [c9]).length = m + 1
                       rw [List.length_append, ← HL.out.2.1]; rfl
                     have HRn : Hid _ := hr
                     have s10 : w10.cell? ⟨N2, 0, none⟩ = some (.string (tx x)) ∧ w10.cell? ⟨N2, 1, none⟩ = some (.int .i64 (A : Int)) := by
                       have h9 := hT8.bl hb9
                       have hh : w10.heap[N2]? = _ := (hg10.block N2 h9.facts.2.2.2.2 (fun e => by have := HD.out.2 _ e.symm; omega)).trans h9.h
                       exact ⟨by rw [cell_of hh]; rfl, by rw [cell_of hh]; rfl⟩
                     obtain ⟨t0, t1⟩ := s10
                     have q09 := (hT8.bl hb9).facts.1
                     have q19 := (hT8.bl hb9).facts.2.1
                     have hcl : (clT c9).toArray = #[.string (tx x), .int .i64 (A : Int), .slice bp ln bc] := by rw [hc9]; rfl
                     rw [hcl] at hw9
                     have hw9' := hw9.symm
                     have hX' : w8.heap.size = X := hX.symm
                     clear hcl hw9 hX hb9 hX9 hown9 hcells hb89 hr ho10 hg10 hwh hg8 hR8 H8 hl1 hl2 hln hc9 hT8)
                  | (refine step_append_run rfl (.tmp 21) (.tmp 29) 23 23 rfl _ _ rfl rfl _ _ HRn.out ?_))
              have HQ8 : Hid (preT (l ++ [⟨x, A, it⟩]) (typs nb s.size n r2) = q) := hq8.symm
              clear cB hq8 g0 g1 z0 z1 g0d g1d q0 q1 t0 t1 q09 q19 HRn
              go_wp2
              refine ⟨⟨cs ++ [c9], _, n, r2, by rw [← H10.out.2.2.2]; omega, H10.out.1, H10.out.2.1, HQ8.out⟩, ?_⟩
              rw [H10.out.2.2.1]
              show 8 - (m + 1) < 8 - m
              omega
      · have HQ2 : Hid (q = .error (3, t.a)) := o1 hst
        rw [wantU_no (show ¬ (hd s.size (t :: r)).t = wStruct from hst)] at cW
        clear o1 o2 o3 hst
        go_wp2_with fail
        refine cW.mono ?_
        rintro e w5 ⟨hg5, B, rfl, hB, hA⟩
        unfold thrownT
        go_wp2
        exact ⟨rfl, TsA.of_err HQ2.out (HB.out.1.gp.trans hg5) (Nat.le_trans HB.out.1.gp.size hB) hA⟩
end Go.Proofs.YtpanodaecjlgaaaGreatDoor.tm
/- The words that are no names: taken of package tmpl. -/
namespace Go.Proofs.YtpanodaecjlgaaaGreatDoor.tm
set_option linter.unusedVariables false
open Go.ChangeShapes Go.WideShapes Go.ChangeAt Go.RowKit Go.Shelf
open mem lx ex

/-- The words, with so many of those for numbers. -/
def mp : Nat → List UInt8 → Option Int
  | 0 => fun y => if y = wCheck then some (-1) else if y = wCount then some (-1) else if y = wSize then some (-1) else if y = wWhen then some (-1) else if y = wBytes then some (-1) else if y = wStruct then some (-1) else none
  | i + 1 => fun y => if y = (numW[i]?.map (·.1)).getD [] then some (i : Int) else mp i y
theorem mp_all : mp 12 = fun t => if resv t = true then some (wdV t) else none := by
  funext y
  by_cases h : y ∈ [wStruct, wBytes, wWhen, wSize, wCount, wCheck] ∨ y ∈ numW.map (·.1)
  · have key : ∀ y, y ∈ [wStruct, wBytes, wWhen, wSize, wCount, wCheck] ∨ y ∈ numW.map (·.1) → mp 12 y = if resv y = true then some (wdV y) else none := by
      intro y hy
      rcases hy with hy | hy
      · have k : ∀ y ∈ [wStruct, wBytes, wWhen, wSize, wCount, wCheck], mp 12 y = if resv y = true then some (wdV y) else none := by decide
        exact k y hy
      · have k : ∀ y ∈ numW.map (·.1), mp 12 y = if resv y = true then some (wdV y) else none := by decide
        exact k y hy
    exact key y h
  · have h1 : ∀ w ∈ [wStruct, wBytes, wWhen, wSize, wCount, wCheck], ¬ y = w := fun w hw e => h (Or.inl (by rw [e]; exact hw))
    have h2 : ∀ w ∈ numW.map (·.1), ¬ y = w := fun w hw e => h (Or.inr (by rw [e]; exact hw))
    have hr : resv y = false := by
      unfold resv
      rw [Bool.or_eq_false_iff]
      refine ⟨?_, ?_⟩
      · rw [Bool.eq_false_iff]
        intro hc
        rw [List.contains_iff_mem] at hc
        exact h1 y hc rfl
      · unfold numOf
        have : numW.find? (fun p => p.1 == y) = none := by
          rw [List.find?_eq_none]
          intro p hp
          have := h2 p.1 (List.mem_map_of_mem hp)
          simp
          exact fun e => this e.symm
        rw [this]; rfl
    rw [hr]
    have m0 : mp 0 y = none := by
      unfold mp
      rw [if_neg (h1 _ (by simp)), if_neg (h1 _ (by simp)), if_neg (h1 _ (by simp)), if_neg (h1 _ (by simp)), if_neg (h1 _ (by simp)), if_neg (h1 _ (by simp))]
    have step : ∀ i, i ≤ 12 → mp i y = none := by
      intro i
      induction i with
      | zero => intro _; exact m0
      | succ i ih =>
        intro hi
        show (if y = (numW[i]?.map (·.1)).getD [] then some (i : Int) else mp i y) = none
        rw [if_neg, ih (by omega)]
        have hlt : i < numW.length := by have : numW.length = 12 := rfl; omega
        rw [List.getElem?_eq_getElem hlt]
        exact h2 _ (List.mem_map_of_mem (List.getElem_mem hlt))
    rw [step 12 (by omega)]
    rfl
def kv6 (w w' : World) (t : ByteArray) (b : Nat) : Prop := (Instr.mapUpdate 66 (.map (some b)) (.string t) (.int .i64 (-1))).run Tryz.prog w = .ok () w'
/-- The map that is made. -/
theorem six (w : World) : ∃ w1 w2 w3 w4 w5 w6 : World, kv6 (w.alloc (.map #[] 0)) w1 ⟨#[115, 116, 114, 117, 99, 116]⟩ w.heap.size ∧ kv6 w1 w2 ⟨#[98, 121, 116, 101, 115]⟩ w.heap.size ∧ kv6 w2 w3 ⟨#[119, 104, 101, 110]⟩ w.heap.size ∧ kv6 w3 w4 ⟨#[115, 105, 122, 101]⟩ w.heap.size ∧ kv6 w4 w5 ⟨#[99, 111, 117, 110, 116]⟩ w.heap.size ∧ kv6 w5 w6 ⟨#[99, 104, 101, 99, 107]⟩ w.heap.size ∧
    Bl w w6 ∧ Om w6 w.heap.size (mp 0) 6 := by
  have hr : R64 (-1) := by unfold R64; omega
  obtain ⟨w1, r1, o1, g1⟩ := (Om.made w).put ⟨#[115, 116, 114, 117, 99, 116]⟩ (-1) (by decide) hr (by omega)
  obtain ⟨w2, r2, o2, g2⟩ := o1.put ⟨#[98, 121, 116, 101, 115]⟩ (-1) (by decide) hr (by omega)
  obtain ⟨w3, r3, o3, g3⟩ := o2.put ⟨#[119, 104, 101, 110]⟩ (-1) (by decide) hr (by omega)
  obtain ⟨w4, r4, o4, g4⟩ := o3.put ⟨#[115, 105, 122, 101]⟩ (-1) (by decide) hr (by omega)
  obtain ⟨w5, r5, o5, g5⟩ := o4.put ⟨#[99, 111, 117, 110, 116]⟩ (-1) (by decide) hr (by omega)
  obtain ⟨w6, r6, o6, g6⟩ := o5.put ⟨#[99, 104, 101, 99, 107]⟩ (-1) (by decide) hr (by omega)
  refine ⟨w1, w2, w3, w4, w5, w6, r1, r2, r3, r4, r5, r6, ?_, o6⟩
  have b0 : Bl w (w.alloc (.map #[] 0)) := (Bl.refl w).alloc _
  have ne : ∀ k, some w.heap.size = some k → w.heap.size ≤ k := fun k hk => by injection hk with hk; omega
  exact bl_grown (bl_grown (bl_grown (bl_grown (bl_grown (bl_grown b0 g1 ne) g2 ne) g3 ne) g4 ne) g5 ne) g6 ne
theorem info48 : (Tryz.prog.info? 105).map (·.size) = some nuL.length := by kernel_rfl
def numV (p : List UInt8 × Nat × Nat × Bool) : Value := .agg #[.string (tx p.1), .int .i64 (p.2.1 : Int), .int .i64 (p.2.2.1 : Int), .bool p.2.2.2]
theorem run_num (w : World) (j : Nat) (p : List UInt8 × Nat × Nat × Bool) (h : numW[j]? = some p) : (Instr.index 105 (.agg nuL.toArray) (.int .i64 (j : Int))).run Tryz.prog w = .ok (numV p) w := by
  rcases j with _ | _ | _ | _ | _ | _ | _ | _ | _ | _ | _ | _ | j
  all_goals first | (obtain rfl := Option.some.inj h; kernel_rfl) | exact absurd h (by simp [numW])
/-- What taken answers. -/
def TkA (w : World) (e : Ending) (w' : World) : Prop := ∃ b, e = .returned (.map (some b)) ∧ w.heap.size ≤ b ∧ b < w'.heap.size ∧ Wds w' b ∧ Bl w w'
theorem om_lt {w : World} {b c : Nat} {f : List UInt8 → Option Int} (h : Om w b f c) : b < w.heap.size := by
  obtain ⟨D, h1, _⟩ := h
  exact h1.lt
set_option maxRecDepth 10000 in
set_option maxHeartbeats 2000000 in
theorem taken_at (w : World) (hG : Gt w) : Calls Tryz.prog 34 #[] w fun e w' => TkA w e w' := by
  have hmm : ∀ w, (Instr.makeMap 66 none).run Tryz.prog w = .ok (.map (some w.heap.size)) (w.alloc (.map #[] 0)) := fun w => by kernel_rfl
  obtain ⟨w1, w2, w3, w4, w5, w6, r1, r2, r3, r4, r5, r6, hb6, o6⟩ := six w
  unfold kv6 at r1 r2 r3 r4 r5 r6
  have hR : Hid (w6.rangeAt 0 0 nuL) := (hG.bl hb6).nu
  obtain ⟨b, hb⟩ : ∃ b, b = w.heap.size := ⟨_, rfl⟩
  rw [← hb] at o6
  have H6 : Hid (Om w6 b (mp 0) 6 ∧ Bl w w6 ∧ b = w.heap.size) := ⟨o6, hb6, hb⟩
  clear o6 hb6 hb hG
  go_enter Tryz.func34, Tryz.ntmps34
  go_upto_region 2 with fail
  rw [← H6.out.2.2]
  clear r1 r2 r3 r4 r5 r6 hmm
  refine wp_region_lit ?_
  refine wpList_load_mid rfl 105 _ rfl 0 0 rfl nuL _ hR.out Tryz.underlying105 rfl info48 ?_
  generalize hAV : Value.agg nuL.toArray = AV
  have HAV : Hid (Value.agg nuL.toArray = AV) := hAV
  clear hAV hR
  go_wp2
  go_loopw [7] (fun i wr => ∃ j : Nat, j ≤ 12 ∧ i = .int .i64 (j : Int) ∧ Hid (Om wr b (mp j) (6 + j) ∧ Bl w wr)) (fun i _ => 12 - (intOf i).toNat)
  case atStart => exact ⟨0, by omega, rfl, H6.out.1, H6.out.2.1⟩
  case round =>
    obtain ⟨j, hj, rfl, HB⟩ := hrel
    by_cases h12 : j < 12
    · have d1 : decide ((j : Int) < 12) = true := decide_eq_true (by omega)
      obtain ⟨p, hp⟩ : ∃ p, numW[j]? = some p := ⟨_, List.getElem?_eq_getElem (show j < numW.length from h12)⟩
      have hix := fun w => run_num w j p hp
      rw [HAV.out] at hix
      obtain ⟨w7, hw7⟩ : ∃ w7, w7 = wr.alloc (.cells #[.string (tx p.1), .int .i64 (p.2.1 : Int), .int .i64 (p.2.2.1 : Int), .bool p.2.2.2] 104) := ⟨_, rfl⟩
      have hb7 : Bl wr w7 := by rw [hw7]; exact (Bl.refl _).alloc _
      obtain ⟨N, hN⟩ : ∃ N, N = wr.heap.size := ⟨_, rfl⟩
      have h7 : w7.heap[N]? = some (.cells #[.string (tx p.1), .int .i64 (p.2.1 : Int), .int .i64 (p.2.2.1 : Int), .bool p.2.2.2] 104 (0, 0)) := by rw [hw7, hN]; exact new_at _ _
      have g0 : w7.cell? ⟨N, 0, none⟩ = some (.string (tx p.1)) := by rw [cell_of h7]; rfl
      have hNs := lt_of_heap h7
      have o7 := HB.out.1.step (row := none) ⟨hb7.os, hb7.tape, hb7.output, hb7.size, fun k hk _ => Below.block hb7 k hk⟩ (by simp)
      have hlen : (tx p.1).size ≤ 5000 := by
        rw [tx_size]
        have key : ∀ p ∈ numW, p.1.length ≤ 5000 := by decide
        exact key p (List.mem_of_getElem? hp)
      obtain ⟨w8, r8, o8, g8⟩ := o7.put (tx p.1) (j : Int) hlen (by unfold R64; omega) (by omega)
      have H8 : Hid (Om w8 b (mp (j + 1)) (6 + (j + 1)) ∧ Bl w w8) := by
        refine ⟨?_, bl_grown (HB.out.2.trans hb7) g8 (fun k hk => by injection hk with hk; have := H6.out.2.2; omega)⟩
        have e1 : (tx p.1).data.toList = p.1 := L_tx _
        rw [e1] at o8
        have e2 : mp (j + 1) = fun y => if y = p.1 then some (j : Int) else mp j y := by
          show (fun y => if y = (numW[j]?.map (·.1)).getD [] then some (j : Int) else mp j y) = _
          rw [hp]; rfl
        rw [e2]
        exact o8
      unfold numV at hix
      clear hp h7 hb7 o7 hlen o8 g8
      generalize tx p.1 = S at *
      generalize p.2.1 = p1 at *
      generalize p.2.2.1 = p2 at *
      generalize p.2.2.2 = p3 at *
      go_upto_region 5 with fail
      rw [← hw7, ← hN]
      clear hw7 hN
      go_wp2
      go_roundw
      case rel => exact ⟨j + 1, by omega, by go_num, H8.out⟩
      case measure => simp [intOf]; omega
    · obtain rfl : j = 12 := by omega
      have HF := HB.out
      rw [mp_all] at HF
      have HF' : Hid (Om wr b (fun t => if resv t = true then some (wdV t) else none) (6 + 12) ∧ Bl w wr) := HF
      clear HF
      go_wp2
      go_ret
      exact ⟨b, rfl, by have := H6.out.2.2; omega, om_lt HF'.out.1, ⟨_, HF'.out.1⟩, HF'.out.2⟩
end Go.Proofs.YtpanodaecjlgaaaGreatDoor.tm
/- Parse of package tmpl. -/
namespace Go.Proofs.YtpanodaecjlgaaaGreatDoor.tm
set_option linter.unusedVariables false
open Go.ChangeShapes Go.WideShapes Go.ChangeAt Go.RowKit Go.Shelf
open mem lx ex

theorem tcatch_idle (p q : Addr) (w : World) :
    CallsD Tryz.prog 33 #[.pointer (some p), .pointer (some q)] .returning w fun e u' w' => e = .returned (.tuple #[]) ∧ u' = .returning ∧ Bl w w' := by
  have hta : ∀ w : World, (Instr.typeAssert Value.nilIface 20 63 true).run Tryz.prog w = .ok (.tuple #[.agg #[.nilIface], .bool false]) w := fun _ => by kernel_rfl
  refine callsD_of_wpS Tryz.func33 rfl fun c₀ cs hu => ?_
  apply wpS_seq
  apply wpS_region
  simp [wpOpsS, go_sem, recoverD, hu, Tryz.ntmps33, Exit.thenS, hta]
  apply wpS_seq
  apply wpS_region
  simp [wpOpsS, go_sem, Exit.thenS]
  refine wpS_cond (t := false) (by simp [Act.eval, Array.replicate]) ?_
  simp only [Bool.false_eq_true, if_false]
  refine wpS_of_wp (wp_skip ?_)
  cases c₀
  simp_all [bodyPostS, results, Tryz.results33]
  exact (Bl.refl _).alloc _
/-- Parse's variables. -/
structure PvT (w wr : World) (N : Nat) (v e : Value) : Prop where
  v1 : Vr wr N v 23
  v2 : Vr wr (N + 1) e 30
  bl : Bl w wr
  n : N = w.heap.size
theorem PvT.step {w wr w' : World} {N : Nat} {v e : Value} (h : PvT w wr N v e) (hb : Bl wr w') : PvT w w' N v e := ⟨h.v1.step hb, h.v2.step hb, h.bl.trans hb, h.n⟩
theorem PvT.gp {P : Nat} {w wr w' : World} {N : Nat} {v e : Value} (h : PvT w wr N v e) (hg : Gp P wr w') (hP : N + 1 < P) : PvT w w' N v e :=
  ⟨Vr.gp h.v1 hg (by omega), Vr.gp h.v2 hg (by omega), hg.below h.bl (by have := h.n; omega), h.n⟩
theorem PvT.set1 {w wr : World} {N : Nat} {v e : Value} (h : PvT w wr N v e) (x : Value) : PvT w (wr.setCell ⟨N, 0, none⟩ x) N x e :=
  ⟨h.v1.set _, h.v2.set_other (by omega) _, h.bl.setCell (by show w.heap.size ≤ N; have := h.n; omega) _, h.n⟩
theorem PvT.set2 {w wr : World} {N : Nat} {v e : Value} (h : PvT w wr N v e) (x : Value) : PvT w (wr.setCell ⟨N + 1, 0, none⟩ x) N v x :=
  ⟨h.v1.set_other (by omega) _, h.v2.set _, h.bl.setCell (by show w.heap.size ≤ N + 1; have := h.n; omega) _, h.n⟩
theorem PvT.new (w : World) : PvT w ((w.alloc (.cells #[.slice none 0 0] 23)).alloc (.cells #[.nilIface] 30)) w.heap.size (.slice none 0 0) .nilIface := by
  refine ⟨(Vr.new w _ _).step ((Bl.refl _).alloc _), ?_, ((Bl.refl _).alloc _).alloc _, rfl⟩
  have := Vr.new (w.alloc (.cells #[.slice none 0 0] 23)) .nilIface 30
  simpa using this
theorem AtX.bl {w w' : World} {B : Nat} {c p : Int} (h : AtX w B c p) (hb : Bl w w') : AtX w' B c p := by
  unfold AtX at h ⊢
  rw [Below.block hb B (lt_of_heap h)]
  exact h
def thrV (B : Nat) : Value := .iface 63 (.agg #[.iface 110 (.pointer (some ⟨B, 0, none⟩))])
def atV (B : Nat) : Value := .iface 110 (.pointer (some ⟨B, 0, none⟩))
theorem tcatch_thrown (N B : Nat) (w0 w : World) (v e0 : Value) (c p : Int) (h : PvT w0 w N v e0) (hA : AtX w B c p) (hB : N + 1 < B) :
    CallsD Tryz.prog 33 #[.pointer (some ⟨N, 0, none⟩), .pointer (some ⟨N + 1, 0, none⟩)] (.panicking [{ v := thrV B, recovered := false }]) w fun e u' w' =>
      e = .returned (.tuple #[]) ∧ u' = .panicking [{ v := thrV B, recovered := true }] ∧ PvT w0 w' N (.slice none 0 0) (atV B) ∧ AtX w' B c p := by
  have hta : ∀ w : World, (Instr.typeAssert (thrV B) 20 63 true).run Tryz.prog w = .ok (.tuple #[.agg #[.iface 110 (.pointer (some ⟨B, 0, none⟩))], .bool true]) w := fun _ => by kernel_rfl
  refine callsD_of_wpS Tryz.func33 rfl fun c₀ cs hu => ?_
  apply wpS_seq
  apply wpS_region
  simp [wpOpsS, go_sem, recoverD, hu, Tryz.ntmps33, Exit.thenS, hta]
  apply wpS_seq
  apply wpS_region
  simp [wpOpsS, go_sem, Exit.thenS]
  refine wpS_cond (t := true) (by simp [Act.eval, Array.replicate]) ?_
  simp only [if_true]
  have hM := h.v2.lt
  obtain ⟨M, hMe⟩ : ∃ M, M = w.heap.size := ⟨_, rfl⟩
  rw [← hMe] at hM ⊢
  obtain ⟨w1, hw1⟩ : ∃ w1, w1 = w.alloc (.cells #[.iface 110 (.pointer (some ⟨B, 0, none⟩))] 63) := ⟨_, rfl⟩
  have hb1 : Bl w w1 := by rw [hw1]; exact (Bl.refl _).alloc _
  have hcM : w1.cell? ⟨M, 0, none⟩ = some (.iface 110 (.pointer (some ⟨B, 0, none⟩))) := by
    have := new_at w (.cells #[.iface 110 (.pointer (some ⟨B, 0, none⟩))] 63)
    rw [hMe, hw1, cell_of this]; rfl
  have H1 : Hid (PvT w0 w1 N v e0 ∧ AtX w1 B c p) := ⟨h.step hb1, AtX.bl hA hb1⟩
  rw [← hw1]
  clear hw1 hb1 hA h hMe
  have c1 := H1.out.1.v1.cell
  have c2 := H1.out.1.v2.cell
  have f1 := H1.out.1.v1.frozen
  have f2 := H1.out.1.v2.frozen
  have hMN : ¬ M = N := by omega
  have hMN1 : ¬ M = N + 1 := by omega
  refine wpS_of_wp ?_
  refine wp_calm ?_
  go_region
  all_goals
    refine Calm.in ?_
    have H9 : PvT w0 ((w1.setCell ⟨N, 0, none⟩ (.slice none 0 0)).setCell ⟨N + 1, 0, none⟩ (atV B)).drew N (.slice none 0 0) (atV B) ∧ AtX ((w1.setCell ⟨N, 0, none⟩ (.slice none 0 0)).setCell ⟨N + 1, 0, none⟩ (atV B)).drew B c p :=
      ⟨((H1.out.1.set1 _).set2 _).step (Bl.refl _).drew, AtX.bl ((H1.out.2.set (by omega)).set (by omega)) (Bl.refl _).drew⟩
    unfold atV at H9
    generalize ((w1.setCell ⟨N, 0, none⟩ (.slice none 0 0)).setCell ⟨N + 1, 0, none⟩ (.iface 110 (.pointer (some ⟨B, 0, none⟩)))).drew = w9 at H9 ⊢
    cases c₀
    simp_all [bodyPostS, results, Tryz.results33, atV]
end Go.Proofs.YtpanodaecjlgaaaGreatDoor.tm
/- Parse of package tmpl, whole. -/
namespace Go.Proofs.YtpanodaecjlgaaaGreatDoor.tm
set_option linter.unusedVariables false
open Go.ChangeShapes Go.WideShapes Go.ChangeAt Go.RowKit Go.Shelf
open mem lx ex

theorem IsTs.keep {w w' : World} {ok : Nat → Prop} {v : Value} {l : List Ty} (h : IsTs w ok v l) (hk : ∀ g, ok g → g < w.heap.size → w'.heap[g]? = w.heap[g]?) (hs : w.heap.size ≤ w'.heap.size) (hx : Kx w w') : IsTs w' ok v l := by
  obtain ⟨p, c, cs, h1, h2, h3⟩ := h
  exact ⟨p, c, cs, h1, h2.keep hk hs, h3.keep hk hs hx⟩
theorem IsTs.setv {w : World} {b base : Nat} {v x y : Value} {t : TypeId} {l : List Ty} (h : IsTs w (fun g => base ≤ g) v l) (hv : Vr w b y t) (ht : t ≠ 118) (hb : b < base) : IsTs (w.setCell ⟨b, 0, none⟩ x) (fun g => base ≤ g) v l :=
  h.keep (fun g hg hlt => (grown_set w b 0 x).block g hlt (fun e => by injection e with e; omega)) (by simp [World.setCell]) (Kx.set hv ht)
/-- What a text's structs are, or what is told, and where. -/
noncomputable def prT (l : List UInt8) : Except (Int × Nat) (List Ty) :=
  match (lx l 0).2 with
  | some p => .error (3, p)
  | none => typs nb l.length 8 (lx l 0).1
/-- What Parse answers. -/
def TPA (s : ByteArray) (w : World) (e : Ending) (w' : World) : Prop :=
  Bl w w' ∧ match prT (L s) with
  | .ok l => ∃ v, e = .returned (.tuple #[v, .nilIface]) ∧ IsTs w' (fun g => w.heap.size ≤ g) v l
  | .error (c, p) => ∃ B : Nat, e = .returned (.tuple #[.slice none 0 0, atV B]) ∧ w.heap.size ≤ B ∧ AtX w' B c (p : Int)
theorem TPA.of_err {s : ByteArray} {w w' : World} {c : Int} {p B : Nat} (hq : prT (L s) = .error (c, p)) (hb : Bl w w') (hB : w.heap.size ≤ B) (hA : AtX w' B c (p : Int)) : TPA s w (.returned (.tuple #[.slice none 0 0, atV B])) w' := by
  refine ⟨hb, ?_⟩
  rw [hq]
  exact ⟨B, rfl, hB, hA⟩
theorem TPA.of_ok {s : ByteArray} {w w' : World} {l : List Ty} {v : Value} (hq : prT (L s) = .ok l) (hb : Bl w w') (hv : IsTs w' (fun g => w.heap.size ≤ g) v l) : TPA s w (.returned (.tuple #[v, .nilIface])) w' := by
  refine ⟨hb, ?_⟩
  rw [hq]
  exact ⟨v, rfl, hv⟩
set_option maxRecDepth 10000 in
set_option maxHeartbeats 2000000 in
theorem Parse_at (s : ByteArray) (w : World) (hs : s.size ≤ 3000) (hG : Gt w) :
    Calls Tryz.prog 10 #[.string s] w fun e w' => TPA s w e w' := by
  have hmf : ∀ (fn : Fn) (first cap : Array Value) (w : World), (Instr.makeFunc fn first cap).run Tryz.prog w = .ok (.func fn first cap) w := fun _ _ _ _ => rfl
  have cL := fun wx (hb : Bl w wx) => Lex_at s wx hs (hG.gd.ms.step hb)
  have H0 : Hid _ := PvT.new w
  obtain ⟨N, hN⟩ : ∃ N, N = w.heap.size := ⟨_, rfl⟩
  rw [← hN] at H0
  have HG : Hid (Gt w) := hG
  have hcl := H0.out.bl
  clear hG
  go_enter_defers Tryz.func10, Tryz.ntmps10
  go_wp2_with fail
  refine (cL _ hcl).mono ?_
  rintro e w2 ⟨hb2, hans⟩
  rw [← hN]
  have H2 : Hid _ := H0.out.step hb2
  have c1 := H2.out.v1.cell
  have c2 := H2.out.v2.cell
  have f1 := H2.out.v1.frozen
  have f2 := H2.out.v2.frozen
  have hsz : N + 2 ≤ ((w.alloc (.cells #[.slice none 0 0] 23)).alloc (.cells #[.nilIface] 30)).heap.size := by have := H0.out.v2.lt; omega
  rcases hans with ⟨g1, v, rfl, g2⟩ | ⟨p, B, g1, rfl, g2, g3⟩
  · obtain ⟨ts, hts⟩ : ∃ ts, ts = (lx (L s) 0).1 := ⟨_, rfl⟩
    have hprs : prT (L s) = typs nb s.size 8 ts := by
      unfold prT
      rw [g1, ← hts, L_len]
    have hsx : ∃ pre, lx (L s) 0 = (pre ++ ts, none) := ⟨[], by rw [hts, List.nil_append, ← g1]⟩
    rw [← hts] at g2
    obtain ⟨vp, vc, rfl, hvc, hin⟩ := g2.view
    have HX : Hid (prT (L s) = typs nb s.size 8 ts ∧ (∃ pre, lx (L s) 0 = (pre ++ ts, none)) ∧ ts.length ≤ vc) := ⟨hprs, hsx, hvc⟩
    have HO : Hid (tr.Own w2 (N + 2) (.slice vp ts.length vc) ts) := g2.low hsz
    clear g1 g2 hprs hsx hts cL hN hcl hsz hin hvc
    have cT := fun wx (hb : Bl w wx) => taken_at wx (HG.out.bl hb)
    have H2b : Hid (PvT w (w2.setCell ⟨N + 1, 0, none⟩ .nilIface) N (.slice none 0 0) .nilIface ∧ tr.Own (w2.setCell ⟨N + 1, 0, none⟩ .nilIface) (N + 2) (.slice vp ts.length vc) ts) := by
      refine ⟨H2.out.set2 _, HO.out.kept (grown_set _ _ _ _) ?_⟩
      intro x hx e
      injection e with e
      have := (HO.out.block x hx).1
      omega
    have hbw := H2b.out.1.bl
    go_wp2_with fail
    generalize w2.setCell ⟨N + 1, 0, none⟩ .nilIface = w3 at *
    refine (cT _ hbw).mono ?_
    rintro e w4 ⟨mb, rfl, hm1, hm2, hm3, hb4⟩
    have H4 : Hid (PvT w w4 N (.slice none 0 0) .nilIface ∧ tr.Own w4 (N + 2) (.slice vp ts.length vc) ts) := ⟨H2b.out.1.step hb4, H2b.out.2.step hb4⟩
    obtain ⟨P, hP⟩ : ∃ P, P = w4.heap.size := ⟨_, rfl⟩
    obtain ⟨w5, hw5⟩ : ∃ w5, w5 = w4.alloc (.cells #[.string s, .slice vp ts.length vc, .int .i64 0, .map (some mb)] 69) := ⟨_, rfl⟩
    have hb5 : Bl w4 w5 := by rw [hw5]; exact (Bl.refl _).alloc _
    have H5 : Hid (PvT w w5 N (.slice none 0 0) .nilIface ∧ N + 1 < P) := ⟨H4.out.1.step hb5, by have := H4.out.1.v2.lt; omega⟩
    have hR5 : RdT w5 P s ts 0 mb := by
      have hn := new_at w4 (.cells #[.string s, .slice vp ts.length vc, .int .i64 0, .map (some mb)] 69)
      rw [← hw5, ← hP] at hn
      obtain ⟨vp', vc', hv', hvc', hin'⟩ := (H4.out.2.step hb5).view
      have e1 : vp' = vp := by injection hv' with h1 _ _; exact h1.symm
      have e2 : vc' = vc := by injection hv' with _ _ h3; exact h3.symm
      subst e1 e2
      refine ⟨⟨vp', vc', hn, hvc', hin', fun x hx => ?_⟩, ⟨?_, by omega⟩, HX.out.2.1, hs⟩
      · have hb := H4.out.2.block
        have := (hb x.block (by rw [hx]; rfl)).2
        omega
      · obtain ⟨n, hn'⟩ := hm3
        exact ⟨n, hn'.step (row := none) ⟨hb5.os, hb5.tape, hb5.output, hb5.size, fun k hk _ => Below.block hb5 k hk⟩ (by simp)⟩
    have hG5 : Gt w5 := HG.out.bl H5.out.1.bl
    have hGP : 6 ≤ P := by
      have h1 := (HG.out.bl (H4.out.1.bl)).gd.lt
      omega
    have cR := types_at w5 P mb s ts hR5 hG5 hGP
    have hP5 := hR5.lt
    have HH : Hid (P < w5.heap.size ∧ w.heap.size ≤ w5.heap.size) := ⟨hP5, H5.out.1.bl.size⟩
    clear cT HO H2 H2b hbw hm1 hm2 hm3 hb4 H4 hb5 hR5 hG5 hGP hP5 c1 c2 f1 f2 H0 hb2
    go_wp2_with fail
    rw [← hP, ← hw5]
    clear hw5 hP
    refine cR.mono ?_
    rintro e w6 ⟨hg6, hans⟩
    clear cR
    have H6 : Hid (PvT w w6 N (.slice none 0 0) .nilIface) := H5.out.1.gp hg6 H5.out.2
    have hsz6 := hg6.size
    obtain ⟨q, hq⟩ : ∃ q, q = typs nb s.size 8 ts := ⟨_, rfl⟩
    rw [← hq] at hans
    have HXX : Hid (prT (L s) = q) := by rw [hq]; exact HX.out.1
    clear hq HX
    cases q with
    | error cp =>
      obtain ⟨c, p⟩ := cp
      obtain ⟨B, rfl, hB1, hB2⟩ := hans
      have HA9 : Hid (AtX w6 B c (p : Int) ∧ N + 1 < B ∧ w.heap.size ≤ B) := ⟨hB2, by have := HH.out; have := H5.out.2; omega, by have := HH.out; omega⟩
      unfold thrownT
      go_wp2
      refine leaves_cons (f := 33) (args := #[.pointer (some ⟨N, 0, none⟩), .pointer (some ⟨N + 1, 0, none⟩)]) (by simp) (by simp [go_sem]) ?_
      refine (tcatch_thrown N B w w6 _ _ c (p : Int) H6.out HA9.out.1 HA9.out.2.1).mono ?_
      rintro e u' wz ⟨rfl, rfl, HZ, hAZ⟩
      have c1' := HZ.v1.cell
      have c2' := HZ.v2.cell
      have hfin := TPA.of_err HXX.out HZ.bl HA9.out.2.2 hAZ
      unfold thrV
      simp [Leaves, settle, results, Tryz.results10, go_sem, c1', c2']
      exact hfin
    | ok l =>
      obtain ⟨v, rfl, hv⟩ := hans
      obtain ⟨tp, tn, tc, rfl⟩ : ∃ tp tn tc, v = .slice tp tn tc := by
        obtain ⟨p, c, cs, h1, _⟩ := hv
        exact ⟨_, _, _, h1⟩
      obtain ⟨v, hve⟩ : ∃ v, v = Value.slice tp tn tc := ⟨_, rfl⟩
      rw [← hve] at hv
      have d1 := H6.out.v1.cell
      have d2 := H6.out.v2.cell
      have e1 := H6.out.v1.frozen
      have e2 := H6.out.v2.frozen
      have hbase : N + 1 < w5.heap.size := by have := HH.out.1; have := H5.out.2; omega
      have H9 := (H6.out.set1 v).set2 .nilIface
      have hx9 : IsTs ((w6.setCell ⟨N, 0, none⟩ v).setCell ⟨N + 1, 0, none⟩ .nilIface) (fun g => w5.heap.size ≤ g) v l := (hv.setv H6.out.v1 (by decide) (by omega)).setv (H6.out.set1 v).v2 (by decide) hbase
      have hx10 : IsTs ((w6.setCell ⟨N, 0, none⟩ v).setCell ⟨N + 1, 0, none⟩ .nilIface) (fun g => w.heap.size ≤ g) v l := by
        obtain ⟨pp, cc, cs, k1, k2, k3⟩ := hx9
        exact ⟨pp, cc, cs, k1, k2.mono (fun g hg _ => by have := HH.out.2; omega), k3.mono (fun g hg _ => by have := HH.out.2; omega)⟩
      have H10 : Hid (PvT w ((w6.setCell ⟨N, 0, none⟩ v).setCell ⟨N + 1, 0, none⟩ .nilIface) N v .nilIface ∧ IsTs ((w6.setCell ⟨N, 0, none⟩ v).setCell ⟨N + 1, 0, none⟩ .nilIface) (fun g => w.heap.size ≤ g) v l) := ⟨H9, hx10⟩
      rw [hve] at H10
      clear H9 hx9 hx10 hv hve
      go_wp2
      refine leaves_cons (f := 33) (args := #[.pointer (some ⟨N, 0, none⟩), .pointer (some ⟨N + 1, 0, none⟩)]) (by simp) (by simp [go_sem]) ?_
      refine (tcatch_idle _ _ _).mono ?_
      rintro e u' wz ⟨rfl, rfl, hbz⟩
      have HZ := H10.out.1.step hbz
      have c1' := HZ.v1.cell
      have c2' := HZ.v2.cell
      have hfin := TPA.of_ok HXX.out HZ.bl (H10.out.2.bl hbz)
      simp [Leaves, settle, results, Tryz.results10, go_sem, c1', c2']
      exact hfin
  · have HB : Hid (prT (L s) = .error (3, p) ∧ AtX w2 B 3 (p : Int) ∧ N + 1 < B) := by
      refine ⟨by unfold prT; rw [g1], g3, ?_⟩
      omega
    have HN : Hid (w.heap.size ≤ B) := by
      have h1 := H2.out.n
      show w.heap.size ≤ B
      omega
    clear g1 g2 g3 cL hN H0 hcl hsz hb2
    go_wp2
    have HW : Hid (PvT w (w2.setCell ⟨N + 1, 0, none⟩ (.iface 110 (.pointer (some ⟨B, 0, none⟩)))) N (.slice none 0 0) (.iface 110 (.pointer (some ⟨B, 0, none⟩))) ∧ AtX (w2.setCell ⟨N + 1, 0, none⟩ (.iface 110 (.pointer (some ⟨B, 0, none⟩)))) B 3 (p : Int)) := ⟨H2.out.set2 _, HB.out.2.1.set (by have := HB.out.2.2; omega)⟩
    generalize w2.setCell ⟨N + 1, 0, none⟩ (.iface 110 (.pointer (some ⟨B, 0, none⟩))) = W at HW ⊢
    clear c1 c2 f1 f2
    have c1 := HW.out.1.v1.cell
    have c2 := HW.out.1.v2.cell
    have f1 := HW.out.1.v1.frozen
    have f2 := HW.out.1.v2.frozen
    refine wp_calm ?_
    go_region
    all_goals
      refine Calm.in ?_
      have H9 : Hid (PvT w ((W.setCell ⟨N, 0, none⟩ (.slice none 0 0)).setCell ⟨N + 1, 0, none⟩ (.iface 110 (.pointer (some ⟨B, 0, none⟩)))).drew N (.slice none 0 0) (.iface 110 (.pointer (some ⟨B, 0, none⟩))) ∧ AtX ((W.setCell ⟨N, 0, none⟩ (.slice none 0 0)).setCell ⟨N + 1, 0, none⟩ (.iface 110 (.pointer (some ⟨B, 0, none⟩)))).drew B 3 (p : Int)) := ⟨((HW.out.1.set1 _).set2 _).step (Bl.refl _).drew, (HW.out.2.set (x := .slice none 0 0) (b := N) (by have := HB.out.2.2; omega)).set (b := N + 1) (by have := HB.out.2.2; omega)⟩
      generalize ((W.setCell ⟨N, 0, none⟩ (.slice none 0 0)).setCell ⟨N + 1, 0, none⟩ (.iface 110 (.pointer (some ⟨B, 0, none⟩)))).drew = W9 at H9 ⊢
      clear c1 c2 f1 f2
      have c1 := H9.out.1.v1.cell
      have c2 := H9.out.1.v2.cell
      have hfin := TPA.of_err HB.out.1 H9.out.1.bl HN.out H9.out.2
      go_simp
      go_wp2
      simp [bodyPostD, Leaves, results, Tryz.results10, go_sem, c1, c2]
      exact hfin
end Go.Proofs.YtpanodaecjlgaaaGreatDoor.tm
/- Templates, printed: what an item begins with. -/
namespace Go.Proofs.YtpanodaecjlgaaaGreatDoor.tm
set_option linter.unusedVariables false
open Go.ChangeShapes Go.WideShapes Go.ChangeAt Go.RowKit Go.Shelf
open mem lx ex

end Go.Proofs.YtpanodaecjlgaaaGreatDoor.tm
