/- Texts laid together: LrF, LrG, LrH, LrI, LrK. -/
import Derived.Test.YtococaecjecjgaaGreatDoorXLayoutReads31
import Derived.Test.YtococaecjecjgaaGreatDoorXLayoutReads16
namespace Go.Proofs.YtococaecjecjgaaGreatDoor.ly
set_option linter.unusedVariables false
open Go.ChangeShapes Go.WideShapes Go.ChangeAt Go.RowKit
open mem lx ex tm num

structure LK (l : List Ty) : Prop where
  ok : OKT l
  n8 : l.length ≤ 8
  chk : chkT [] l = none
theorem LK.at {l : List Ty} (h : LK l) {x : List UInt8} {i : Its} (hf : fnd l x = some i) : OKI i ∧ ∃ earl n, chkI earl i [] [] = .ok n ∧ ∀ y ∈ earl, fnd l y ≠ none := by
  refine ⟨h.ok.fnd hf, ?_⟩
  obtain ⟨e, n, h1, h2⟩ := chk_fnd h.chk hf
  exact ⟨e, n, h1, fun y hy => (h2 y hy).resolve_left (by simp)⟩
theorem LK.fndF {l : List Ty} (h : LK l) (x : List UInt8) : fndF l x = fnd l x := fndF_eq h.chk x
def Res (q : Except Er (Nds × St)) (ks : Nds) (st : St) (b : Er) : Prop := match q with
  | .ok (ks', st') => ks = ks' ∧ st = st' ∧ b = (0, -1)
  | .error er => b = er ∧ er.1 ≠ 0
def VbkA (w : World) (P m2 : Nat) (s : ByteArray) (l : List Ty) (a : Nat) (names : List (List UInt8)) (en' : Env) (q : Except Er (Nds × St)) (e : Ending) (w' : World) : Prop :=
  Gq P m2 w w' ∧ ∃ p c ks st' b, e = .returned (.slice p ks.len c) ∧ IsNs w' (fun g => w.heap.size ≤ g) p ks.len c ks ∧ Vw w' P s l st' b ∧ a ≤ st'.1 ∧ Res q ks st' b ∧ (b.1 = 0 → ∃ en2 k2, Om w' m2 en2 k2 ∧ k2 ≤ st'.2 ∧ ∀ y ∈ names, en2 y = en' y)
def VBlk (s : ByteArray) (l : List Ty) (f : Nat) : Prop :=
  ∀ (w : World) (P m2 : Nat) (st : St) (i : Its) (p : Option Addr) (n c : Nat) (cs : List C) (en en' : Env) (k0 : Nat) (earl names seen n2 : List (List UInt8)), Vw w P s l st (0, -1) → OKI i → ir.Lie w (fun g => g < P) p n c cs → Rep w (fun g => g < P) i cs → Om w m2 en' k0 → k0 ≤ st.2 → P < m2 →
    (∀ y ∈ seen, en' y = en y) → (∀ y ∈ seen, y ∈ names) → chkI earl i names seen = .ok n2 → (∀ y ∈ earl, fnd l y ≠ none) → 401 ≤ st.2 + f → st.2 ≤ 400 → (∀ t n, en t = some n → R64 n) →
    Calls Tryz.prog 50 #[.pointer (some ⟨P, 0, none⟩), .slice p n c, .map (some m2)] w fun e w' => VbkA w P m2 s l st.1 names en' (rdB (L s) l f i en st) e w'
theorem vblk_zero (s : ByteArray) (l : List Ty) : VBlk s l 0 := by
  intro w P m2 st i p n c cs en en' k0 earl names seen n2 _ _ _ _ _ _ _ _ _ _ _ h1 h2 _
  omega
theorem one_agree {s : List UInt8} {l : List Ty} {rec : Its → Env → St → Except Er (Nds × St)} {d : D} {sub : Its} {en en' : Env} (h : evO en' d.ct = evO en d.ct) (hk : d.kd ≠ 4) (h4 : d.kd = 1 ∨ d.kd = 2 ∨ d.kd = 3 ∨ d.kd = 4) (st : St) : one s l rec d sub en' st = one s l rec d sub en st := by
  have h5 : d.kd = 1 ∨ d.kd = 2 ∨ d.kd = 3 := by omega
  unfold one body cnt
  rw [h]
  rcases h5 with e | e | e <;> simp [e]
end Go.Proofs.YtococaecjecjgaaGreatDoor.ly
namespace Go.Proofs.YtococaecjecjgaaGreatDoor.ly
set_option linter.unusedVariables false
open Go.ChangeShapes Go.WideShapes Go.ChangeAt Go.RowKit
open mem lx ex tm num

attribute [local go_sem] World.cell?_alloc_some
theorem gp_over {w w6 W : World} {P N : Nat} (h : Gp P w w6) (hn : Gp N w6 W) (hN : w.heap.size ≤ N) : Gp P w W :=
  ⟨hn.os.trans h.os, hn.tape.trans h.tape, hn.output.trans h.output, Nat.le_trans h.size hn.size, fun j h1 h2 => (hn.block j (Nat.lt_of_lt_of_le h1 h.size) (by omega)).trans (h.block j h1 h2)⟩
theorem gq_over {w w6 W : World} {P m N : Nat} (h : Gq P m w w6) (hn : Gp N w6 W) (hN : w.heap.size ≤ N) : Gq P m w W :=
  ⟨hn.os.trans h.os, hn.tape.trans h.tape, hn.output.trans h.output, Nat.le_trans h.size hn.size, fun j h1 h2 h3 => (hn.block j (Nat.lt_of_lt_of_le h1 h.size) (by omega)).trans (h.block j h1 h2 h3)⟩
theorem isns_over {w W : World} {N K M : Nat} {p : Option Addr} {n c : Nat} {ks : Nds} (h : IsNs w (fun g => K ≤ g) p n c ks) (hn : Gp N w W) (hK : N < K) (hM : M ≤ K) : IsNs W (fun g => M ≤ g) p n c ks :=
  (h.keep (fun g h1 h2 => hn.block g h2 (by omega)) hn.size).mono (fun g h1 _ => by omega)
theorem put_view {w6 W : World} {P N Q : Nat} {s : ByteArray} {l : List Ty} {st : St} {b : Er} {d z : ND} {p p0 : Option Addr} {n c n0 c0 : Nat} (hv : Vw w6 P s l st b) (hN : Nv w6 N d p n c) (hR : Nv w6 Q z p0 n0 c0) (hg : Gp N w6 W) (hP : P < N) (hNQ : Q ≠ N) : Vw W P s l st b ∧ Nv W Q z p0 n0 c0 ∧ Kx w6 W := by
  have hkx : Kx w6 W := fun b cs hb => by
    by_cases e : b = N
    · subst e; unfold Nv at hN; rw [hb] at hN; simp at hN
    · exact (hg.block b (lt_of_heap hb) e).trans hb
  obtain ⟨tp, tn, tc, h1, h2⟩ := hv.at_
  have hPs := lt_of_heap h1
  exact ⟨⟨⟨tp, tn, tc, (hg.block P hPs (by omega)).trans h1, h2.keep (fun g hg' _ => hg.block g (by omega) (by omega)) hg.size hkx⟩, hv.a, hv.k, hv.sz⟩, (hg.block Q hR.lt hNQ).trans hR, hkx⟩
theorem st7_gp (w : World) (Q : Nat) (nd : ND) (p : Option Addr) (n c : Nat) : Gp Q w (st7 w Q nd p n c) := by
  have hgs : Gq Q Q w (st7 w Q nd p n c) := st7_gq Q Q nd p n c
  exact ⟨hgs.os, hgs.tape, hgs.output, hgs.size, fun j h1 h2 => hgs.block j h1 h2 h2⟩
set_option maxRecDepth 10000 in
set_option maxHeartbeats 4000000 in
theorem vone_struct (f : Nat) (w : World) (P : Nat) (s : ByteArray) (l : List Ty) (a k : Nat) (c : C) (sub : Its) (m : Value) (h : Vw w P s l (a, k) (0, -1)) (hi : ItL w (fun g => g < P) c sub) (hd : WK c.d) (h1 : c.d.kd = 3) (hk : k ≤ 400) (hl : LK l) (i : Its) (hfi : fnd l c.d.ty = some i) (hB0 : VBlk s l f) (hf : 400 ≤ k + f) (en : Env) :
    Calls Tryz.prog 22 #[.pointer (some ⟨P, 0, none⟩), itV c, m] w fun e w' => Gp P w w' ∧ VoA w P s l a (one (L s) l (rdB (L s) l f) c.d sub en (a, k)) e w' := by
    obtain ⟨q, hq⟩ : ∃ q, q = one (L s) l (rdB (L s) l f) c.d sub en (a, k) := ⟨_, rfl⟩
    have HQ : Hid (q = one (L s) l (rdB (L s) l f) c.d sub en (a, k)) := hq
    rw [← hq]
    clear hq
    rw [itV_eq]
    have hB := Bv.new w P s l (a, k) c sub h hi
    obtain ⟨w2, hw2⟩ : ∃ w2, w2 = (w.alloc (.cells #[.int .i64 (c.d.kd : Int), .int .i64 (c.d.at_ : Int), .string (tx c.d.nm), .string (tx c.d.ty), .int .i64 (c.d.wd : Int), .int .i64 (c.d.od : Int), .bool c.d.sg, .bool c.d.mn, .pointer c.pc, .int .i64 (c.d.ru : Int), .string (tx c.d.f1), .string (tx c.d.l1), .slice c.p c.n c.c] 60)).alloc (.cells #[.string ⟨#[]⟩, .int .i64 0, .int .i64 0, .int .i64 0, .int .i64 0, .string ⟨#[]⟩, .slice none 0 0] 27) := ⟨_, rfl⟩
    obtain ⟨X, hX⟩ : ∃ X, X = w.heap.size := ⟨_, rfl⟩
    rw [← hw2, ← hX] at hB
    have HB2 : Hid (Bv w w2 X (X + 1) P s l (a, k) c sub) := hB
    have HB : Hid (Bv w w2.drew X (X + 1) P s l (a, k) c sub) := hB.on (Bl.refl _).drew
    obtain ⟨x0, x1, x2, x3, x4, x5, x6, x7, x8, x9, x10, x11, x12⟩ := HB.out.iv.facts
    obtain ⟨v1, v2, v3, v4, v5, vz⟩ := HB.out.vw.cells
    have hP2 := HB.out.vw.lt'
    have hX2 := HB.out.iv.lt
    have hQ2 := HB.out.rv.lt
    dsimp only at v2 v3
    have hk1 : ((c.d.kd : Int) == 1) = false := by rw [h1]; rfl
    have hk2 : ((c.d.kd : Int) == 2) = false := by rw [h1]; rfl
    have hk4 : ((c.d.kd : Int) == 4) = false := by rw [h1]; rfl
    have HH : Hid (WK c.d ∧ c.d.kd = 3 ∧ k ≤ 400) := ⟨hd, h1, hk⟩
    obtain ⟨hoki, earl, n2, hch, hea⟩ := hl.at hfi
    have HBK : Hid (VBlk s l f ∧ 400 ≤ k + f ∧ LK l ∧ fnd l c.d.ty = some i ∧ OKI i ∧ chkI earl i [] [] = .ok n2 ∧ ∀ y ∈ earl, fnd l y ≠ none) := ⟨hB0, hf, hl, hfi, hoki, hch, hea⟩
    have mixed : Tryz.prog.follows Departure.mixedOrders = true := by kernel_rfl
    clear hB0 hf hl hfi hoki hch hea h1 hd hk h hi hB x1 x3 x4 x5 x6 x7 x8 x9 x10 x11 x12 v1 v3 v4 v5 vz
    go_enter Tryz.func22, Tryz.ntmps22
    go_upto_region 1 with fail
    rw [← hw2, ← hX]
    clear hw2 hX
    have x0a : w2.cell? ⟨X, 0, none⟩ = some (.int .i64 (c.d.kd : Int)) := x0
    have x0b : (w2.alloc (.cells #[.string ⟨#[]⟩, .int .i64 0, .int .i64 0, .int .i64 0, .int .i64 0, .string ⟨#[]⟩, .slice none 0 0] 27)).cell? ⟨X, 0, none⟩ = some (.int .i64 (c.d.kd : Int)) := at_bl ((Bl.refl _).alloc _) x0a
    have x0c : (w2.alloc (.cells #[.string ⟨#[]⟩, .int .i64 0, .int .i64 0, .int .i64 0, .int .i64 0, .string ⟨#[]⟩, .slice none 0 0] 27)).drew.cell? ⟨X, 0, none⟩ = some (.int .i64 (c.d.kd : Int)) := x0b
    have x2a : w2.cell? ⟨X, 2, none⟩ = some (.string (tx c.d.nm)) := x2
    have x2b : (w2.alloc (.cells #[.string ⟨#[]⟩, .int .i64 0, .int .i64 0, .int .i64 0, .int .i64 0, .string ⟨#[]⟩, .slice none 0 0] 27)).cell? ⟨X, 2, none⟩ = some (.string (tx c.d.nm)) := at_bl ((Bl.refl _).alloc _) x2a
    have x2c : (w2.alloc (.cells #[.string ⟨#[]⟩, .int .i64 0, .int .i64 0, .int .i64 0, .int .i64 0, .string ⟨#[]⟩, .slice none 0 0] 27)).drew.cell? ⟨X, 2, none⟩ = some (.string (tx c.d.nm)) := x2b
    have v2a : w2.cell? ⟨P, 2, none⟩ = some (.int .i64 (a : Int)) := v2
    have v2b : (w2.alloc (.cells #[.string ⟨#[]⟩, .int .i64 0, .int .i64 0, .int .i64 0, .int .i64 0, .string ⟨#[]⟩, .slice none 0 0] 27)).cell? ⟨P, 2, none⟩ = some (.int .i64 (a : Int)) := at_bl ((Bl.refl _).alloc _) v2a
    have v2c : (w2.alloc (.cells #[.string ⟨#[]⟩, .int .i64 0, .int .i64 0, .int .i64 0, .int .i64 0, .string ⟨#[]⟩, .slice none 0 0] 27)).drew.cell? ⟨P, 2, none⟩ = some (.int .i64 (a : Int)) := v2b
    go_region_o
    have HN : Hid (Bv w (w2.alloc (.cells #[.string (tx c.d.nm), .int .i64 (c.d.kd : Int), .int .i64 (a : Int), .int .i64 0, .int .i64 0, .string ⟨#[]⟩, .slice none 0 0] 27)).drew X (X + 1) P s l (a, k) c sub ∧ Nv (w2.alloc (.cells #[.string (tx c.d.nm), .int .i64 (c.d.kd : Int), .int .i64 (a : Int), .int .i64 0, .int .i64 0, .string ⟨#[]⟩, .slice none 0 0] 27)).drew w2.heap.size ⟨c.d.nm, c.d.kd, a, 0, 0, []⟩ none 0 0 ∧ X + 1 < w2.heap.size) := ⟨HB2.out.on ((Bl.refl _).alloc _).drew, new_at _ _, HB2.out.lt.2.2.1⟩
    generalize (w2.alloc (.cells #[.string (tx c.d.nm), .int .i64 (c.d.kd : Int), .int .i64 (a : Int), .int .i64 0, .int .i64 0, .string ⟨#[]⟩, .slice none 0 0] 27)).drew = w3 at HN ⊢
    generalize w2.heap.size = N at HN ⊢
    clear x0 x2 v2 hP2 hX2 hQ2 x0a x0b x0c x2a x2b x2c v2a v2b v2c
    have cB := begin_at w3 P s l a k (0, -1) HN.out.1.vw (by have := HH.out.2.2; omega)
    go_wp2_with fail
    refine cB.mono ?_
    rintro e w4 ⟨rfl, hv4, hg4⟩
    clear cB
    obtain ⟨d1, d2, d3, d4, d5, dz⟩ := hv4.cells
    have hP4 := hv4.lt'
    have hlt := HN.out.1.lt
    have hXN := HN.out.2.2
    have hI4 := HN.out.1.iv.gp hg4 (by omega)
    have hR4 := HN.out.1.rv.gp hg4 (by omega)
    have hN4 := HN.out.2.1.gp hg4 (by omega)
    have hit4 : ItL w4 (fun g => g < P) c sub := HN.out.1.it.keep (fun g h1 h2 => hg4.block g h2 (by omega)) hg4.size (HN.out.1.vw.kx hg4)
    have H4 : Hid (Vw w4 P s l (a, k + 1) (if 400 < k + 1 then wrg (0, -1) 4 a else (0, -1)) ∧ Gp P w3 w4 ∧ Iv w4 X c ∧ Nv w4 (X + 1) ⟨[], 0, 0, 0, 0, []⟩ none 0 0 ∧ Nv w4 N ⟨c.d.nm, c.d.kd, a, 0, 0, []⟩ none 0 0 ∧ ItL w4 (fun g => g < P) c sub) := ⟨hv4, hg4, hI4, hR4, hN4, hit4⟩
    clear d1 d3 dz hv4 hg4 hI4 hR4 hN4 hit4 hlt
    by_cases hk5 : 400 < k + 1
    · have e4 : (if 400 < k + 1 then wrg (0, -1) 4 a else ((0, -1) : Er)) = (4, (a : Int)) := by rw [if_pos hk5]; rfl
      rw [e4] at H4 d4 d5
      dsimp only at d2 d4 d5
      have cI := Is_at 4 (a : Int)
      have hqe : q = .error (4, (a : Int)) := by rw [HQ.out]; unfold one; rw [if_pos (by have := HH.out.2.2; show k = 400; omega)]
      subst hqe
      have hI := H4
      clear e4 hk5
      go_wp2_with fail
      refine (cI _).mono ?_
      rintro e w5 ⟨rfl, hb5⟩
      have hN5 := H4.out.2.2.2.2.1.bl hb5
      have hR5 := H4.out.2.2.2.1.bl hb5
      have hgw : Gp P w w5 := ((Gp.bl HN.out.1.bl).trans H4.out.2.1).trans (Gp.bl hb5)
      have HF := fin_view (nd := ⟨c.d.nm, c.d.kd, a, 0, 0, []⟩) (p := none) (n := 0) (c := 0) hR5 (H4.out.1.bl hb5) hgw (by have := HN.out.1.lt; omega) (by have := HN.out.1.lt; omega)
      have HFH : Hid _ := HF
      obtain ⟨n0, n1, n2, n3, n4, n5, n6⟩ := hN5.cells
      obtain ⟨r0, r1, r2, r3, r4, r5, r6⟩ := hR5.cells
      obtain ⟨q0, q1, q2, q3, q4, q5, q6⟩ := hR5.fz
      dsimp only at n0 n1 n2 n3 n4 n5 n6 r0 r1 r2 r3 r4 r5 r6
      have hN5s := hN5.lt
      have hR5s := hR5.lt
      clear hb5 hN5 hR5 hgw HF d2 d4 d5 cI hI
      go_wp2
      exact bodyPost_ret (v := ndV ⟨c.d.nm, c.d.kd, a, 0, 0, []⟩ none 0 0) (results_cell_row rfl _ _ (X + 1) 27 _ (0, 0) _ rfl HFH.out.1 Tryz.underlying27 rfl infoN) rfl ⟨HFH.out.2.1, ⟨c.d.nm, c.d.kd, a, 0, 0, []⟩, none, 0, .nil, (a, k + 1), (4, (a : Int)), rfl, IsNs.none _ _, HFH.out.2.2.1, r64_0, Nat.le_refl _, rfl, show (4 : Int) ≠ 0 by decide⟩
    · have e4 : (if 400 < k + 1 then wrg (0, -1) 4 a else ((0, -1) : Er)) = (0, -1) := if_neg hk5
      rw [e4] at H4 d4 d5
      dsimp only at d2 d4 d5
      have cI := Is_at 0 (-1)
      have x := H4.out.2.2.1.facts
      obtain ⟨x0, x1, x2, x3, x4, x5, x6, x7, x8, x9, x10, x11, x12⟩ := x
      have HK : Hid (k < 400) := (by omega : k < 400)
      clear e4 hk5
      go_wp2_with fail
      refine (cI _).mono ?_
      rintro e w5 ⟨rfl, hb5⟩
      have x0' := at_bl hb5 x0
      have x4' := at_bl hb5 x4
      have x5' := at_bl hb5 x5
      have x6' := at_bl hb5 x6
      have H5 : Hid (Vw w5 P s l (a, k + 1) (0, -1) ∧ Gp P w w5 ∧ Iv w5 X c ∧ Nv w5 (X + 1) ⟨[], 0, 0, 0, 0, []⟩ none 0 0 ∧ Nv w5 N ⟨c.d.nm, c.d.kd, a, 0, 0, []⟩ none 0 0) := ⟨H4.out.1.bl hb5, ((Gp.bl HN.out.1.bl).trans H4.out.2.1).trans (Gp.bl hb5), H4.out.2.2.1.bl hb5, H4.out.2.2.2.1.bl hb5, H4.out.2.2.2.2.1.bl hb5⟩
      have hX5 := H5.out.2.2.1.lt
      obtain ⟨tp, tn, tc, hv1, hv2⟩ := H5.out.1.at_
      have p0 : w5.drew.cell? ⟨P, 0, none⟩ = some (.slice tp tn tc) := by rw [cell_of (w := w5.drew) hv1]; rfl
      obtain ⟨TY, hTY⟩ : ∃ TY, TY = tx c.d.ty := ⟨_, rfl⟩
      have q3 : w5.drew.cell? ⟨X, 3, none⟩ = some (.string TY) := by rw [hTY]; exact at_bl hb5 x3
      have cS : Hid (∀ wx, Bl w5 wx → Calls Tryz.prog 20 #[.slice tp tn tc, .string TY] wx fun e w' => Bl wx w' ∧ ∃ p n pc cs, e = .returned (.tuple #[.slice p n pc, .bool true]) ∧ ir.Lie w' (fun g => g < P) p n pc cs ∧ Rep w' (fun g => g < P) i cs) := by
        intro wx hb
        rw [hTY]
        refine (itemsOf_at wx (fun g => g < P) _ l c.d.ty (hv2.bl hb) HBK.out.2.2.1.n8).mono ?_
        rintro e w' ⟨hb', hans⟩
        rw [HBK.out.2.2.1.fndF, HBK.out.2.2.2.1] at hans
        exact ⟨hb', hans⟩
      have HBd : Hid (Bl w5 w5.drew) := (Bl.refl _).drew
      clear x4' x5' x6' cI hb5 x0 x1 x2 x3 x4 x5 x6 x7 x8 x9 x10 x11 x12 d2 d4 d5 hv1 hv2 hTY
      go_upto_region 6 with fail
      go_region_held3 (fun wS => wS.cell? ⟨P, 0, none⟩ = some (.slice tp tn tc) ∧ wS.cell? ⟨X, 3, none⟩ = some (.string TY)) (refine ⟨?_, ?_⟩ <;> first | assumption | exact at_bl ((Bl.refl _).drew) (by assumption))
        (first
          | (go_at_call 20; refine (cS.out _ HBd.out).mono ?_; rintro e w6 ⟨hb6, ip, il, ic, ics, rfl, hli, hre⟩
             have HB6 : Hid (Bl w5 w6 ∧ ir.Lie w6 (fun g => g < P) ip il ic ics ∧ Rep w6 (fun g => g < P) i ics) := ⟨HBd.out.trans hb6, hli, hre⟩
             have s0 := at_bl hb6 p0
             have s1 := at_bl hb6 q3
             clear hb6 hli hre))
      clear p0 q3 s0 s1 cS x0' hX5
      have hmm : ∀ w, (Instr.makeMap 100 none).run Tryz.prog w = .ok (.map (some w.heap.size)) (w.alloc (.map #[] 0)) := fun w => by kernel_rfl
      obtain ⟨w7, hw7⟩ : ∃ w7, w7 = w6.alloc (.map #[] 0) := ⟨_, rfl⟩
      obtain ⟨m2, hm2⟩ : ∃ m2, m2 = w6.heap.size := ⟨_, rfl⟩
      have hb7 : Bl w6 w7 := by rw [hw7]; exact (Bl.refl _).alloc _
      have hom : Om w7 m2 noE 0 := by rw [hw7, hm2]; exact Om.made w6
      have hb57 : Bl w5 w7 := HB6.out.1.trans hb7
      have H7 : Hid (Vw w7 P s l (a, k + 1) (0, -1) ∧ Gp P w w7 ∧ Nv w7 (X + 1) ⟨[], 0, 0, 0, 0, []⟩ none 0 0 ∧ Nv w7 N ⟨c.d.nm, c.d.kd, a, 0, 0, []⟩ none 0 0 ∧ w5.heap.size ≤ m2 ∧ w5.heap.size ≤ w7.heap.size) := ⟨H5.out.1.bl hb57, H5.out.2.1.trans (Gp.bl hb57), H5.out.2.2.2.1.bl hb57, H5.out.2.2.2.2.bl hb57, by rw [hm2]; exact HB6.out.1.size, hb57.size⟩
      have HL : Hid (P < X ∧ X + 1 < N ∧ X = w.heap.size ∧ N < w5.heap.size) := ⟨HN.out.1.lt.1, HN.out.2.2, HN.out.1.lt.2.2.2, H5.out.2.2.2.2.lt⟩
      have cB := HBK.out.1 w7 P m2 (a, k + 1) i ip il ic ics noE noE 0 earl [] [] n2 H7.out.1 HBK.out.2.2.2.2.1 (HB6.out.2.1.keep (fun g _ hg => Below.block hb7 g hg) hb7.size) (HB6.out.2.2.keep (fun g _ hg => Below.block hb7 g hg) hb7.size (Kx.bl hb7)) hom (Nat.zero_le _) (by have := H7.out.2.2.2.2.1; have := HL.out; omega) (fun y hy => rfl) (fun y hy => hy) HBK.out.2.2.2.2.2.1 HBK.out.2.2.2.2.2.2 (by have := HBK.out.2.1; dsimp only; omega) (by have := HK.out; dsimp only; omega) (fun t n h => by cases h)
      clear hb7 hom hb57
      go_wp2_with fail
      try rw [← hw7, ← hm2]
      clear hw7 hm2
      refine cB.mono ?_
      rintro e w8 ⟨hg8, kp, kc, ks, st', b, rfl, hks, hv8, hle, hres, _⟩
      have hlt := HL.out
      have hm5 := H7.out.2.2.2.2.1
      have hP8 := hv8.lt'
      have hN8 : Nv w8 N ⟨c.d.nm, c.d.kd, a, 0, 0, []⟩ none 0 0 := (hg8.block N H7.out.2.2.2.1.lt (by omega) (by omega)).trans H7.out.2.2.2.1
      have hR8 : Nv w8 (X + 1) ⟨[], 0, 0, 0, 0, []⟩ none 0 0 := (hg8.block (X + 1) H7.out.2.2.1.lt (by omega) (by omega)).trans H7.out.2.2.1
      have hgw : Gp P w w8 := hg8.below H7.out.2.1 (by omega)
      have hone : q = body (L s) l (rdB (L s) l f) c.d sub en a (k + 1) := by rw [HQ.out]; unfold one; rw [if_neg (by have := HK.out; dsimp only; omega)]
      have hrn : ResN q ⟨c.d.nm, 3, a, st'.1 - a, 0, []⟩ ks st' b := by
        rw [hone]
        unfold body
        rw [if_neg (by rw [HH.out.2.1]; decide), if_neg (by rw [HH.out.2.1]; decide), if_pos HH.out.2.1, HBK.out.2.2.2.1]
        dsimp only
        generalize rdB (L s) l f i noE (a, k + 1) = r at hres ⊢
        cases r with
        | error er => exact hres
        | ok r => obtain ⟨ks', st2⟩ := r; obtain ⟨rfl, rfl, rfl⟩ := hres; exact ⟨rfl, rfl, rfl, rfl⟩
      have HR : Hid (a ≤ st'.1 ∧ ResN q ⟨c.d.nm, 3, a, st'.1 - a, 0, []⟩ ks st' b) := ⟨hle, hrn⟩
      have hgn : Gp N w8 (w8.setCell ⟨N, 6, none⟩ (.slice kp ks.len kc)) := Gp.set _
      have hpv := put_view hv8 hN8 hR8 hgn (by omega) (by omega)
      have H9 : Hid (Vw (w8.setCell ⟨N, 6, none⟩ (.slice kp ks.len kc)) P s l st' b ∧ Nv (w8.setCell ⟨N, 6, none⟩ (.slice kp ks.len kc)) N ⟨c.d.nm, c.d.kd, a, 0, 0, []⟩ kp ks.len kc ∧ Nv (w8.setCell ⟨N, 6, none⟩ (.slice kp ks.len kc)) (X + 1) ⟨[], 0, 0, 0, 0, []⟩ none 0 0 ∧ Gp P w (w8.setCell ⟨N, 6, none⟩ (.slice kp ks.len kc)) ∧ IsNs (w8.setCell ⟨N, 6, none⟩ (.slice kp ks.len kc)) (fun g => w5.heap.size ≤ g) kp ks.len kc ks) :=
        ⟨hpv.1, hN8.setK _ _ _, hpv.2.1, gp_over hgw hgn (by omega), isns_over hks hgn (by have := H7.out.2.2.2.2.2; omega) H7.out.2.2.2.2.2⟩
      have n6 := hN8.cells.2.2.2.2.2.2
      have y6 := hN8.fz.2.2.2.2.2.2
      have hN8s := hN8.lt
      clear hres hrn hle hone hgw hv8 hR8 hN8 hks hg8 hgn hpv cB hlt hm5
      try dsimp only at n6
      go_upto_region 21 with fail
      generalize w8.setCell ⟨N, 6, none⟩ (.slice kp ks.len kc) = w9 at H9 ⊢
      clear n6 y6 hN8s hP8
      have hwr : IntKind.i64.wrap (((st'.1 : Nat) : Int) - (a : Int)) = ((st'.1 - a : Nat) : Int) := by rw [IntKind.wrap_i64]; have := H9.out.1.a; have := H9.out.1.sz; have := HR.out.1; omega
      obtain ⟨Z, hZ⟩ : ∃ Z, Z = st'.1 - a := ⟨_, rfl⟩
      rw [← hZ] at hwr
      have HZ : Hid (Z = st'.1 - a) := hZ
      obtain ⟨B, hB⟩ : ∃ B, B = st'.1 := ⟨_, rfl⟩
      rw [← hB] at hwr
      clear hZ
      have hgn : Gp N w9 (w9.setCell ⟨N, 3, none⟩ (.int .i64 (Z : Int))).drew := (Gp.set _).trans (Gp.bl (Bl.refl _).drew)
      have HS : Hid (Vw (w9.setCell ⟨N, 3, none⟩ (.int .i64 (Z : Int))).drew P s l st' b ∧ Nv (w9.setCell ⟨N, 3, none⟩ (.int .i64 (Z : Int))).drew N ⟨c.d.nm, c.d.kd, a, Z, 0, []⟩ kp ks.len kc ∧ Nv (w9.setCell ⟨N, 3, none⟩ (.int .i64 (Z : Int))).drew (X + 1) ⟨[], 0, 0, 0, 0, []⟩ none 0 0 ∧ Gp N w9 (w9.setCell ⟨N, 3, none⟩ (.int .i64 (Z : Int))).drew) := by
        have h1 := put_view H9.out.1 H9.out.2.1 H9.out.2.2.1 hgn (by have := HL.out; omega) (by have := HL.out; omega)
        exact ⟨h1.1, (H9.out.2.1.setSz Z).bl (Bl.refl _).drew, h1.2.1, hgn⟩
      have H9d : Hid (Vw w9.drew P s l st' b ∧ Nv w9.drew N ⟨c.d.nm, c.d.kd, a, 0, 0, []⟩ kp ks.len kc) := ⟨H9.out.1.bl (Bl.refl _).drew, H9.out.2.1.bl (Bl.refl _).drew⟩
      obtain ⟨d1, d2, d3, d4, d5, dz⟩ := H9d.out.1.cells
      obtain ⟨n0, n1, n2, n3, n4, n5, n6⟩ := H9d.out.2.cells
      obtain ⟨y0, y1, y2, y3, y4, y5, y6⟩ := H9d.out.2.fz
      dsimp only at d2 n2 n3
      rw [← hB] at d2
      have d2' : w9.cell? ⟨P, 2, none⟩ = some (.int .i64 (B : Int)) := d2
      have n2' : w9.cell? ⟨N, 2, none⟩ = some (.int .i64 (a : Int)) := n2
      have n3' : w9.cell? ⟨N, 3, none⟩ = some (.int .i64 ((0 : Nat) : Int)) := n3
      have hN9s := H9.out.2.1.lt
      have hP9s := H9.out.1.lt'
      clear d1 d3 d4 d5 dz n0 n1 n4 n5 n6 y0 y1 y2 y4 y5 y6 hB hgn
      go_region_o
      clear d2 n2 n3 y3 d2' n2' n3' hN9s hP9s hwr
      generalize (w9.setCell ⟨N, 3, none⟩ (.int .i64 (Z : Int))).drew = w10 at HS ⊢
      have hfg := st7_gp w10 (X + 1) ⟨c.d.nm, c.d.kd, a, Z, 0, []⟩ kp ks.len kc
      have hf1 := put_view HS.out.1 HS.out.2.2.1 HS.out.2.1 hfg (by have := HL.out; omega) (by have := HL.out; omega)
      have HF : Hid (Nv (st7 w10 (X + 1) ⟨c.d.nm, c.d.kd, a, Z, 0, []⟩ kp ks.len kc) (X + 1) ⟨c.d.nm, c.d.kd, a, Z, 0, []⟩ kp ks.len kc ∧ Vw (st7 w10 (X + 1) ⟨c.d.nm, c.d.kd, a, Z, 0, []⟩ kp ks.len kc) P s l st' b ∧ Gp (X + 1) w10 (st7 w10 (X + 1) ⟨c.d.nm, c.d.kd, a, Z, 0, []⟩ kp ks.len kc)) := ⟨HS.out.2.2.1.store _ _ _ _, hf1.1, hfg⟩
      obtain ⟨n0, n1, n2, n3, n4, n5, n6⟩ := HS.out.2.1.cells
      obtain ⟨r0, r1, r2, r3, r4, r5, r6⟩ := HS.out.2.2.1.cells
      obtain ⟨q0, q1, q2, q3, q4, q5, q6⟩ := HS.out.2.2.1.fz
      dsimp only at n0 n1 n2 n3 n4 n5 n6 r0 r1 r2 r3 r4 r5 r6
      have hN7s := HS.out.2.1.lt
      have hR7s := HS.out.2.2.1.lt
      clear hfg hf1
      go_wp2
      refine bodyPost_ret (v := ndV ⟨c.d.nm, c.d.kd, a, Z, 0, []⟩ kp ks.len kc) (results_cell_row rfl _ _ (X + 1) 27 _ (0, 0) _ rfl HF.out.1 Tryz.underlying27 rfl infoN) rfl ?_
      refine ⟨gp_over (gp_over H9.out.2.2.2.1 HS.out.2.2.2 (by have := HL.out; omega)) HF.out.2.2 (by have := HL.out; omega), ⟨c.d.nm, c.d.kd, a, Z, 0, []⟩, kp, kc, ks, st', b, rfl, isns_over (isns_over H9.out.2.2.2.2 HS.out.2.2.2 (by have := HL.out; omega) (Nat.le_refl _)) HF.out.2.2 (by have := HL.out; omega) (by have := HL.out; omega), HF.out.2.1, r64_0, HR.out.1, ?_⟩
      rw [HH.out.2.1, HZ.out]
      exact HR.out.2
end Go.Proofs.YtococaecjecjgaaGreatDoor.ly
namespace Go.Proofs.YtococaecjecjgaaGreatDoor.ly
set_option linter.unusedVariables false
open Go.ChangeShapes Go.WideShapes Go.ChangeAt Go.RowKit
open mem lx ex tm num

attribute [local go_sem] World.cell?_alloc_some
theorem r64_1 : R64 1 := by unfold R64; omega
def VowA (w : World) (P m2 : Nat) (s : ByteArray) (l : List Ty) (a : Nat) (names : List (List UInt8)) (en' : Env) (q : Except Er (ND × Nds × St)) (e : Ending) (w' : World) : Prop :=
  Gq P m2 w w' ∧ ∃ nd p c ks st' b, e = .returned (ndV nd p ks.len c) ∧ IsNs w' (fun g => w.heap.size ≤ g) p ks.len c ks ∧ Vw w' P s l st' b ∧ R64 nd.n ∧ a ≤ st'.1 ∧ ResN q nd ks st' b ∧ (b.1 = 0 → ∃ en2 k2, Om w' m2 en2 k2 ∧ k2 ≤ st'.2 ∧ ∀ y ∈ names, en2 y = en' y)
set_option maxRecDepth 10000 in
set_option maxHeartbeats 4000000 in
theorem vone_when (f : Nat) (w : World) (P : Nat) (s : ByteArray) (l : List Ty) (a k : Nat) (c : C) (sub : Its) (m2 k0 : Nat) (en en' : Env) (earl names seen n1 : List (List UInt8)) (h : Vw w P s l (a, k) (0, -1)) (hi : ItL w (fun g => g < P) c sub) (hd : WD c.d) (h1 : c.d.kd = 4) (hs : OKI sub) (hk : k ≤ 400) (hm : Om w m2 en' k0) (hk0 : k0 ≤ k) (hP2m : P < m2) (hag : ∀ y ∈ seen, en' y = en y) (hsn : ∀ y ∈ seen, y ∈ names) (hmis : misO seen c.d.ct = none) (hch : chkI earl sub names seen = .ok n1) (hea : ∀ y ∈ earl, fnd l y ≠ none) (hB0 : VBlk s l f) (hf : 400 ≤ k + f) (hr : ∀ t n, en t = some n → R64 n) :
    Calls Tryz.prog 22 #[.pointer (some ⟨P, 0, none⟩), itV c, .map (some m2)] w fun e w' => VowA w P m2 s l a names en' (one (L s) l (rdB (L s) l f) c.d sub en (a, k)) e w' := by
    obtain ⟨q, hq⟩ : ∃ q, q = one (L s) l (rdB (L s) l f) c.d sub en (a, k) := ⟨_, rfl⟩
    have HQ : Hid (q = one (L s) l (rdB (L s) l f) c.d sub en (a, k)) := hq
    rw [← hq]
    clear hq
    rw [itV_eq]
    have hB := Bv.new w P s l (a, k) c sub h hi
    obtain ⟨w2, hw2⟩ : ∃ w2, w2 = (w.alloc (.cells #[.int .i64 (c.d.kd : Int), .int .i64 (c.d.at_ : Int), .string (tx c.d.nm), .string (tx c.d.ty), .int .i64 (c.d.wd : Int), .int .i64 (c.d.od : Int), .bool c.d.sg, .bool c.d.mn, .pointer c.pc, .int .i64 (c.d.ru : Int), .string (tx c.d.f1), .string (tx c.d.l1), .slice c.p c.n c.c] 60)).alloc (.cells #[.string ⟨#[]⟩, .int .i64 0, .int .i64 0, .int .i64 0, .int .i64 0, .string ⟨#[]⟩, .slice none 0 0] 27) := ⟨_, rfl⟩
    obtain ⟨X, hX⟩ : ∃ X, X = w.heap.size := ⟨_, rfl⟩
    rw [← hw2, ← hX] at hB
    have HB2 : Hid (Bv w w2 X (X + 1) P s l (a, k) c sub) := hB
    have HB : Hid (Bv w w2.drew X (X + 1) P s l (a, k) c sub) := hB.on (Bl.refl _).drew
    obtain ⟨x0, x1, x2, x3, x4, x5, x6, x7, x8, x9, x10, x11, x12⟩ := HB.out.iv.facts
    obtain ⟨v1, v2, v3, v4, v5, vz⟩ := HB.out.vw.cells
    have hP2 := HB.out.vw.lt'
    have hX2 := HB.out.iv.lt
    have hQ2 := HB.out.rv.lt
    dsimp only at v2 v3
    have hk1 : ((c.d.kd : Int) == 1) = false := by rw [h1]; rfl
    have hk2 : ((c.d.kd : Int) == 2) = false := by rw [h1]; rfl
    have hk4 : ((c.d.kd : Int) == 4) = true := by rw [h1]; rfl
    have HH : Hid (WD c.d ∧ c.d.kd = 4 ∧ k ≤ 400) := ⟨hd, h1, hk⟩
    have HMM : Hid (Om w m2 en' k0 ∧ P < m2 ∧ k0 ≤ k) := ⟨hm, hP2m, hk0⟩
    have HBK : Hid (VBlk s l f ∧ 400 ≤ k + f ∧ OKI sub ∧ (∀ y ∈ seen, en' y = en y) ∧ (∀ y ∈ seen, y ∈ names) ∧ misO seen c.d.ct = none ∧ chkI earl sub names seen = .ok n1 ∧ ∀ y ∈ earl, fnd l y ≠ none) := ⟨hB0, hf, hs, hag, hsn, hmis, hch, hea⟩
    have HML : Hid (m2 < w.heap.size) := Om.blt hm
    have HRR : Hid (∀ t n, en t = some n → R64 n) := hr
    have mixed : Tryz.prog.follows Departure.mixedOrders = true := by kernel_rfl
    clear hr hB0 hf hs hag hsn hmis hch hea hk0 hm hP2m h1 hd hk h hi hB x1 x3 x4 x5 x6 x7 x8 x9 x10 x11 x12 v1 v3 v4 v5 vz
    go_enter Tryz.func22, Tryz.ntmps22
    go_upto_region 1 with fail
    rw [← hw2, ← hX]
    clear hw2 hX
    have x0a : w2.cell? ⟨X, 0, none⟩ = some (.int .i64 (c.d.kd : Int)) := x0
    have x0b : (w2.alloc (.cells #[.string ⟨#[]⟩, .int .i64 0, .int .i64 0, .int .i64 0, .int .i64 0, .string ⟨#[]⟩, .slice none 0 0] 27)).cell? ⟨X, 0, none⟩ = some (.int .i64 (c.d.kd : Int)) := at_bl ((Bl.refl _).alloc _) x0a
    have x0c : (w2.alloc (.cells #[.string ⟨#[]⟩, .int .i64 0, .int .i64 0, .int .i64 0, .int .i64 0, .string ⟨#[]⟩, .slice none 0 0] 27)).drew.cell? ⟨X, 0, none⟩ = some (.int .i64 (c.d.kd : Int)) := x0b
    have x2a : w2.cell? ⟨X, 2, none⟩ = some (.string (tx c.d.nm)) := x2
    have x2b : (w2.alloc (.cells #[.string ⟨#[]⟩, .int .i64 0, .int .i64 0, .int .i64 0, .int .i64 0, .string ⟨#[]⟩, .slice none 0 0] 27)).cell? ⟨X, 2, none⟩ = some (.string (tx c.d.nm)) := at_bl ((Bl.refl _).alloc _) x2a
    have x2c : (w2.alloc (.cells #[.string ⟨#[]⟩, .int .i64 0, .int .i64 0, .int .i64 0, .int .i64 0, .string ⟨#[]⟩, .slice none 0 0] 27)).drew.cell? ⟨X, 2, none⟩ = some (.string (tx c.d.nm)) := x2b
    have v2a : w2.cell? ⟨P, 2, none⟩ = some (.int .i64 (a : Int)) := v2
    have v2b : (w2.alloc (.cells #[.string ⟨#[]⟩, .int .i64 0, .int .i64 0, .int .i64 0, .int .i64 0, .string ⟨#[]⟩, .slice none 0 0] 27)).cell? ⟨P, 2, none⟩ = some (.int .i64 (a : Int)) := at_bl ((Bl.refl _).alloc _) v2a
    have v2c : (w2.alloc (.cells #[.string ⟨#[]⟩, .int .i64 0, .int .i64 0, .int .i64 0, .int .i64 0, .string ⟨#[]⟩, .slice none 0 0] 27)).drew.cell? ⟨P, 2, none⟩ = some (.int .i64 (a : Int)) := v2b
    go_region_o
    have HN : Hid (Bv w (w2.alloc (.cells #[.string (tx c.d.nm), .int .i64 (c.d.kd : Int), .int .i64 (a : Int), .int .i64 0, .int .i64 0, .string ⟨#[]⟩, .slice none 0 0] 27)).drew X (X + 1) P s l (a, k) c sub ∧ Nv (w2.alloc (.cells #[.string (tx c.d.nm), .int .i64 (c.d.kd : Int), .int .i64 (a : Int), .int .i64 0, .int .i64 0, .string ⟨#[]⟩, .slice none 0 0] 27)).drew w2.heap.size ⟨c.d.nm, c.d.kd, a, 0, 0, []⟩ none 0 0 ∧ X + 1 < w2.heap.size) := ⟨HB2.out.on ((Bl.refl _).alloc _).drew, new_at _ _, HB2.out.lt.2.2.1⟩
    generalize (w2.alloc (.cells #[.string (tx c.d.nm), .int .i64 (c.d.kd : Int), .int .i64 (a : Int), .int .i64 0, .int .i64 0, .string ⟨#[]⟩, .slice none 0 0] 27)).drew = w3 at HN ⊢
    generalize w2.heap.size = N at HN ⊢
    clear x0 x2 v2 hP2 hX2 hQ2 x0a x0b x0c x2a x2b x2c v2a v2b v2c
    have cB := begin_at w3 P s l a k (0, -1) HN.out.1.vw (by have := HH.out.2.2; omega)
    go_wp2_with fail
    refine cB.mono ?_
    rintro e w4 ⟨rfl, hv4, hg4⟩
    clear cB
    obtain ⟨d1, d2, d3, d4, d5, dz⟩ := hv4.cells
    have hP4 := hv4.lt'
    have hlt := HN.out.1.lt
    have hXN := HN.out.2.2
    have hI4 := HN.out.1.iv.gp hg4 (by omega)
    have hR4 := HN.out.1.rv.gp hg4 (by omega)
    have hN4 := HN.out.2.1.gp hg4 (by omega)
    have hit4 : ItL w4 (fun g => g < P) c sub := HN.out.1.it.keep (fun g h1 h2 => hg4.block g h2 (by omega)) hg4.size (HN.out.1.vw.kx hg4)
    have H4 : Hid (Vw w4 P s l (a, k + 1) (if 400 < k + 1 then wrg (0, -1) 4 a else (0, -1)) ∧ Gp P w3 w4 ∧ Iv w4 X c ∧ Nv w4 (X + 1) ⟨[], 0, 0, 0, 0, []⟩ none 0 0 ∧ Nv w4 N ⟨c.d.nm, c.d.kd, a, 0, 0, []⟩ none 0 0 ∧ ItL w4 (fun g => g < P) c sub) := ⟨hv4, hg4, hI4, hR4, hN4, hit4⟩
    clear d1 d3 dz hv4 hg4 hI4 hR4 hN4 hit4 hlt
    by_cases hk5 : 400 < k + 1
    · have e4 : (if 400 < k + 1 then wrg (0, -1) 4 a else ((0, -1) : Er)) = (4, (a : Int)) := by rw [if_pos hk5]; rfl
      rw [e4] at H4 d4 d5
      dsimp only at d2 d4 d5
      have cI := Is_at 4 (a : Int)
      have hqe : q = .error (4, (a : Int)) := by rw [HQ.out]; unfold one; rw [if_pos (by have := HH.out.2.2; show k = 400; omega)]
      subst hqe
      have hI := H4
      clear e4 hk5
      go_wp2_with fail
      refine (cI _).mono ?_
      rintro e w5 ⟨rfl, hb5⟩
      have hN5 := H4.out.2.2.2.2.1.bl hb5
      have hR5 := H4.out.2.2.2.1.bl hb5
      have hgw : Gp P w w5 := ((Gp.bl HN.out.1.bl).trans H4.out.2.1).trans (Gp.bl hb5)
      have HF := fin_view (nd := ⟨c.d.nm, c.d.kd, a, 0, 0, []⟩) (p := none) (n := 0) (c := 0) hR5 (H4.out.1.bl hb5) hgw (by have := HN.out.1.lt; omega) (by have := HN.out.1.lt; omega)
      have HFH : Hid _ := HF
      obtain ⟨n0, n1, n2, n3, n4, n5, n6⟩ := hN5.cells
      obtain ⟨r0, r1, r2, r3, r4, r5, r6⟩ := hR5.cells
      obtain ⟨q0, q1, q2, q3, q4, q5, q6⟩ := hR5.fz
      dsimp only at n0 n1 n2 n3 n4 n5 n6 r0 r1 r2 r3 r4 r5 r6
      have hN5s := hN5.lt
      have hR5s := hR5.lt
      clear hb5 hN5 hR5 hgw HF d2 d4 d5 cI hI
      go_wp2
      exact bodyPost_ret (v := ndV ⟨c.d.nm, c.d.kd, a, 0, 0, []⟩ none 0 0) (results_cell_row rfl _ _ (X + 1) 27 _ (0, 0) _ rfl HFH.out.1 Tryz.underlying27 rfl infoN) rfl ⟨Gq.gp HFH.out.2.1, ⟨c.d.nm, c.d.kd, a, 0, 0, []⟩, none, 0, .nil, (a, k + 1), (4, (a : Int)), rfl, IsNs.none _ _, HFH.out.2.2.1, r64_0, Nat.le_refl _, ⟨rfl, show (4 : Int) ≠ 0 by decide⟩, fun h => absurd h (show ¬ (4 : Int) = 0 by decide)⟩
    · have e4 : (if 400 < k + 1 then wrg (0, -1) 4 a else ((0, -1) : Er)) = (0, -1) := if_neg hk5
      rw [e4] at H4 d4 d5
      dsimp only at d2 d4 d5
      have cI := Is_at 0 (-1)
      have x := H4.out.2.2.1.facts
      obtain ⟨x0, x1, x2, x3, x4, x5, x6, x7, x8, x9, x10, x11, x12⟩ := x
      have HK : Hid (k < 400) := (by omega : k < 400)
      clear e4 hk5
      go_wp2_with fail
      refine (cI _).mono ?_
      rintro e w5 ⟨rfl, hb5⟩
      have x0' := at_bl hb5 x0
      have x4' := at_bl hb5 x4
      have x5' := at_bl hb5 x5
      have x6' := at_bl hb5 x6
      have H5 : Hid (Vw w5 P s l (a, k + 1) (0, -1) ∧ Gp P w w5 ∧ Iv w5 X c ∧ Nv w5 (X + 1) ⟨[], 0, 0, 0, 0, []⟩ none 0 0 ∧ Nv w5 N ⟨c.d.nm, c.d.kd, a, 0, 0, []⟩ none 0 0) := ⟨H4.out.1.bl hb5, ((Gp.bl HN.out.1.bl).trans H4.out.2.1).trans (Gp.bl hb5), H4.out.2.2.1.bl hb5, H4.out.2.2.2.1.bl hb5, H4.out.2.2.2.2.1.bl hb5⟩
      have hX5 := H5.out.2.2.1.lt
      have hit5b : ItL w5 (fun g => g < P) c sub := H4.out.2.2.2.2.2.bl hb5
      have hit5 : IsO w5 c.pc c.d.ct := H4.out.2.2.2.2.2.1.keep (Kx.bl hb5)
      have x8' : w5.cell? ⟨X, 8, none⟩ = some (.pointer c.pc) := H5.out.2.2.1.facts.2.2.2.2.2.2.2.2.1
      clear x4' x5' x6' cI hb5 x0 x1 x2 x3 x4 x5 x6 x7 x8 x9 x10 x11 x12 d2 d4 d5
      obtain ⟨x, hct, hwx⟩ := wx_of HH.out.1 (Or.inr (Or.inl HH.out.2.1))
      rw [hct] at hit5
      have hX0 : IsX w5 (.pointer c.pc) x := hit5
      have hm2l := HML.out
      have hom5 : Om w5 m2 en' k0 := HMM.out.1.step (gp_grown H5.out.2.1) (fun e => by injection e with e; have := HMM.out.2.1; omega)
      have cC := vcount_at w5 P s l (a, k + 1) (0, -1) c.pc (.map (some m2)) en' x H5.out.1 hX0 (wx_okb hwx) hom5.isM
      have HEV : Hid (evO en c.d.ct = ev en' x) := by
        show evO en c.d.ct = ev en' x
        rw [← evO_agree HBK.out.2.2.2.1 HBK.out.2.2.2.2.2.1, hct]
        rfl
      obtain ⟨qe, hqe0⟩ : ∃ qe, qe = ev en' x := ⟨_, rfl⟩
      rw [← hqe0] at cC HEV
      have HOM : Hid (Om w5 m2 en' k0 ∧ IsO w5 c.pc c.d.ct ∧ ItL w5 (fun g => g < P) c sub) := ⟨hom5, by rw [hct]; exact hit5, hit5b⟩
      have HL : Hid (P < X ∧ X + 1 < N ∧ X = w.heap.size ∧ N < w5.heap.size ∧ m2 < w.heap.size) := ⟨HN.out.1.lt.1, HN.out.2.2, HN.out.1.lt.2.2.2, H5.out.2.2.2.2.lt, hm2l⟩
      clear hit5 hit5b hX0 hom5 hct hwx hqe0 hm2l
      go_wp2_with fail
      refine cC.mono ?_
      rintro e w6 ⟨hg6, hans⟩
      obtain ⟨n, b, rfl, hv6, hnb⟩ : ∃ n b, e = .returned (.int .i64 n) ∧ Vw w6 P s l (a, k + 1) b ∧ ((qe = .ok n ∧ b = (0, -1)) ∨ ∃ p : Nat, qe = .error p ∧ b = (5, (p : Int)) ∧ n = 0) := by
        cases qe with
        | ok n => exact ⟨n, _, hans.1, hans.2, Or.inl ⟨rfl, rfl⟩⟩
        | error p => exact ⟨0, _, hans.1, hans.2, Or.inr ⟨p, rfl, rfl, rfl⟩⟩
      have hlt := HL.out
      have hI6 := H5.out.2.2.1.gp hg6 (by omega)
      have hR6 := H5.out.2.2.2.1.gp hg6 (by omega)
      have hN6 := H5.out.2.2.2.2.gp hg6 (by omega)
      have hom6 : Om w6 m2 en' k0 := HOM.out.1.step (gp_grown hg6) (fun e => by injection e with e; have := HMM.out.2.1; omega)
      have hone : q = body (L s) l (rdB (L s) l f) c.d sub en a (k + 1) := by rw [HQ.out]; unfold one; rw [if_neg (by have := HK.out; dsimp only; omega)]
      have hx6 : Kx w5 w6 := H5.out.1.kx hg6
      clear hans cC
      by_cases hn : n = 0
      · subst hn
        obtain ⟨kp, ks, kc, hkp, hks', hkc⟩ : ∃ (kp : Option Addr) (ks : Nds) (kc : Nat), kp = none ∧ ks = .nil ∧ kc = 0 := ⟨_, _, _, rfl, rfl, rfl⟩
        obtain ⟨st', hst'⟩ : ∃ st' : St, st' = (a, k + 1) := ⟨_, rfl⟩
        have hrn : ResN q ⟨c.d.nm, 4, a, st'.1 - a, 0, []⟩ ks st' b := by
          rw [hone, hst', hks']
          unfold body
          rw [if_neg (by rw [HH.out.2.1]; decide), if_neg (by rw [HH.out.2.1]; decide), if_neg (by rw [HH.out.2.1]; decide), HEV.out]
          rcases hnb with ⟨e1, rfl⟩ | ⟨p, e1, rfl, _⟩
          · rw [e1]
            dsimp only
            rw [if_pos rfl]
            exact ⟨by rw [Nat.sub_self], rfl, rfl, rfl⟩
          · rw [e1]
            exact ⟨rfl, show (5 : Int) ≠ 0 by decide⟩
        have HR : Hid (a ≤ st'.1 ∧ ResN q ⟨c.d.nm, 4, a, st'.1 - a, 0, []⟩ ks st' b) := ⟨by rw [hst']; exact Nat.le_refl _, hrn⟩
        have H9 : Hid (Vw w6 P s l st' b ∧ Nv w6 N ⟨c.d.nm, c.d.kd, a, 0, 0, []⟩ kp ks.len kc ∧ Nv w6 (X + 1) ⟨[], 0, 0, 0, 0, []⟩ none 0 0 ∧ Gq P m2 w w6 ∧ IsNs w6 (fun g => w5.heap.size ≤ g) kp ks.len kc ks ∧ Om w6 m2 en' k0 ∧ k0 ≤ st'.2) := by
          rw [hkp, hks', hkc, hst']
          exact ⟨hv6, hN6, hR6, Gq.gp (H5.out.2.1.trans hg6), IsNs.none _ _, hom6, by have := HMM.out.2.2; dsimp only; omega⟩
        clear hrn hone hnb hv6 hI6 hR6 hN6 hom6 hx6 hg6 hlt hkp hks' hkc hst' x8' x0' hX5
        go_upto_region 21 with fail
        generalize w6 = w9 at H9 ⊢
        have hwr : IntKind.i64.wrap (((st'.1 : Nat) : Int) - (a : Int)) = ((st'.1 - a : Nat) : Int) := by rw [IntKind.wrap_i64]; have := H9.out.1.a; have := H9.out.1.sz; have := HR.out.1; omega
        obtain ⟨Z, hZ⟩ : ∃ Z, Z = st'.1 - a := ⟨_, rfl⟩
        rw [← hZ] at hwr
        have HZ : Hid (Z = st'.1 - a) := hZ
        obtain ⟨B, hB⟩ : ∃ B, B = st'.1 := ⟨_, rfl⟩
        rw [← hB] at hwr
        clear hZ
        have hgn : Gp N w9 (w9.setCell ⟨N, 3, none⟩ (.int .i64 (Z : Int))).drew := (Gp.set _).trans (Gp.bl (Bl.refl _).drew)
        have HS : Hid (Vw (w9.setCell ⟨N, 3, none⟩ (.int .i64 (Z : Int))).drew P s l st' b ∧ Nv (w9.setCell ⟨N, 3, none⟩ (.int .i64 (Z : Int))).drew N ⟨c.d.nm, c.d.kd, a, Z, 0, []⟩ kp ks.len kc ∧ Nv (w9.setCell ⟨N, 3, none⟩ (.int .i64 (Z : Int))).drew (X + 1) ⟨[], 0, 0, 0, 0, []⟩ none 0 0 ∧ Gp N w9 (w9.setCell ⟨N, 3, none⟩ (.int .i64 (Z : Int))).drew) := by
          have h1 := put_view H9.out.1 H9.out.2.1 H9.out.2.2.1 hgn (by have := HL.out; omega) (by have := HL.out; omega)
          exact ⟨h1.1, (H9.out.2.1.setSz Z).bl (Bl.refl _).drew, h1.2.1, hgn⟩
        have H9d : Hid (Vw w9.drew P s l st' b ∧ Nv w9.drew N ⟨c.d.nm, c.d.kd, a, 0, 0, []⟩ kp ks.len kc) := ⟨H9.out.1.bl (Bl.refl _).drew, H9.out.2.1.bl (Bl.refl _).drew⟩
        obtain ⟨d1, d2, d3, d4, d5, dz⟩ := H9d.out.1.cells
        obtain ⟨n0, n1, n2, n3, n4, n5, n6⟩ := H9d.out.2.cells
        obtain ⟨y0, y1, y2, y3, y4, y5, y6⟩ := H9d.out.2.fz
        dsimp only at d2 n2 n3
        rw [← hB] at d2
        have d2' : w9.cell? ⟨P, 2, none⟩ = some (.int .i64 (B : Int)) := d2
        have n2' : w9.cell? ⟨N, 2, none⟩ = some (.int .i64 (a : Int)) := n2
        have n3' : w9.cell? ⟨N, 3, none⟩ = some (.int .i64 ((0 : Nat) : Int)) := n3
        have hN9s := H9.out.2.1.lt
        have hP9s := H9.out.1.lt'
        clear d1 d3 d4 d5 dz n0 n1 n4 n5 n6 y0 y1 y2 y4 y5 y6 hB hgn
        go_region_o
        clear d2 n2 n3 y3 d2' n2' n3' hN9s hP9s hwr
        generalize (w9.setCell ⟨N, 3, none⟩ (.int .i64 (Z : Int))).drew = w10 at HS ⊢
        have hfg := st7_gp w10 (X + 1) ⟨c.d.nm, c.d.kd, a, Z, 0, []⟩ kp ks.len kc
        have hf1 := put_view HS.out.1 HS.out.2.2.1 HS.out.2.1 hfg (by have := HL.out; omega) (by have := HL.out; omega)
        have HF : Hid (Nv (st7 w10 (X + 1) ⟨c.d.nm, c.d.kd, a, Z, 0, []⟩ kp ks.len kc) (X + 1) ⟨c.d.nm, c.d.kd, a, Z, 0, []⟩ kp ks.len kc ∧ Vw (st7 w10 (X + 1) ⟨c.d.nm, c.d.kd, a, Z, 0, []⟩ kp ks.len kc) P s l st' b ∧ Gp (X + 1) w10 (st7 w10 (X + 1) ⟨c.d.nm, c.d.kd, a, Z, 0, []⟩ kp ks.len kc)) := ⟨HS.out.2.2.1.store _ _ _ _, hf1.1, hfg⟩
        obtain ⟨n0, n1, n2, n3, n4, n5, n6⟩ := HS.out.2.1.cells
        obtain ⟨r0, r1, r2, r3, r4, r5, r6⟩ := HS.out.2.2.1.cells
        obtain ⟨q0, q1, q2, q3, q4, q5, q6⟩ := HS.out.2.2.1.fz
        dsimp only at n0 n1 n2 n3 n4 n5 n6 r0 r1 r2 r3 r4 r5 r6
        have hN7s := HS.out.2.1.lt
        have hR7s := HS.out.2.2.1.lt
        clear hfg hf1
        go_wp2
        refine bodyPost_ret (v := ndV ⟨c.d.nm, c.d.kd, a, Z, 0, []⟩ kp ks.len kc) (results_cell_row rfl _ _ (X + 1) 27 _ (0, 0) _ rfl HF.out.1 Tryz.underlying27 rfl infoN) rfl ?_
        refine ⟨gq_over (gq_over H9.out.2.2.2.1 HS.out.2.2.2 (by have := HL.out; omega)) HF.out.2.2 (by have := HL.out; omega), ⟨c.d.nm, c.d.kd, a, Z, 0, []⟩, kp, kc, ks, st', b, rfl, isns_over (isns_over H9.out.2.2.2.2.1 HS.out.2.2.2 (by have := HL.out; omega) (Nat.le_refl _)) HF.out.2.2 (by have := HL.out; omega) (by have := HL.out; omega), HF.out.2.1, r64_0, HR.out.1, ?_, fun _ => ⟨en', k0, (H9.out.2.2.2.2.2.1.step (gp_grown HS.out.2.2.2) (fun e => by injection e with e; have := HL.out; omega)).step (gp_grown HF.out.2.2) (fun e => by injection e with e; have := HL.out; omega), H9.out.2.2.2.2.2.2, fun _ _ => rfl⟩⟩
        rw [HH.out.2.1, HZ.out]
        exact HR.out.2
      · have hb0 : b = (0, -1) ∧ qe = .ok n := by
          rcases hnb with ⟨e1, e2⟩ | ⟨p, _, _, e3⟩
          · exact ⟨e2, e1⟩
          · exact absurd e3 hn
        obtain ⟨rfl, hqe1⟩ := hb0
        have hn0 : (n == 0) = false := by rw [beq_eq_false_iff_ne]; exact hn
        have hit6 : ItL w6 (fun g => g < P) c sub := HOM.out.2.2.keep (fun g h1 h2 => hg6.block g h2 (by omega)) hg6.size hx6
        obtain ⟨_, ics, hli, hre⟩ := hit6
        have hgn : Gp N w6 (w6.setCell ⟨N, 4, none⟩ (.int .i64 1)) := Gp.set _
        have hpv := put_view hv6 hN6 hR6 hgn (by omega) (by omega)
        have H7 : Hid (Vw (w6.setCell ⟨N, 4, none⟩ (.int .i64 1)) P s l (a, k + 1) (0, -1) ∧ Gp P w (w6.setCell ⟨N, 4, none⟩ (.int .i64 1)) ∧ Nv (w6.setCell ⟨N, 4, none⟩ (.int .i64 1)) (X + 1) ⟨[], 0, 0, 0, 0, []⟩ none 0 0 ∧ Nv (w6.setCell ⟨N, 4, none⟩ (.int .i64 1)) N ⟨c.d.nm, c.d.kd, a, 0, 1, []⟩ none 0 0 ∧ ir.Lie (w6.setCell ⟨N, 4, none⟩ (.int .i64 1)) (fun g => g < P) c.p c.n c.c ics ∧ Rep (w6.setCell ⟨N, 4, none⟩ (.int .i64 1)) (fun g => g < P) sub ics ∧ Om (w6.setCell ⟨N, 4, none⟩ (.int .i64 1)) m2 en' k0 ∧ w5.heap.size ≤ (w6.setCell ⟨N, 4, none⟩ (.int .i64 1)).heap.size) :=
          ⟨hpv.1, gp_over (H5.out.2.1.trans hg6) hgn (by omega), hpv.2.1, hN6.setN 1, hli.keep (fun g h1 h2 => hgn.block g h2 (by omega)) hgn.size, hre.keep (fun g h1 h2 => hgn.block g h2 (by omega)) hgn.size hpv.2.2, hom6.step (gp_grown hgn) (fun e => by injection e with e; omega), Nat.le_trans hg6.size hgn.size⟩
        have n4 := hN6.cells.2.2.2.2.1
        have y4 := hN6.fz.2.2.2.2.1
        have hN6s := hN6.lt
        have i12 := (hI6.gp hgn (by omega)).facts.2.2.2.2.2.2.2.2.2.2.2.2
        have hI6s := (hI6.gp hgn (by omega)).lt
        have HQE : Hid (qe = .ok n ∧ n ≠ 0 ∧ q = body (L s) l (rdB (L s) l f) c.d sub en a (k + 1)) := ⟨hqe1, hn, hone⟩
        have cB := fun wx (e : wx = w6.setCell ⟨N, 4, none⟩ (.int .i64 1)) => by rw [← e] at H7; exact HBK.out.1 wx P m2 (a, k + 1) sub c.p c.n c.c ics en en' k0 earl names seen n1 H7.out.1 HBK.out.2.2.1 H7.out.2.2.2.2.1 H7.out.2.2.2.2.2.1 H7.out.2.2.2.2.2.2.1 (by have := HMM.out.2.2; dsimp only; omega) HMM.out.2.1 HBK.out.2.2.2.1 HBK.out.2.2.2.2.1 HBK.out.2.2.2.2.2.2.1 HBK.out.2.2.2.2.2.2.2 (by have := HBK.out.2.1; dsimp only; omega) (by have := HK.out; dsimp only; omega) HRR.out
        clear hv6 hI6 hR6 hN6 hom6 hx6 hg6 hlt hli hre hgn hpv hqe1 hn hone hnb hX5
        try dsimp only at n4
        go_wp2_with fail
        have cB' := cB _ rfl
        clear cB n4 y4 hN6s x8' x0'
        generalize w6.setCell ⟨N, 4, none⟩ (.int .i64 1) = w7 at H7 cB' i12 hI6s ⊢
        refine cB'.mono ?_
        rintro e w8 ⟨hg8, kp, kc, ks, st', b, rfl, hks, hv8, hle, hres, hom8⟩
        have hlt := HL.out
        have hP8 := hv8.lt'
        have hN8 : Nv w8 N ⟨c.d.nm, c.d.kd, a, 0, 1, []⟩ none 0 0 := (hg8.block N H7.out.2.2.2.1.lt (by omega) (by omega)).trans H7.out.2.2.2.1
        have hR8 : Nv w8 (X + 1) ⟨[], 0, 0, 0, 0, []⟩ none 0 0 := (hg8.block (X + 1) H7.out.2.2.1.lt (by omega) (by omega)).trans H7.out.2.2.1
        have hgw : Gq P m2 w w8 := (Gq.gp H7.out.2.1).trans hg8
        have hrn : ResN q ⟨c.d.nm, 4, a, st'.1 - a, 1, []⟩ ks st' b := by
          rw [HQE.out.2.2]
          unfold body
          rw [if_neg (by rw [HH.out.2.1]; decide), if_neg (by rw [HH.out.2.1]; decide), if_neg (by rw [HH.out.2.1]; decide), HEV.out, HQE.out.1]
          dsimp only
          rw [if_neg HQE.out.2.1]
          generalize rdB (L s) l f sub en (a, k + 1) = r at hres ⊢
          cases r with
          | error er => exact hres
          | ok r => obtain ⟨ks', st2⟩ := r; obtain ⟨rfl, rfl, rfl⟩ := hres; exact ⟨rfl, rfl, rfl, rfl⟩
        have HR : Hid (a ≤ st'.1 ∧ ResN q ⟨c.d.nm, 4, a, st'.1 - a, 1, []⟩ ks st' b) := ⟨hle, hrn⟩
        have hgn : Gp N w8 (w8.setCell ⟨N, 6, none⟩ (.slice kp ks.len kc)) := Gp.set _
        have hpv := put_view hv8 hN8 hR8 hgn (by omega) (by omega)
        have H9 : Hid (Vw (w8.setCell ⟨N, 6, none⟩ (.slice kp ks.len kc)) P s l st' b ∧ Nv (w8.setCell ⟨N, 6, none⟩ (.slice kp ks.len kc)) N ⟨c.d.nm, c.d.kd, a, 0, 1, []⟩ kp ks.len kc ∧ Nv (w8.setCell ⟨N, 6, none⟩ (.slice kp ks.len kc)) (X + 1) ⟨[], 0, 0, 0, 0, []⟩ none 0 0 ∧ Gq P m2 w (w8.setCell ⟨N, 6, none⟩ (.slice kp ks.len kc)) ∧ IsNs (w8.setCell ⟨N, 6, none⟩ (.slice kp ks.len kc)) (fun g => w5.heap.size ≤ g) kp ks.len kc ks ∧ (b.1 = 0 → ∃ en2 k2, Om (w8.setCell ⟨N, 6, none⟩ (.slice kp ks.len kc)) m2 en2 k2 ∧ k2 ≤ st'.2 ∧ ∀ y ∈ names, en2 y = en' y)) :=
          ⟨hpv.1, hN8.setK _ _ _, hpv.2.1, gq_over hgw hgn (by omega), isns_over hks hgn (by have := H7.out.2.2.2.2.2.2.2; omega) H7.out.2.2.2.2.2.2.2, fun hb => by
            obtain ⟨en2, k2, o1, o2, o3⟩ := hom8 hb
            exact ⟨en2, k2, o1.step (gp_grown hgn) (fun e => by injection e with e; omega), o2, o3⟩⟩
        have n6 := hN8.cells.2.2.2.2.2.2
        have y6 := hN8.fz.2.2.2.2.2.2
        have hN8s := hN8.lt
        clear hres hrn hle hgw hv8 hR8 hN8 hks hg8 hgn hpv hom8 hlt cB' i12 hI6s
        try dsimp only at n6
        go_upto_region 21 with fail
        generalize w8.setCell ⟨N, 6, none⟩ (.slice kp ks.len kc) = w9 at H9 ⊢
        clear n6 y6 hN8s hP8
        have hwr : IntKind.i64.wrap (((st'.1 : Nat) : Int) - (a : Int)) = ((st'.1 - a : Nat) : Int) := by rw [IntKind.wrap_i64]; have := H9.out.1.a; have := H9.out.1.sz; have := HR.out.1; omega
        obtain ⟨Z, hZ⟩ : ∃ Z, Z = st'.1 - a := ⟨_, rfl⟩
        rw [← hZ] at hwr
        have HZ : Hid (Z = st'.1 - a) := hZ
        obtain ⟨B, hB⟩ : ∃ B, B = st'.1 := ⟨_, rfl⟩
        rw [← hB] at hwr
        clear hZ
        have hgn : Gp N w9 (w9.setCell ⟨N, 3, none⟩ (.int .i64 (Z : Int))).drew := (Gp.set _).trans (Gp.bl (Bl.refl _).drew)
        have HS : Hid (Vw (w9.setCell ⟨N, 3, none⟩ (.int .i64 (Z : Int))).drew P s l st' b ∧ Nv (w9.setCell ⟨N, 3, none⟩ (.int .i64 (Z : Int))).drew N ⟨c.d.nm, c.d.kd, a, Z, 1, []⟩ kp ks.len kc ∧ Nv (w9.setCell ⟨N, 3, none⟩ (.int .i64 (Z : Int))).drew (X + 1) ⟨[], 0, 0, 0, 0, []⟩ none 0 0 ∧ Gp N w9 (w9.setCell ⟨N, 3, none⟩ (.int .i64 (Z : Int))).drew) := by
          have h1 := put_view H9.out.1 H9.out.2.1 H9.out.2.2.1 hgn (by have := HL.out; omega) (by have := HL.out; omega)
          exact ⟨h1.1, (H9.out.2.1.setSz Z).bl (Bl.refl _).drew, h1.2.1, hgn⟩
        have H9d : Hid (Vw w9.drew P s l st' b ∧ Nv w9.drew N ⟨c.d.nm, c.d.kd, a, 0, 1, []⟩ kp ks.len kc) := ⟨H9.out.1.bl (Bl.refl _).drew, H9.out.2.1.bl (Bl.refl _).drew⟩
        obtain ⟨d1, d2, d3, d4, d5, dz⟩ := H9d.out.1.cells
        obtain ⟨n0, n1, n2, n3, n4, n5, n6⟩ := H9d.out.2.cells
        obtain ⟨y0, y1, y2, y3, y4, y5, y6⟩ := H9d.out.2.fz
        dsimp only at d2 n2 n3
        rw [← hB] at d2
        have d2' : w9.cell? ⟨P, 2, none⟩ = some (.int .i64 (B : Int)) := d2
        have n2' : w9.cell? ⟨N, 2, none⟩ = some (.int .i64 (a : Int)) := n2
        have n3' : w9.cell? ⟨N, 3, none⟩ = some (.int .i64 ((0 : Nat) : Int)) := n3
        have hN9s := H9.out.2.1.lt
        have hP9s := H9.out.1.lt'
        clear d1 d3 d4 d5 dz n0 n1 n4 n5 n6 y0 y1 y2 y4 y5 y6 hB hgn
        go_region_o
        clear d2 n2 n3 y3 d2' n2' n3' hN9s hP9s hwr
        generalize (w9.setCell ⟨N, 3, none⟩ (.int .i64 (Z : Int))).drew = w10 at HS ⊢
        have hfg := st7_gp w10 (X + 1) ⟨c.d.nm, c.d.kd, a, Z, 1, []⟩ kp ks.len kc
        have hf1 := put_view HS.out.1 HS.out.2.2.1 HS.out.2.1 hfg (by have := HL.out; omega) (by have := HL.out; omega)
        have HF : Hid (Nv (st7 w10 (X + 1) ⟨c.d.nm, c.d.kd, a, Z, 1, []⟩ kp ks.len kc) (X + 1) ⟨c.d.nm, c.d.kd, a, Z, 1, []⟩ kp ks.len kc ∧ Vw (st7 w10 (X + 1) ⟨c.d.nm, c.d.kd, a, Z, 1, []⟩ kp ks.len kc) P s l st' b ∧ Gp (X + 1) w10 (st7 w10 (X + 1) ⟨c.d.nm, c.d.kd, a, Z, 1, []⟩ kp ks.len kc)) := ⟨HS.out.2.2.1.store _ _ _ _, hf1.1, hfg⟩
        obtain ⟨n0, n1, n2, n3, n4, n5, n6⟩ := HS.out.2.1.cells
        obtain ⟨r0, r1, r2, r3, r4, r5, r6⟩ := HS.out.2.2.1.cells
        obtain ⟨q0, q1, q2, q3, q4, q5, q6⟩ := HS.out.2.2.1.fz
        dsimp only at n0 n1 n2 n3 n4 n5 n6 r0 r1 r2 r3 r4 r5 r6
        have hN7s := HS.out.2.1.lt
        have hR7s := HS.out.2.2.1.lt
        clear hfg hf1
        go_wp2
        refine bodyPost_ret (v := ndV ⟨c.d.nm, c.d.kd, a, Z, 1, []⟩ kp ks.len kc) (results_cell_row rfl _ _ (X + 1) 27 _ (0, 0) _ rfl HF.out.1 Tryz.underlying27 rfl infoN) rfl ?_
        refine ⟨gq_over (gq_over H9.out.2.2.2.1 HS.out.2.2.2 (by have := HL.out; omega)) HF.out.2.2 (by have := HL.out; omega), ⟨c.d.nm, c.d.kd, a, Z, 1, []⟩, kp, kc, ks, st', b, rfl, isns_over (isns_over H9.out.2.2.2.2.1 HS.out.2.2.2 (by have := HL.out; omega) (Nat.le_refl _)) HF.out.2.2 (by have := HL.out; omega) (by have := HL.out; omega), HF.out.2.1, r64_1, HR.out.1, ?_, fun hb => by
          obtain ⟨en2, k2, o1, o2, o3⟩ := H9.out.2.2.2.2.2 hb
          exact ⟨en2, k2, (o1.step (gp_grown HS.out.2.2.2) (fun e => by injection e with e; have := HL.out; omega)).step (gp_grown HF.out.2.2) (fun e => by injection e with e; have := HL.out; omega), o2, o3⟩⟩
        rw [HH.out.2.1, HZ.out]
        exact HR.out.2
end Go.Proofs.YtococaecjecjgaaGreatDoor.ly
namespace Go.Proofs.YtococaecjecjgaaGreatDoor.ly
set_option linter.unusedVariables false
open Go.ChangeShapes Go.WideShapes Go.ChangeAt Go.RowKit
open mem lx ex tm num

theorem resn_le {s : List UInt8} {l : List Ty} {f : Nat} {d : D} {sub : Its} {e : Env} {st : St} {nd : ND} {ks : Nds} {st' : St} {b : Er} (hl : OKT l) (hd : WK d) (hs : d.kd = 4 → OKI sub) (ha : st.1 ≤ s.length) (hk : st.2 ≤ 400) (h : ResN (one s l (rdB s l f) d sub e st) nd ks st' b) (hb : b.1 = 0) : b = (0, -1) ∧ one s l (rdB s l f) d sub e st = .ok (nd, ks, st') ∧ st.1 ≤ st'.1 ∧ st.2 < st'.2 ∧ st'.2 ≤ 400 := by
  generalize hq : one s l (rdB s l f) d sub e st = q at h
  cases q with
  | error er => exact absurd (by rw [← h.1]; exact hb) h.2
  | ok r =>
    obtain ⟨nd', ks', st2⟩ := r
    obtain ⟨rfl, rfl, rfl, rfl⟩ := h
    have := one_le hl hd hs ha hk hq
    exact ⟨rfl, rfl, this.1.1, this.2, this.1.2.2.2⟩
theorem vone_low (f : Nat) (w : World) (P : Nat) (s : ByteArray) (l : List Ty) (st : St) (c : C) (sub : Its) (m2 k0 : Nat) (en en' : Env) (h : Vw w P s l st (0, -1)) (hi : ItL w (fun g => g < P) c sub) (hd : WD c.d) (h4 : c.d.kd ≠ 4) (hk : st.2 ≤ 400) (hl : LK l) (hm : Om w m2 en' k0) (hP2m : P < m2) (hev : evO en' c.d.ct = evO en c.d.ct) (h3 : c.d.kd = 3 → fnd l c.d.ty ≠ none) (hB : VBlk s l f) (hf : 400 ≤ st.2 + f) :
    Calls Tryz.prog 22 #[.pointer (some ⟨P, 0, none⟩), itV c, .map (some m2)] w fun e w' => Gp P w w' ∧ VoA w P s l st.1 (one (L s) l (rdB (L s) l f) c.d sub en st) e w' := by
  obtain ⟨a, k⟩ := st
  have hkd : c.d.kd = 1 ∨ c.d.kd = 2 ∨ c.d.kd = 3 ∨ c.d.kd = 4 := (show WK c.d from Or.inl hd).kd4
  rcases hkd with h1 | h1 | h1 | h1
  · exact vone_num w P s l a k c sub _ h hi hd h1 hk (rdB (L s) l f) en
  · have := vone_bytes w P s l a k c sub m2 k0 h hi hd h1 hk (rdB (L s) l f) en' hm hP2m
    rw [one_agree hev h4 (Or.inr (Or.inl h1))] at this
    exact this
  · obtain ⟨i, hi2⟩ : ∃ i, fnd l c.d.ty = some i := by
      cases hq : fnd l c.d.ty with
      | none => exact absurd hq (h3 h1)
      | some i => exact ⟨i, rfl⟩
    exact vone_struct f w P s l a k c sub _ h hi (Or.inl hd) h1 hk hl i hi2 hB hf en
  · exact absurd h1 h4
def VonA (w : World) (P m2 : Nat) (s : ByteArray) (l : List Ty) (kd : Nat) (st : St) (names : List (List UInt8)) (en' : Env) (q : Except Er (ND × Nds × St)) (e : Ending) (w' : World) : Prop :=
  Gq P m2 w w' ∧ ∃ nd p c ks st' b, e = .returned (ndV nd p ks.len c) ∧ IsNs w' (fun g => w.heap.size ≤ g) p ks.len c ks ∧ Vw w' P s l st' b ∧ R64 nd.n ∧ st.1 ≤ st'.1 ∧ ResN q nd ks st' b ∧ ((kd = 1 ∨ b.1 = 0) → ∃ en2 k2, Om w' m2 en2 k2 ∧ (kd = 1 → k2 ≤ st.2) ∧ (b.1 = 0 → k2 ≤ st'.2) ∧ ∀ y ∈ names, en2 y = en' y)
theorem vone_any (f : Nat) (w : World) (P : Nat) (s : ByteArray) (l : List Ty) (st : St) (c : C) (sub : Its) (m2 k0 : Nat) (en en' : Env) (earl names seen : List (List UInt8)) (h : Vw w P s l st (0, -1)) (hi : ItL w (fun g => g < P) c sub) (hd : WD c.d) (hs : c.d.kd = 4 → OKI sub) (hk : st.2 ≤ 400) (hl : LK l) (hm : Om w m2 en' k0) (hk0 : k0 ≤ st.2) (hP2m : P < m2) (hag : ∀ y ∈ seen, en' y = en y) (hsn : ∀ y ∈ seen, y ∈ names) (hmis : misO seen c.d.ct = none) (h3 : c.d.kd = 3 → fnd l c.d.ty ≠ none) (h4 : c.d.kd = 4 → ∃ n1, chkI earl sub names seen = .ok n1) (hea : ∀ y ∈ earl, fnd l y ≠ none) (hB : VBlk s l f) (hf : 400 ≤ st.2 + f) (hr : ∀ t n, en t = some n → R64 n) :
    Calls Tryz.prog 22 #[.pointer (some ⟨P, 0, none⟩), itV c, .map (some m2)] w (VonA w P m2 s l c.d.kd st names en' (one (L s) l (rdB (L s) l f) c.d sub en st)) := by
  by_cases h1 : c.d.kd = 4
  · obtain ⟨n1, hch⟩ := h4 h1
    obtain ⟨a, k⟩ := st
    refine (vone_when f w P s l a k c sub m2 k0 en en' earl names seen n1 h hi hd h1 (hs h1) hk hm hk0 hP2m hag hsn hmis hch hea hB hf hr).mono ?_
    rintro e w' ⟨hg, nd, p, c', ks, st', b, rfl, i1, i2, i3, i4, i5, i6⟩
    refine ⟨hg, nd, p, c', ks, st', b, rfl, i1, i2, i3, i4, i5, fun hb => ?_⟩
    have hb0 : b.1 = 0 := hb.resolve_left (by omega)
    obtain ⟨en2, k2, o1, o2, o3⟩ := i6 hb0
    exact ⟨en2, k2, o1, fun h => by omega, fun _ => o2, o3⟩
  · refine (vone_low f w P s l st c sub m2 k0 en en' h hi hd h1 hk hl hm hP2m (evO_agree hag hmis) h3 hB hf).mono ?_
    rintro e w' ⟨hg, nd, p, c', ks, st', b, rfl, i1, i2, i3, i4, i5⟩
    refine ⟨Gq.gp hg, nd, p, c', ks, st', b, rfl, i1, i2, i3, i4, i5, fun _ => ⟨en', k0, hm.step (gp_grown hg) (fun e => by injection e with e; omega), fun _ => hk0, fun hb => ?_, fun _ _ => rfl⟩⟩
    have := resn_le hl.ok (Or.inl hd) hs (by rw [L_len]; exact h.a) hk i5 hb
    omega
structure Mw (w wr : World) (X N P M : Nat) (s : ByteArray) (l : List Ty) (st : St) (b : Er) (c : C) (sub : Its) (nd : ND) (p : Option Addr) (n lc : Nat) (cs : List CN) (ks : Nds) : Prop where
  gq : Gq P N w wr
  iv : Iv wr X c
  nv : Nv wr N nd p n lc
  vw : Vw wr P s l st b
  it : ItL wr (fun g => g < P) c sub
  gn : Gn wr M M (.slice p n lc) cs ks
  lt : P < X ∧ X < N ∧ N < M ∧ w.heap.size ≤ M ∧ M ≤ wr.heap.size
theorem Mw.go {w wr w' : World} {X N P M : Nat} {s : ByteArray} {l : List Ty} {st st' : St} {b b' : Er} {c : C} {sub : Its} {nd : ND} {p p' : Option Addr} {n lc n' lc' : Nat} {cs cs' : List CN} {ks ks' : Nds} (h : Mw w wr X N P M s l st b c sub nd p n lc cs ks) (hg : Gm M P N wr w') (hx : Kx wr w') (hr : Vw w' P s l st' b') (hn : Nv w' N nd p' n' lc') (hG : Gn w' M M (.slice p' n' lc') cs' ks') : Mw w w' X N P M s l st' b' c sub nd p' n' lc' cs' ks' := by
  obtain ⟨l1, l2, l3, l4, l5⟩ := h.lt
  have blk : ∀ b, b < N → b ≠ P → b < wr.heap.size → w'.heap[b]? = wr.heap[b]? := fun b h1 h2 h3 => hg.block b h3 (by omega) h2 (by omega)
  refine ⟨⟨hg.os.trans h.gq.os, hg.tape.trans h.gq.tape, hg.output.trans h.gq.output, Nat.le_trans h.gq.size hg.size, fun k h1 h2 h3 => (hg.block k (Nat.lt_of_lt_of_le h1 h.gq.size) (by omega) h2 h3).trans (h.gq.block k h1 h2 h3)⟩, ⟨(blk X l2 (by omega) h.iv.lt).trans h.iv.h⟩, hn, hr, ?_, hG, l1, l2, l3, l4, by have := hg.size; omega⟩
  exact h.it.keep (fun g h1 h2 => blk g (by omega) (by omega) h2) hg.size hx
theorem Mw.bl {w wr w' : World} {X N P M : Nat} {s : ByteArray} {l : List Ty} {st : St} {b : Er} {c : C} {sub : Its} {nd : ND} {p : Option Addr} {n lc : Nat} {cs : List CN} {ks : Nds} (h : Mw w wr X N P M s l st b c sub nd p n lc cs ks) (hb : Bl wr w') : Mw w w' X N P M s l st b c sub nd p n lc cs ks :=
  h.go (Gm.gp (Gp.bl hb)) (Kx.bl hb) (h.vw.bl hb) (h.nv.bl hb) (h.gn.bl hb (Nat.le_refl _))
def CvW (w : World) (X N : Nat) (p : Option Addr) (j lc : Nat) (c : C) : Prop := w.cell? ⟨X, 0, none⟩ = some (.int .i64 (c.d.kd : Int)) ∧ w.cell? ⟨X, 1, none⟩ = some (.int .i64 (c.d.at_ : Int)) ∧ w.cell? ⟨X, 2, none⟩ = some (.string (tx c.d.nm)) ∧ w.cell? ⟨X, 3, none⟩ = some (.string (tx c.d.ty)) ∧ w.cell? ⟨X, 4, none⟩ = some (.int .i64 (c.d.wd : Int)) ∧ w.cell? ⟨X, 5, none⟩ = some (.int .i64 (c.d.od : Int)) ∧ w.cell? ⟨X, 6, none⟩ = some (.bool c.d.sg) ∧ w.cell? ⟨X, 7, none⟩ = some (.bool c.d.mn) ∧ w.cell? ⟨X, 8, none⟩ = some (.pointer c.pc) ∧ w.cell? ⟨X, 9, none⟩ = some (.int .i64 (c.d.ru : Int)) ∧ w.cell? ⟨X, 10, none⟩ = some (.string (tx c.d.f1)) ∧ w.cell? ⟨X, 11, none⟩ = some (.string (tx c.d.l1)) ∧ w.cell? ⟨X, 12, none⟩ = some (.slice c.p c.n c.c) ∧ w.cell? ⟨N, 6, none⟩ = some (.slice p j lc)
theorem CvW.of {w : World} {X N : Nat} {p : Option Addr} {j lc : Nat} {c : C} {nd : ND} (h : Iv w X c) (hn : Nv w N nd p j lc) : CvW w X N p j lc c := by
  obtain ⟨x0, x1, x2, x3, x4, x5, x6, x7, x8, x9, x10, x11, x12⟩ := h.facts
  exact ⟨x0, x1, x2, x3, x4, x5, x6, x7, x8, x9, x10, x11, x12, hn.cells.2.2.2.2.2.2⟩
theorem CvW.bl {w w' : World} {X N : Nat} {p : Option Addr} {j lc : Nat} {c : C} (h : CvW w X N p j lc c) (hb : Bl w w') : CvW w' X N p j lc c := by
  obtain ⟨x0, x1, x2, x3, x4, x5, x6, x7, x8, x9, x10, x11, x12, x13⟩ := h
  exact ⟨at_bl hb x0, at_bl hb x1, at_bl hb x2, at_bl hb x3, at_bl hb x4, at_bl hb x5, at_bl hb x6, at_bl hb x7, at_bl hb x8, at_bl hb x9, at_bl hb x10, at_bl hb x11, at_bl hb x12, at_bl hb x13⟩
theorem Mw.push {w wr w3 : World} {X N P M K : Nat} {s : ByteArray} {l : List Ty} {st st' : St} {b b' : Er} {c : C} {sub : Its} {nd nd1 : ND} {p kp : Option Addr} {n lc kc : Nat} {cs : List CN} {ks k1 : Nds} (h : Mw w wr X N P M s l st b c sub nd p n lc cs ks) (hg3 : Gp P wr w3) (hr3 : Vw w3 P s l st' b') (hs : IsNs w3 (fun g => K ≤ g) kp k1.len kc k1) (hK : wr.heap.size ≤ K) (hm : n ≤ 5000) :
    ∃ p2 c2 w5, (Builtin.append_ #[25, 25] 25 #[.slice p n lc, .slice (some ⟨w3.heap.size, 0, none⟩) 1 1]).run Tryz.prog (w3.alloc (.cells #[.string (tx nd1.nm), .int .i64 (nd1.kd : Int), .int .i64 (nd1.at_ : Int), .int .i64 (nd1.sz : Int), .int .i64 nd1.n, .string (tx nd1.tx), .slice kp k1.len kc] 27)) = .ok (.slice p2 (n + 1) c2) w5 ∧ w5.cell? ⟨N, 6, none⟩ = some (.slice p n lc) ∧ w5.frozen? ⟨N, 6, none⟩ = false ∧ N < w5.heap.size ∧
      Mw w (w5.setCell ⟨N, 6, none⟩ (.slice p2 (n + 1) c2)) X N P M s l st' b' c sub nd p2 (n + 1) c2 (cs ++ [⟨nd1, kp, k1.len, kc⟩]) (ks.app nd1 k1) ∧ CvW w5 X N p n lc c := by
  obtain ⟨l1, l2, l3, l4, l5⟩ := h.lt
  have hG3 : Gn w3 M M (.slice p n lc) cs ks := h.gn.keep (fun g h1 h2 => hg3.block g h2 (by omega)) hg3.size (Nat.le_refl _)
  have hown : ∀ k, (Value.slice p n lc).ownBlock = some k → k < K := fun k hk => by have := (h.gn.own.block k hk).2; omega
  have hb : Bl w3 (w3.alloc (.cells #[.string (tx nd1.nm), .int .i64 (nd1.kd : Int), .int .i64 (nd1.at_ : Int), .int .i64 (nd1.sz : Int), .int .i64 nd1.n, .string (tx nd1.tx), .slice kp k1.len kc] 27)) := (Bl.refl _).alloc _
  obtain ⟨p2, c2, w5, q1, q2, q3, q4⟩ := push_node (⟨nd1, kp, k1.len, kc⟩ : CN) w3.heap.size hG3 hs hown (by omega) hb (lit_node w3 ⟨nd1, kp, k1.len, kc⟩) hm (by have := hg3.size; omega)
  generalize w3.alloc (.cells #[.string (tx nd1.nm), .int .i64 (nd1.kd : Int), .int .i64 (nd1.at_ : Int), .int .i64 (nd1.sz : Int), .int .i64 nd1.n, .string (tx nd1.tx), .slice kp k1.len kc] 27) = w4 at *
  have hn4 : Nv w4 N nd p n lc := (h.nv.gp hg3 (by omega)).bl hb
  have hn5 : Nv w5 N nd p n lc := (q3.block N hn4.lt l3).trans hn4
  have hv4 := hr3.bl hb
  have hP4 := hv4.lt'
  have hv5 : Vw w5 P s l st' b' := by
    obtain ⟨tp, tn, tc, h1, h2⟩ := hv4.at_
    exact ⟨⟨tp, tn, tc, (q3.block P hP4 (by omega)).trans h1, h2.keep (fun g hg' hg2 => q3.block g hg2 (by omega)) q3.size q4⟩, hv4.a, hv4.k, hv4.sz⟩
  have hgs : Gp N w5 (w5.setCell ⟨N, 6, none⟩ (.slice p2 (n + 1) c2)) := Gp.set _
  have hpv := put_view hv5 hn5 hn5 hgs (by omega)
  have hI4 : Iv w4 X c := (h.iv.gp hg3 (by omega)).bl hb
  have hI5 : Iv w5 X c := ⟨(q3.block X hI4.lt (by omega)).trans hI4.h⟩
  refine ⟨p2, c2, w5, q1, hn5.cells.2.2.2.2.2.2, hn5.fz.2.2.2.2.2.2, hn5.lt, ?_, CvW.of hI5 hn5⟩
  refine h.go ((((Gm.gp hg3).trans (Gm.gp (Gp.bl hb))).trans (Gm.gx q3)).trans (Gm.setN _)) ((((h.vw.kx hg3).trans (Kx.bl hb)).trans q4).trans (kx_set hn5)) ?_ (hn5.setK _ _ _) (q2.keep (fun x h1 h2 => hgs.block x h2 (by omega)) hgs.size (Nat.le_refl _))
  have hkx : Kx w5 (w5.setCell ⟨N, 6, none⟩ (.slice p2 (n + 1) c2)) := kx_set hn5
  obtain ⟨tp, tn, tc, h1, h2⟩ := hv5.at_
  exact ⟨⟨tp, tn, tc, (hgs.block P (lt_of_heap h1) (by omega)).trans h1, h2.keep (fun g hg' hg2 => hgs.block g hg2 (by omega)) hgs.size hkx⟩, hv5.a, hv5.k, hv5.sz⟩
structure Bkv (w wr : World) (P m2 M : Nat) (s : ByteArray) (l : List Ty) (a : Nat) (st : St) (b : Er) (pI : Option Addr) (nI cI : Nat) (csI : List C) (j : Nat) (p : Option Addr) (n lc : Nat) (cs : List CN) (ks : Nds) : Prop where
  gq : Gq P m2 w wr
  vw : Vw wr P s l st b
  li : ir.Lie wr (fun g => g < P) pI nI cI csI
  gn : Gn wr M M (.slice p n lc) cs ks
  ln : ks.len = n
  nj : n ≤ j
  a : a ≤ st.1
  lt : P < m2 ∧ m2 < M ∧ M = w.heap.size ∧ M ≤ wr.heap.size
theorem Bkv.bl {w wr w' : World} {P m2 M : Nat} {s : ByteArray} {l : List Ty} {a : Nat} {st : St} {b : Er} {pI : Option Addr} {nI cI : Nat} {csI : List C} {j : Nat} {p : Option Addr} {n lc : Nat} {cs : List CN} {ks : Nds} (h : Bkv w wr P m2 M s l a st b pI nI cI csI j p n lc cs ks) (hb : Bl wr w') : Bkv w w' P m2 M s l a st b pI nI cI csI j p n lc cs ks := by
  obtain ⟨l1, l2, l3, l4⟩ := h.lt
  exact ⟨h.gq.trans (Gq.gp (Gp.bl hb)), h.vw.bl hb, h.li.keep (fun g h1 h2 => Below.block hb g h2) hb.size, h.gn.bl hb (Nat.le_refl _), h.ln, h.nj, h.a, l1, l2, l3, Nat.le_trans l4 hb.size⟩
theorem Bkv.push {w wr w6 : World} {P m2 M K : Nat} {s : ByteArray} {l : List Ty} {a : Nat} {st st2 : St} {b b2 : Er} {pI : Option Addr} {nI cI : Nat} {csI : List C} {j : Nat} {p kp : Option Addr} {n lc kc : Nat} {cs : List CN} {ks k' : Nds} {nd : ND} (h : Bkv w wr P m2 M s l a st b pI nI cI csI j p n lc cs ks) (hg6 : Gq P m2 wr w6) (hx6 : Kx wr w6) (hr6 : Vw w6 P s l st2 b2) (ha : st.1 ≤ st2.1) (hs6 : IsNs w6 (fun g => K ≤ g) kp k'.len kc k') (hK : wr.heap.size ≤ K) (hj : j ≤ 16) :
    ∃ p2 c2 w8, (Builtin.append_ #[25, 25] 25 #[.slice p n lc, .slice (some ⟨w6.heap.size, 0, none⟩) 1 1]).run Tryz.prog (w6.alloc (.cells #[.string (tx nd.nm), .int .i64 (nd.kd : Int), .int .i64 (nd.at_ : Int), .int .i64 (nd.sz : Int), .int .i64 nd.n, .string (tx nd.tx), .slice kp k'.len kc] 27)) = .ok (.slice p2 (n + 1) c2) w8 ∧ Bkv w w8 P m2 M s l a st2 b2 pI nI cI csI (j + 1) p2 (n + 1) c2 (cs ++ [⟨nd, kp, k'.len, kc⟩]) (ks.app nd k') ∧ (∀ en k, Om w6 m2 en k → Om w8 m2 en k) ∧ ∀ i cs, Rep wr (fun g => g < P) i cs → Rep w8 (fun g => g < P) i cs := by
  obtain ⟨l1, l2, l3, l4⟩ := h.lt
  have hG6 : Gn w6 M M (.slice p n lc) cs ks := h.gn.keep (fun g h1 h2 => hg6.block g h2 (by omega) (by omega)) hg6.size (Nat.le_refl _)
  have hown : ∀ k, (Value.slice p n lc).ownBlock = some k → k < K := fun k hk => by have := (h.gn.own.block k hk).2; omega
  have hb : Bl w6 (w6.alloc (.cells #[.string (tx nd.nm), .int .i64 (nd.kd : Int), .int .i64 (nd.at_ : Int), .int .i64 (nd.sz : Int), .int .i64 nd.n, .string (tx nd.tx), .slice kp k'.len kc] 27)) := (Bl.refl _).alloc _
  have hnj := h.nj
  obtain ⟨p2, c2, w8, q1, q2, q3, q4⟩ := push_node (⟨nd, kp, k'.len, kc⟩ : CN) w6.heap.size hG6 hs6 hown (by omega) hb (lit_node w6 ⟨nd, kp, k'.len, kc⟩) (by omega) (by have := hg6.size; omega)
  generalize w6.alloc (.cells #[.string (tx nd.nm), .int .i64 (nd.kd : Int), .int .i64 (nd.at_ : Int), .int .i64 (nd.sz : Int), .int .i64 nd.n, .string (tx nd.tx), .slice kp k'.len kc] 27) = w7 at *
  have hr7 := hr6.bl hb
  have hP7 := hr7.lt'
  have hr8 : Vw w8 P s l st2 b2 := by
    obtain ⟨tp, tn, tc, h1, h2⟩ := hr7.at_
    exact ⟨⟨tp, tn, tc, (q3.block P hP7 (by omega)).trans h1, h2.keep (fun g hg' hg2 => q3.block g hg2 (by omega)) q3.size q4⟩, hr7.a, hr7.k, hr7.sz⟩
  have hgm : Gm M P m2 wr w8 := ⟨q3.os.trans (hb.os.trans hg6.os), q3.tape.trans (hb.tape.trans hg6.tape), q3.output.trans (hb.output.trans hg6.output), Nat.le_trans hg6.size (Nat.le_trans hb.size q3.size), fun k h1 h2 h3 h4 => (q3.block k (by have := hg6.size; have := hb.size; omega) h2).trans ((Below.block hb k (by have := hg6.size; omega)).trans (hg6.block k h1 h3 h4))⟩
  have hkx : Kx wr w8 := (hx6.trans (Kx.bl hb)).trans q4
  refine ⟨p2, c2, w8, q1, ⟨⟨hgm.os.trans h.gq.os, hgm.tape.trans h.gq.tape, hgm.output.trans h.gq.output, Nat.le_trans h.gq.size hgm.size, fun k h1 h2 h3 => (hgm.block k (Nat.lt_of_lt_of_le h1 h.gq.size) (by omega) h2 h3).trans (h.gq.block k h1 h2 h3)⟩, hr8, h.li.keep (fun g h1 h2 => hgm.block g h2 (by omega) (by omega) (by omega)) hgm.size, q2, by rw [Nds.app_len, h.ln], by omega, by have := h.a; omega, l1, l2, l3, by have := hgm.size; omega⟩, fun en k ho => Om.gx (ho.below hb) q3 l2, fun i cs hr => hr.keep (fun g h1 h2 => hgm.block g h2 (by omega) (by omega) (by omega)) hgm.size hkx⟩
end Go.Proofs.YtococaecjecjgaaGreatDoor.ly
namespace Go.Proofs.YtococaecjecjgaaGreatDoor.ly
set_option linter.unusedVariables false
set_option linter.unusedSimpArgs false
open Go.ChangeShapes Go.WideShapes Go.ChangeAt Go.RowKit
open mem lx ex tm num

def Bg (wr : World) (P m2 : Nat) (s : ByteArray) (l : List Ty) (f : Nat) (earl names0 : List (List UInt8)) (en0 : Env) (k0 : Nat) (q : Except Er (Nds × St)) (ks : Nds) (csI : List C) (j : Nat) (st : St) (b : Er) : Prop :=
  (b = (0, -1) ∧ k0 ≤ st.2 ∧ st.2 ≤ 400 ∧ ∃ (rest : Its) (en en' : Env) (k1 : Nat) (names seen : List (List UInt8)), Rep wr (fun g => g < P) rest (csI.drop j) ∧ OKI rest ∧ Om wr m2 en' k1 ∧ k1 ≤ st.2 ∧ preN ks (blk (L s) l (rdB (L s) l f) rest en st) = q ∧ (∀ y ∈ seen, en' y = en y) ∧ (∀ y ∈ seen, y ∈ names) ∧ (∀ y ∈ names0, y ∈ names ∧ en' y = en0 y) ∧ (∃ n2, chkI earl rest names seen = .ok n2) ∧ ∀ t n, en t = some n → R64 n) ∨ (b.1 ≠ 0 ∧ q = .error b)
theorem nxt_r {d : D} {en : Env} {nd : ND} (hr : ∀ t n, en t = some n → R64 n) (hn : R64 nd.n) : ∀ t n, nxt d en nd t = some n → R64 n := by
  intro t n h
  unfold nxt at h
  split at h
  · unfold upd at h
    split at h
    · injection h with h; rw [← h]; exact hn
    · exact hr t n h
  · exact hr t n h
theorem bg_next {w8 : World} {P m2 : Nat} {s : ByteArray} {l : List Ty} {f : Nat} {earl names0 : List (List UInt8)} {en0 : Env} {k0 : Nat} {q : Except Er (Nds × St)} {ks : Nds} {csI : List C} {j : Nat} {st st2 : St} {b2 : Er} {d : D} {sub t : Its} {en : Env} {nd : ND} {k' : Nds} (hl : OKT l) (hd : WD d) (hs : d.kd = 4 → OKI sub) (ha : st.1 ≤ (L s).length) (hk : st.2 ≤ 400) (hk0 : k0 ≤ st.2) (hres : ResN (part (L s) l (rdB (L s) l f) d sub en st) nd k' st2 b2) (hq : preN ks (blk (L s) l (rdB (L s) l f) (.cons d sub t) en st) = q) (hrep : Rep w8 (fun g => g < P) t (csI.drop (j + 1))) (hokt : OKI t) (hr : ∀ t n, nxt d en nd t = some n → R64 n)
    (hg : b2.1 = 0 → ∃ (en3 : Env) (k3 : Nat) (names3 seen3 : List (List UInt8)), Om w8 m2 en3 k3 ∧ k3 ≤ st2.2 ∧ (∀ y ∈ seen3, en3 y = nxt d en nd y) ∧ (∀ y ∈ seen3, y ∈ names3) ∧ (∀ y ∈ names0, y ∈ names3 ∧ en3 y = en0 y) ∧ ∃ n2, chkI earl t names3 seen3 = .ok n2) : Bg w8 P m2 s l f earl names0 en0 k0 q (ks.app nd k') csI (j + 1) st2 b2 := by
  have hst := blk_step (L s) l (rdB (L s) l f) d sub t en ks st
  generalize hp : part (L s) l (rdB (L s) l f) d sub en st = r at hres
  cases r with
  | error er =>
    obtain ⟨rfl, hne⟩ := hres
    exact Or.inr ⟨hne, by rw [← hq]; exact hst.1 _ hp⟩
  | ok r =>
    obtain ⟨nd', ks', st'⟩ := r
    obtain ⟨rfl, rfl, rfl, rfl⟩ := hres
    obtain ⟨en3, k3, names3, seen3, g1, g2, g3, g4, g5, g6⟩ := hg rfl
    have hle := part_le hl hd hs ha hk hp
    exact Or.inl ⟨rfl, by omega, hle.2.2, t, nxt d en nd, en3, k3, names3, seen3, hrep, hokt, g1, g2, by rw [← hst.2 _ _ _ hp]; exact hq, g3, g4, g5, g6, hr⟩
theorem Vw.om {w w' : World} {P m2 k : Nat} {s : ByteArray} {l : List Ty} {st : St} {b : Er} {en : Env} (h : Vw w P s l st b) (ho : Om w m2 en k) (hg : w.grownBy w' (some m2)) (hP : P < m2) : Vw w' P s l st b ∧ Kx w w' ∧ Gq P m2 w w' := by
  have hne : ∀ k, k ≠ m2 → (some k : Option Nat) ≠ some m2 := fun k hk e => hk (by injection e)
  have hx : Kx w w' := fun b cs hb => (hg.block b (lt_of_heap hb) (hne b (fun e => by
    subst e
    obtain ⟨es, clock, h1⟩ := ho.block
    rw [hb] at h1
    cases h1))).trans hb
  have hP' := h.lt'
  obtain ⟨p, n, c, h1, h2⟩ := h.at_
  exact ⟨⟨⟨p, n, c, (hg.block P hP' (hne P (by omega))).trans h1, h2.keep (fun x hx' hxs => hg.block x hxs (hne x (by omega))) hg.size hx⟩, h.a, h.k, h.sz⟩, hx, ⟨hg.os, hg.tape, hg.output, hg.size, fun k h1 _ h3 => hg.block k h1 (hne k h3)⟩⟩
theorem vw_kx2 {w w' : World} {P m2 k : Nat} {s : ByteArray} {l : List Ty} {st : St} {b : Er} {en : Env} (h : Vw w P s l st b) (ho : Om w m2 en k) (hg : Gq P m2 w w') : Kx w w' := fun b cs hb => by
  obtain ⟨p, n, c, h1, _⟩ := h.at_
  obtain ⟨es, clock, h2⟩ := ho.block
  rw [hg.block b (lt_of_heap hb) (fun e => by subst e; rw [hb] at h1; simp at h1) (fun e => by subst e; rw [hb] at h2; cases h2)]
  exact hb
theorem Om.gq {P N : Nat} {w w' : World} {b c : Nat} {f : List UInt8 → Option Int} (h : Om w b f c) (hg : Gq P N w w') (h1 : b ≠ P) (h2 : b ≠ N) : Om w' b f c := by
  have hlt := Om.blt h
  obtain ⟨D, ⟨es, clock, q1, q2, q3, q4⟩, q5⟩ := h
  exact ⟨D, ⟨es, clock, by rw [hg.block b hlt h1 h2]; exact q1, q2, q3, q4⟩, q5⟩
def repQ (Q : Except Er (Nds × St)) (d : D) (a : Nat) : Except Er (ND × Nds × St) := match Q with
  | .error x => .error x
  | .ok (ks, st') => .ok (⟨d.nm, 9, a, st'.1 - a, 0, []⟩, ks, st')
theorem many_q {s : List UInt8} {l : List Ty} {rec : Its → Env → St → Except Er (Nds × St)} {d : D} {sub : Its} {en : Env} {a k : Nat} {n' : Int} {b6 b7 : Er} {qe : Except Nat Int} (hk : k ≤ 400) (hm : d.mn = true) (hev : evO en d.ct = qe) (hb6 : b6 = (if 400 < k + 1 then wrg (0, -1) 4 a else ((0, -1) : Er))) (hnb : (qe = .ok n' ∧ b7 = b6) ∨ ∃ p : Nat, qe = .error p ∧ b7 = wrg b6 5 p ∧ n' = 0) :
    ((if n' < 0 then wrg b7 3 a else b7) = (0, -1) ∧ 0 ≤ n' ∧ k < 400 ∧ part s l rec d sub en (a, k) = repQ (reps s l rec d sub en n'.toNat (a, k + 1)) d a) ∨ ((if n' < 0 then wrg b7 3 a else b7).1 ≠ 0 ∧ part s l rec d sub en (a, k) = .error (if n' < 0 then wrg b7 3 a else b7)) := by
  by_cases h4 : k = 400
  · subst h4
    have e6 : b6 = (4, (a : Int)) := by rw [hb6, if_pos (by omega)]; rfl
    have e7 : b7 = (4, (a : Int)) := by
      rcases hnb with ⟨_, e⟩ | ⟨p, _, e, _⟩
      · rw [e, e6]
      · rw [e, e6]; rfl
    have e8 : (if n' < 0 then wrg b7 3 a else b7) = (4, (a : Int)) := by
      rw [e7]
      split
      · rfl
      · rfl
    rw [e8]
    refine Or.inr ⟨show (4 : Int) ≠ 0 by decide, ?_⟩
    unfold part
    rw [if_pos hm, if_pos rfl]
  · have e6 : b6 = (0, -1) := by rw [hb6, if_neg (by omega)]
    subst e6
    rw [part_many s l rec d sub en (a, k) hm h4]
    unfold manyQ cnt
    rw [hev]
    rcases hnb with ⟨e, rfl⟩ | ⟨p, e, rfl, rfl⟩
    · rw [e]
      dsimp only
      by_cases hn : n' < 0
      · rw [if_pos hn, if_pos hn]
        exact Or.inr ⟨show (3 : Int) ≠ 0 by decide, rfl⟩
      · rw [if_neg hn, if_neg hn]
        refine Or.inl ⟨rfl, by omega, by omega, ?_⟩
        dsimp only
        rcases reps s l rec d sub en n'.toNat (a, k + 1) with er | ⟨ks, st⟩ <;> rfl
    · rw [e]
      dsimp only
      rw [if_neg (by decide)]
      exact Or.inr ⟨show (5 : Int) ≠ 0 by decide, rfl⟩
theorem reps_next {s : List UInt8} {l : List Ty} {f : Nat} {d : D} {sub : Its} {en : Env} {sq sq2 : St} {t : Nat} {nd1 : ND} {k1s k2s : Nds} {b2 : Er} {Q : Except Er (Nds × St)} (hl : OKT l) (hd : WK d) (hs : d.kd = 4 → OKI sub) (ha : sq.1 ≤ s.length) (hk : sq.2 ≤ 400) (hres : ResN (one s l (rdB s l f) d sub en sq) nd1 k1s sq2 b2) (hq : preN k2s (reps s l (rdB s l f) d sub en (t + 1) sq) = Q) :
    (b2 = (0, -1) ∧ preN (k2s.app nd1 k1s) (reps s l (rdB s l f) d sub en t sq2) = Q ∧ sq.2 + 1 ≤ sq2.2 ∧ sq2.2 ≤ 400) ∨ (b2.1 ≠ 0 ∧ Q = .error b2) := by
  have hst := reps_step s l (rdB s l f) d sub en t k2s sq
  by_cases hb : b2.1 = 0
  · obtain ⟨h1, h2, h3, h4, h5⟩ := resn_le hl hd hs ha hk hres hb
    exact Or.inl ⟨h1, by rw [← hst.2 _ _ _ h2]; exact hq, h4, h5⟩
  · right
    refine ⟨hb, ?_⟩
    generalize ho : one s l (rdB s l f) d sub en sq = r at hres
    cases r with
    | error er => rw [← hq, hst.1 _ ho, hres.1]
    | ok r =>
      obtain ⟨nd', ks', st2⟩ := r
      exact absurd (by rw [hres.2.2.2]) hb
structure Te (wr W : World) (N P m2 : Nat) (s : ByteArray) (l : List Ty) (sq : St) (bq : Er) (nm : List UInt8) (a k : Nat) (pp : Option Addr) (lc2 : Nat) (k2s : Nds) (en2 : Env) (k1 : Nat) (q1 : Except Er (ND × Nds × St)) : Prop where
  gp : Gp P wr W
  vw : Vw W P s l sq bq
  nv : Nv W N ⟨nm, 9, a, 0, 0, []⟩ pp k2s.len lc2
  ns : IsNs W (fun g => N + 1 ≤ g) pp k2s.len lc2 k2s
  om : Om W m2 en2 k1
  le : a ≤ sq.1
  kk : bq.1 = 0 → k ≤ sq.2
  rs : ResN q1 ⟨nm, 9, a, sq.1 - a, 0, []⟩ k2s sq bq
  l1 : P < m2
  l2 : m2 < wr.heap.size
  l3 : wr.heap.size ≤ N
theorem many_end {w wr wq : World} {P m2 M N : Nat} {s : ByteArray} {l : List Ty} {f : Nat} {a0 a k k1 : Nat} {sq : St} {b bq : Er} {pI : Option Addr} {nI cI : Nat} {csI : List C} {j : Nat} {p pp : Option Addr} {n lc lc2 : Nat} {cs : List CN} {ks k2s : Nds} {d : D} {sub t : Its} {en en2 en0 : Env} {earl names0 names1 seen1 n3 : List (List UInt8)} {kk0 : Nat} {q : Except Er (Nds × St)}
    (h : Bkv w wr P m2 M s l a0 (a, k) b pI nI cI csI j p n lc cs ks) (ht : Te wr wq N P m2 s l sq bq d.nm a k pp lc2 k2s en2 k1 (part (L s) l (rdB (L s) l f) d sub en (a, k))) (hl : OKT l) (hd : WD d) (hmn : d.mn = true) (hk4 : d.kd ≠ 4) (hk : k ≤ 400) (hkk0 : kk0 ≤ k) (hq : preN ks (blk (L s) l (rdB (L s) l f) (.cons d sub t) en (a, k)) = q) (hrep : Rep wr (fun g => g < P) t (csI.drop (j + 1))) (hokt : OKI t) (hr : ∀ t n, en t = some n → R64 n)
    (hag : ∀ y ∈ seen1, en2 y = en y) (hsn : ∀ y ∈ seen1, y ∈ names1) (hnm : ∀ y ∈ names0, y ∈ names1 ∧ en2 y = en0 y) (hch : chkI earl (.cons d sub t) names1 seen1 = .ok n3) (hk1 : k1 ≤ k) (hj : j ≤ 16) (Z : Nat) (hZ : Z = sq.1 - a) :
    ∃ p2 c2 w8, (Builtin.append_ #[25, 25] 25 #[.slice p n lc, .slice (some ⟨(wq.setCell ⟨N, 3, none⟩ (.int .i64 (Z : Int))).drew.heap.size, 0, none⟩) 1 1]).run Tryz.prog ((wq.setCell ⟨N, 3, none⟩ (.int .i64 (Z : Int))).drew.alloc (.cells #[.string (tx d.nm), .int .i64 ((9 : Nat) : Int), .int .i64 (a : Int), .int .i64 (Z : Int), .int .i64 0, .string (tx []), .slice pp k2s.len lc2] 27)) = .ok (.slice p2 (n + 1) c2) w8 ∧ Bkv w w8 P m2 M s l a0 sq bq pI nI cI csI (j + 1) p2 (n + 1) c2 (cs ++ [⟨⟨d.nm, 9, a, Z, 0, []⟩, pp, k2s.len, lc2⟩]) (ks.app ⟨d.nm, 9, a, Z, 0, []⟩ k2s) ∧ Bg w8 P m2 s l f earl names0 en0 kk0 q (ks.app ⟨d.nm, 9, a, Z, 0, []⟩ k2s) csI (j + 1) sq bq ∧ Nv (wq.setCell ⟨N, 3, none⟩ (.int .i64 (Z : Int))).drew N ⟨d.nm, 9, a, Z, 0, []⟩ pp k2s.len lc2 := by
  have l1 := ht.l1
  have l2 := ht.l2
  have l3 := ht.l3
  have hgn : Gp N wq (wq.setCell ⟨N, 3, none⟩ (.int .i64 (Z : Int))).drew := (Gp.set _).trans (Gp.bl (Bl.refl _).drew)
  have hpv := put_view ht.vw ht.nv (Q := N) ht.nv hgn (by omega)
  have hv10 : Vw (wq.setCell ⟨N, 3, none⟩ (.int .i64 (Z : Int))).drew P s l sq bq := by
    have hkx : Kx wq (wq.setCell ⟨N, 3, none⟩ (.int .i64 (Z : Int))).drew := (kx_set ht.nv).trans (Kx.bl (Bl.refl _).drew)
    obtain ⟨tp, tn, tc, h1, h2⟩ := ht.vw.at_
    exact ⟨⟨tp, tn, tc, (hgn.block P (lt_of_heap h1) (by omega)).trans h1, h2.keep (fun g hg' hg2 => hgn.block g hg2 (by omega)) hgn.size hkx⟩, ht.vw.a, ht.vw.k, ht.vw.sz⟩
  have hn10 : Nv (wq.setCell ⟨N, 3, none⟩ (.int .i64 (Z : Int))).drew N ⟨d.nm, 9, a, Z, 0, []⟩ pp k2s.len lc2 := (ht.nv.setSz Z).bl (Bl.refl _).drew
  have hns : IsNs (wq.setCell ⟨N, 3, none⟩ (.int .i64 (Z : Int))).drew (fun g => N + 1 ≤ g) pp k2s.len lc2 k2s := isns_over ht.ns hgn (Nat.lt_succ_self N) (Nat.le_refl _)
  have hom : Om (wq.setCell ⟨N, 3, none⟩ (.int .i64 (Z : Int))).drew m2 en2 k1 := ht.om.step (gp_grown hgn) (fun e => by injection e with e; omega)
  have hgp : Gp P wr (wq.setCell ⟨N, 3, none⟩ (.int .i64 (Z : Int))).drew := gp_over ht.gp hgn l3
  obtain ⟨p2, c2, w8, q1, q2, q3, q4⟩ := h.push (nd := ⟨d.nm, 9, a, Z, 0, []⟩) (Gq.gp hgp) (h.vw.kx hgp) hv10 ht.le hns (by omega) hj
  refine ⟨p2, c2, w8, q1, q2, ?_, hn10⟩
  have hnx : nxt d en ⟨d.nm, 9, a, Z, 0, []⟩ = en := by unfold nxt; rw [if_neg (fun h => by rw [hmn] at h; exact absurd h.2 (by decide))]
  have hrs := ht.rs
  rw [← hZ] at hrs
  refine bg_next (st := (a, k)) (d := d) (sub := sub) (t := t) (en := en) hl hd (fun e => absurd e hk4) (by rw [L_len]; exact h.vw.a) hk hkk0 hrs hq (q4 _ _ hrep) hokt (by rw [hnx]; exact hr) (fun hb => ?_)
  rw [hnx]
  rcases chkI_cons hch with g | g
  · exact absurd g.1 hk4
  · have g5 := g.2.2.2.2
    rw [if_neg (fun h => by rw [hmn] at h; exact absurd h.2 (by decide))] at g5
    exact ⟨en2, k1, d.nm :: names1, seen1, q3 _ _ hom, Nat.le_trans hk1 (ht.kk hb), hag, fun y hy => List.mem_cons_of_mem _ (hsn y hy), fun y hy => ⟨List.mem_cons_of_mem _ (hnm y hy).1, (hnm y hy).2⟩, n3, g5⟩
end Go.Proofs.YtococaecjecjgaaGreatDoor.ly
