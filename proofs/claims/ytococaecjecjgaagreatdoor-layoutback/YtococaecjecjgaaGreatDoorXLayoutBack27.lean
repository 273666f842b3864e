/- Texts laid together: Wy8, LbA, LbB, LbC, LbD. -/
import Derived.Test.YtococaecjecjgaaGreatDoorXLayoutBack26
import Derived.Test.YtococaecjecjgaaGreatDoorXLayoutBack19
/- Write of package layout. -/
namespace Go.Proofs.YtococaecjecjgaaGreatDoor.ly
set_option linter.unusedVariables false
open Go.ChangeShapes Go.WideShapes Go.ChangeAt Go.RowKit
open mem lx ex tm num bld

set_option maxRecDepth 10000 in
set_option maxHeartbeats 1000000 in
theorem caught4_at (F : FuncId) (q1 q2 q3 q4 : Value) (w : World) (A : World → Prop) (hF : ∀ args w, (callFunc F args).run Tryz.prog w = .ok (.enter F args) w)
    (hcall : ∀ w1, Bl w w1 → Vr w1 w.heap.size .nilIface 34 → Calls Tryz.prog F #[q1, q2, q3, q4] w1 fun e w' => e = .returned (.tuple #[]) ∧ A w')
    (hN : ∀ w', A w' → Vr w' w.heap.size .nilIface 34) :
    Calls Tryz.prog 25 #[.func (.func F) #[] #[q1, q2, q3, q4]] w fun e w'' => e = .returned .nilIface ∧ ∃ w', A w' ∧ Gp w.heap.size w' w'' := by
  have hmf : ∀ (fn : Fn) (first cap : Array Value) (w : World), (Instr.makeFunc fn first cap).run Tryz.prog w = .ok (.func fn first cap) w := fun _ _ _ _ => rfl
  have hv0 := Vr.new w .nilIface 34
  have hb1 : Bl w (w.alloc (.cells #[.nilIface] 34)) := (Bl.refl _).alloc _
  obtain ⟨N, hNe⟩ : ∃ N, N = w.heap.size := ⟨_, rfl⟩
  have cC := hcall _ hb1 hv0
  rw [← hNe] at hv0 hN ⊢
  have HNH : Hid (∀ w', A w' → Vr w' N .nilIface 34) := hN
  obtain ⟨w1, hw1⟩ : ∃ w1, w1 = w.alloc (.cells #[.nilIface] 34) := ⟨_, rfl⟩
  rw [← hw1] at cC
  clear hv0 hb1 hN hcall
  go_enter_defers Tryz.func25, Tryz.ntmps25
  go_wp2_with fail
  rw [← hw1, ← hNe]
  clear hw1 hNe
  refine cC.mono ?_
  rintro e w2 ⟨rfl, hA⟩
  have H2 : Hid (Vr w2 N .nilIface 34 ∧ A w2) := ⟨HNH.out w2 hA, hA⟩
  have d1 := H2.out.1.cell
  have e1 := H2.out.1.frozen
  have hN2 := H2.out.1.lt
  clear cC hA
  go_wp2
  have H3 : Hid (Vr (w2.setCell ⟨N, 0, none⟩ .nilIface) N .nilIface 34 ∧ Gp N w2 (w2.setCell ⟨N, 0, none⟩ .nilIface)) := ⟨H2.out.1.set _, Gp.set _⟩
  generalize w2.setCell ⟨N, 0, none⟩ .nilIface = w3 at H3 ⊢
  refine leaves_cons (f := 51) (args := #[.pointer (some ⟨N, 0, none⟩)]) (by simp) (by simp [go_sem]) ?_
  refine (lcatch_idle _ _).mono ?_
  rintro e u' w4 ⟨rfl, rfl, hb4⟩
  have c4 := (H3.out.1.step hb4).cell
  have hfin : Gp N w2 w4 := H3.out.2.trans (Gp.bl hb4)
  simp [Leaves, settle, results, Tryz.results25, go_sem, c4]
  exact ⟨w2, H2.out.2, hfin⟩
/-- What Write has before it writes. -/
structure Wv (w W : World) (T Q R mb P V : Nat) (x : List UInt8) (l : List Ty) (d : ND) (p : Option Addr) (n cc : Nat) (ks : Nds) : Prop where
  rt : Vr W T (.string (tx x)) 9
  qv : Nv W Q d p n cc
  rv : Vr W R (.string ⟨#[]⟩) 9
  vv : Vr W V (.pointer (some ⟨P, 0, none⟩)) 77
  wr : Wr W P mb l []
  ns : IsNs W (fun g => g < P) p n cc ks
  bl : Bl w W
  lt : w.heap.size ≤ R ∧ w.heap.size ≤ P ∧ R < P ∧ V < W.heap.size
/-- .. when it has written. -/
def WvA (w W : World) (R : Nat) (out : List UInt8) (w' : World) : Prop := Vr w' R (.string (tx out)) 9 ∧ Bl w w' ∧ Vr w' W.heap.size .nilIface 34
theorem Fr.vr {P b : Nat} {v : Value} {t : TypeId} {w w' : World} (h : Fr P w w') (hv : Vr w b v t) (hne : b ≠ P) (ht : t ≠ 5) : Vr w' b v t := h.k.same b _ hv hne (fun c fz e => by injection e with _ e2 _; exact ht e2)
theorem bl_gp {w w1 w2 : World} {N : Nat} (h : Bl w w1) (hg : Gp N w1 w2) (hN : w.heap.size ≤ N) : Bl w w2 :=
  ⟨hg.os.trans h.os, hg.tape.trans h.tape, hg.output.trans h.output, Nat.le_trans h.size hg.size, fun k hk => (hg.block k (Nat.lt_of_lt_of_le hk h.size) (by omega)).trans (Below.block h k hk)⟩
set_option maxRecDepth 10000 in
set_option maxHeartbeats 1000000 in
theorem wdo_at (w W : World) (T Q R mb P V : Nat) (x : List UInt8) (l : List Ty) (d : ND) (p : Option Addr) (n cc : Nat) (ks : Nds) (out : List UInt8) (h : Wv w W T Q R mb P V x l d p n cc ks) (hx : x.length ≤ maxLen) (hl : OKT l) (ho : wr l x d ks 401 = .ok out) (hlen : out.length ≤ 30000) (hz : ks.sz ≤ 400) (w1 : World) (hb : Bl W w1) (hv : Vr w1 W.heap.size .nilIface 34) :
    Calls Tryz.prog 34 #[.pointer (some ⟨V, 0, none⟩), .pointer (some ⟨T, 0, none⟩), .pointer (some ⟨Q, 0, none⟩), .pointer (some ⟨R, 0, none⟩)] w1 fun e w' => e = .returned (.tuple #[]) ∧ WvA w W R out w' := by
  have hPW := h.wr.lt'
  have cW := wwhole_at w1 P mb l x d p n cc ks out (h.wr.bl hb) hx hl (h.ns.fr (Fr.bl hb (Nat.le_of_lt hPW))) ho hlen hz
  have H1 : Hid (Wv w W T Q R mb P V x l d p n cc ks ∧ Bl W w1 ∧ Vr w1 W.heap.size .nilIface 34 ∧ Nv w1 Q d p n cc ∧ Vr w1 R (.string ⟨#[]⟩) 9) := ⟨h, hb, hv, h.qv.bl hb, h.rv.step hb⟩
  have c1 := (h.vv.step hb).cell
  have c2 := (h.rt.step hb).cell
  obtain ⟨y0, y1, y2, y3, y4, y5, y6⟩ := H1.out.2.2.2.1.cells
  have hs1 := (h.vv.step hb).lt
  have hs2 := (h.rt.step hb).lt
  have hs3 := H1.out.2.2.2.1.lt
  unfold ndV at cW
  clear h hb hv hx hl ho hlen hz hPW
  go_enter Tryz.func34, Tryz.ntmps34
  go_wp2_with fail
  refine cW.mono ?_
  rintro e w2 ⟨rfl, hf2⟩
  have hlt := H1.out.1.lt
  have hR2 : Vr w2 R (.string ⟨#[]⟩) 9 := hf2.vr H1.out.2.2.2.2 (by omega) (by decide)
  have hE2 : Vr w2 W.heap.size .nilIface 34 := hf2.vr H1.out.2.2.1 (by have := H1.out.1.wr.lt'; omega) (by decide)
  have hb2 : Bl w w2 := Below.trans (H1.out.1.bl.trans H1.out.2.1) (Below.mono hf2.b hlt.2.1)
  have d1 := hR2.cell
  have e1 := hR2.frozen
  have hRs := hR2.lt
  have hRW : R < W.heap.size := by have := H1.out.1.wr.lt'; omega
  have HF : Hid (WvA w W R out (w2.setCell ⟨R, 0, none⟩ (.string (tx out)))) := ⟨hR2.set _, bl_gp hb2 (Gp.set _) hlt.1, ex.Vr.gp hE2 (Gp.set _) (by omega)⟩
  clear cW hf2 hlt hR2 hE2 hb2 c1 c2 y0 y1 y2 y3 y4 y5 y6 hs1 hs2 hs3 hRW
  go_wp2
  exact bodyPost_end (results_none rfl _ _ _) rfl ⟨rfl, HF.out⟩
set_option maxRecDepth 10000 in
set_option maxHeartbeats 4000000 in
theorem Write_at (w : World) (ok ok2 : Nat → Prop) (v : Value) (l : List Ty) (x : List UInt8) (d : ND) (p : Option Addr) (n cc : Nat) (ks : Nds) (out : List UInt8) (h : IsTs w ok v l) (hl8 : l.length ≤ 8) (hnm : ∀ t ∈ l, t.nm.length ≤ maxLen) (hl : OKT l) (hx : x.length ≤ maxLen) (hn : IsNs w ok2 p n cc ks) (ho : wr l x d ks 401 = .ok out) (hlen : out.length ≤ 30000) (hz : ks.sz ≤ 400) :
    Calls Tryz.prog 13 #[v, .string (tx x), ndV d p n cc] w fun e w' => e = .returned (.tuple #[.string (tx out), .nilIface]) ∧ Bl w w' := by
  have hF : ∀ args w, (callFunc 34 args).run Tryz.prog w = .ok (.enter 34 args) w := fun _ _ => by kernel_rfl
  have hdo := fun w0 W T Q R mb P V h => wdo_at w0 W T Q R mb P V x l d p n cc ks out h hx hl ho hlen hz
  have hn0 : IsNs w (fun g => g < w.heap.size) p n cc ks := hn.mono (fun g _ hg => hg)
  clear ho hlen hz
  unfold ndV
  -- the boxes
  have v1 := Vr.new w (.string (tx x)) 9
  obtain ⟨T, hT⟩ : ∃ T, T = w.heap.size := ⟨_, rfl⟩
  obtain ⟨w1, hw1⟩ : ∃ w1, w1 = w.alloc (.cells #[.string (tx x)] 9) := ⟨_, rfl⟩
  rw [← hw1, ← hT] at v1
  have e1 : w1.heap.size = T + 1 := by rw [hw1, hT]; simp
  have b1 : Bl w w1 := by rw [hw1]; exact (Bl.refl _).alloc _
  obtain ⟨w2, hw2⟩ : ∃ w2, w2 = w1.alloc (.cells #[.string (tx d.nm), .int .i64 (d.kd : Int), .int .i64 (d.at_ : Int), .int .i64 (d.sz : Int), .int .i64 d.n, .string (tx d.tx), .slice p n cc] 27) := ⟨_, rfl⟩
  have v2 : Nv w2 (T + 1) d p n cc := by rw [hw2, ← e1]; exact new_at _ _
  have b2 : Bl w1 w2 := by rw [hw2]; exact (Bl.refl _).alloc _
  have e2 : w2.heap.size = T + 1 + 1 := by rw [hw2]; simp [e1]
  obtain ⟨w2b, hw2b⟩ : ∃ w2b, w2b = w2.alloc (.cells #[.string ⟨#[]⟩] 9) := ⟨_, rfl⟩
  have v3 : Vr w2b (T + 1 + 1) (.string ⟨#[]⟩) 9 := by rw [hw2b, ← e2]; exact Vr.new _ _ _
  have b3 : Bl w2 w2b := by rw [hw2b]; exact (Bl.refl _).alloc _
  have cN := named_at w2b ok v l (h.bl ((b1.trans b2).trans b3)) hl8 hnm
  obtain ⟨vp, vn, vc, rfl⟩ : ∃ p n c, v = .slice p n c := by obtain ⟨p, c, cs, h1, _⟩ := h; exact ⟨_, _, _, h1⟩
  have H2 : Hid (Vr w2b T (.string (tx x)) 9 ∧ Nv w2b (T + 1) d p n cc ∧ Vr w2b (T + 1 + 1) (.string ⟨#[]⟩) 9 ∧ Bl w w2b ∧ T = w.heap.size ∧ IsNs w (fun g => g < w.heap.size) p n cc ks) := ⟨(v1.step b2).step b3, v2.bl b3, v3, (b1.trans b2).trans b3, hT, hn0⟩
  clear h v1 v2 v3 b1 b2 b3 hl hl8 hnm hx hn hn0
  go_enter Tryz.func13, Tryz.ntmps13
  go_upto_region 1 with fail
  rw [← hw1, ← hT, ← hw2, ← hw2b]
  clear hw1 hw2 hw2b hT
  go_wp2_with fail
  refine cN.mono ?_
  rintro e w3 ⟨rfl, hb3, hM3, hms⟩
  obtain ⟨mb, hmb⟩ : ∃ mb, mb = w2b.heap.size := ⟨_, rfl⟩
  rw [← hmb] at hM3 hms ⊢
  obtain ⟨w4, hw4⟩ : ∃ w4, w4 = w3.alloc (.cells #[.map (some mb), .pointer none, .slice none 0 0] 83) := ⟨_, rfl⟩
  obtain ⟨P, hP⟩ : ∃ P, P = w3.heap.size := ⟨_, rfl⟩
  have b4 : Bl w3 w4 := by rw [hw4]; exact (Bl.refl _).alloc _
  have e4 : w4.heap.size = P + 1 := by rw [hw4, hP]; simp
  have r4 : Wr w4 P mb l [] := ⟨⟨none, .slice none 0 0, by rw [hw4, hP]; exact new_at _ _, Or.inl rfl, rows.BOwn.nil _ _, by intro e; cases e⟩, hM3.keep (fun g hg => Below.block b4 g (by omega)) b4.size (Kx.bl b4), by omega⟩
  obtain ⟨W, hW⟩ : ∃ W, W = w4.alloc (.cells #[.pointer (some ⟨P, 0, none⟩)] 77) := ⟨_, rfl⟩
  have bW : Bl w4 W := by rw [hW]; exact (Bl.refl _).alloc _
  have vW : Vr W (P + 1) (.pointer (some ⟨P, 0, none⟩)) 77 := by rw [hW, ← e4]; exact Vr.new _ _ _
  have b24 : Bl w2b W := (hb3.trans b4).trans bW
  have bwW : Bl w W := H2.out.2.2.2.1.trans b24
  have hsz2 := H2.out.2.2.1.lt
  have hTw := H2.out.2.2.2.2.1
  have hb3s := hb3.size
  have HR : Wv w W T (T + 1) (T + 1 + 1) mb P (P + 1) x l d p n cc ks := ⟨H2.out.1.step b24, H2.out.2.1.bl b24, H2.out.2.2.1.step b24, vW, r4.bl bW, ((H2.out.2.2.2.2.2.keep (fun g hg _ => Below.block bwW g hg) bwW.size).mono (fun g hg _ => by omega)), bwW, by omega, by omega, by omega, vW.lt⟩
  have HRH : Hid (Wv w W T (T + 1) (T + 1 + 1) mb P (P + 1) x l d p n cc ks) := HR
  have cC := caught4_at 34 (.pointer (some ⟨P + 1, 0, none⟩)) (.pointer (some ⟨T, 0, none⟩)) (.pointer (some ⟨T + 1, 0, none⟩)) (.pointer (some ⟨T + 1 + 1, 0, none⟩)) W (WvA w W (T + 1 + 1) out) hF (hdo w W T (T + 1) (T + 1 + 1) mb P (P + 1) HR) (fun w' h => h.2.2)
  clear hmb hM3 hms b4 r4 bW vW b24 bwW HR hdo cN hb3 hb3s hTw hsz2
  dsimp only
  go_upto_region 2 with fail
  rw [← hP, ← hw4]
  try rw [← hW]
  clear hW hw4 hP e4 e1 e2
  go_wp2_with fail
  refine cC.mono ?_
  rintro e w5 ⟨rfl, w', hA, hg5⟩
  have hRW : T + 1 + 1 ≠ W.heap.size := by have := HRH.out.lt; omega
  have hR5 : Vr w5 (T + 1 + 1) (.string (tx out)) 9 := ex.Vr.gp hA.1 hg5 hRW
  have hb5 : Bl w w5 := bl_gp hA.2.1 hg5 (by have := HRH.out.lt; omega)
  have HF : Hid (Vr (w5.setCell ⟨T + 1 + 1, 0, none⟩ (.string (tx out))) (T + 1 + 1) (.string (tx out)) 9 ∧ Bl w (w5.setCell ⟨T + 1 + 1, 0, none⟩ (.string (tx out)))) := ⟨hR5.set _, bl_gp hb5 (Gp.set _) (by have := HRH.out.lt; omega)⟩
  have d1 := hR5.cell
  have f1 := hR5.frozen
  have hRs := hR5.lt
  clear cC hA hg5 hRW hR5 hb5
  go_wp2
  have r0 := HF.out.1.cell
  refine bodyPost_ret (v := .tuple #[.string (tx out), .nilIface]) (by simp [results, Tryz.f13, go_sem, r0]) rfl ⟨rfl, HF.out.2⟩
end Go.Proofs.YtococaecjecjgaaGreatDoor.ly
/- The fixed template, and what is read by it. -/
namespace Go.Proofs.YtococaecjecjgaaGreatDoor.ly
set_option linter.unusedVariables false
open Go.ChangeShapes Go.WideShapes Go.ChangeAt Go.RowKit Go.Shelf
open mem lx ex tm num

theorem bx_reads2 : ∃ l, prT bxT = .ok l ∧ chk l = none ∧ ptxt l = bxT ∧ l.length = 2 ∧ RT id bxL l := by
  obtain ⟨l, h1, h2, h3, h4⟩ := prT_print bx_wt
  rw [bx_txt] at h1 h3
  exact ⟨l, h1, h4.2 bx_chk, h3, by rw [h2.len]; rfl, h2⟩
theorem WT.okt {l : List Ty} (h : WT l) : OKT l := fun t ht => ⟨7, (h.2 t ht).2.2, (h.2 t ht).2.1⟩
theorem WT.nms {l : List Ty} (h : WT l) : ∀ t ∈ l, t.nm.length ≤ maxLen := fun t ht => by
  have := (h.2 t ht).1.2.2.1
  unfold maxLen
  omega
set_option maxRecDepth 10000 in
set_option maxHeartbeats 2000000 in
theorem boxed2_at (w : World) (hG : Gt w) : Calls Tryz.prog 29 #[] w fun e w' => (∃ v l ok, e = .returned (.tuple #[v, .bool true]) ∧ IsTs w' ok v l ∧ RT id bxL l ∧ WT l) ∧ Bl w w' := by
  obtain ⟨l, h1, h2, h3, h4, h5⟩ := bx_reads2
  have cP := fun (s : ByteArray) (hs : s = tx bxT) => Parse_at s w (by rw [hs, tx_size]; decide) hG
  go_enter Tryz.func29, Tryz.ntmps29
  go_wp2_with fail
  refine (cP _ rfl).mono ?_
  rintro e w1 ⟨hb1, hans⟩
  rw [show L _ = bxT from L_tx bxT, h1] at hans
  obtain ⟨v, rfl, hv⟩ := hans
  obtain ⟨c1, c2, c3, c4⟩ := prT_told h1 (by decide)
  have cC := Check_at l v w1 _ hv c1
  rw [h2] at cC
  have hv0 := hv
  obtain ⟨p, c, cs, rfl, _, _⟩ := hv0
  have cX := fun wx (hb : Bl w1 wx) => Print_at l (.slice p l.length c) wx _ (hv.bl hb) c2 (hG.bl (hb1.trans hb)) (by omega)
  rw [h3] at cX
  have HB : Hid (Bl w w1) := hb1
  have HV : Hid ((∃ ok, IsTs w1 ok (.slice p l.length c) l) ∧ RT id bxL l ∧ WT l ∧ l.length = 2) := ⟨⟨_, hv⟩, h5, c2, h4⟩
  rw [h4] at cC cX ⊢
  clear hv h1 h2 h3 h4 h5 c1 c2 c3 c4 cP hb1 hG
  go_wp2_with fail
  refine cC.mono ?_
  rintro e w2 ⟨hb2, rfl⟩
  go_wp2_with fail
  refine (cX w2 hb2).mono ?_
  rintro e w3 ⟨rfl, hb3⟩
  have HB3 : Hid (Bl w w3) := (HB.out.trans hb2).trans hb3
  have HV3 : Hid (∃ ok, IsTs w3 ok (.slice p l.length c) l) := by obtain ⟨ok, h⟩ := HV.out.1; exact ⟨ok, h.bl (hb2.trans hb3)⟩
  have htl : (tx bxT).toList = [115, 116, 114, 117, 99, 116, 32, 112, 97, 105, 114, 32, 123, 10, 32, 32, 117, 56, 32, 110, 32, 61, 32, 115, 105, 122, 101, 32, 115, 59, 10, 32, 32, 98, 121, 116, 101, 115, 32, 115, 91, 110, 93, 59, 10, 125, 10, 115, 116, 114, 117, 99, 116, 32, 98, 111, 120, 32, 123, 10, 32, 32, 117, 49, 54, 98, 101, 32, 107, 105, 110, 100, 59, 10, 32, 32, 117, 56, 32, 109, 97, 110, 121, 32, 61, 32, 99, 111, 117, 110, 116, 32, 108, 59, 10, 32, 32, 112, 97, 105, 114, 32, 108, 91, 109, 97, 110, 121, 93, 59, 10, 32, 32, 119, 104, 101, 110, 32, 107, 105, 110, 100, 32, 61, 61, 32, 49, 32, 123, 10, 32, 32, 32, 32, 105, 56, 32, 109, 111, 114, 101, 59, 10, 32, 32, 125, 10, 32, 32, 117, 51, 50, 108, 101, 32, 115, 117, 109, 32, 61, 32, 99, 104, 101, 99, 107, 32, 107, 105, 110, 100, 32, 108, 59, 10, 125, 10] := by rw [tl_tx]; rfl
  clear cX cC
  generalize tx bxT = S at *
  go_wp2
  go_ret2
  obtain ⟨ok, h⟩ := HV3.out
  rw [HV.out.2.2.2] at h
  exact ⟨⟨_, l, ok, rfl, h, HV.out.2.1, HV.out.2.2.1⟩, HB3.out⟩
/-- A box. -/
def smp : List UInt8 := [0, 1, 2, 2, 104, 105, 0, 7, 0, 0, 0, 0]
def smpN : ND := ⟨[98, 111, 120], 3, 0, 12, 0, []⟩
def smpP : Nds := .cons ⟨[108], 3, 3, 3, 0, []⟩ (.cons ⟨[110], 1, 3, 1, 2, []⟩ .nil (.cons ⟨[115], 2, 4, 2, 0, [104, 105]⟩ .nil .nil)) (.cons ⟨[108], 3, 6, 1, 0, []⟩ (.cons ⟨[110], 1, 6, 1, 0, []⟩ .nil (.cons ⟨[115], 2, 7, 0, 0, []⟩ .nil .nil)) .nil)
def smpK : Nds := .cons ⟨[107, 105, 110, 100], 1, 0, 2, 1, []⟩ .nil (.cons ⟨[109, 97, 110, 121], 1, 2, 1, 2, []⟩ .nil (.cons ⟨[108], 9, 3, 4, 0, []⟩ smpP (.cons ⟨[], 4, 7, 1, 1, []⟩ (.cons ⟨[109, 111, 114, 101], 1, 7, 1, 7, []⟩ .nil .nil) (.cons ⟨[115, 117, 109], 1, 8, 4, 0, []⟩ .nil .nil))))
theorem RD.eq {d d' : D} (h : RD id d d') : ∃ a c, RO id d.ct c ∧ d' = { d with at_ := a, ct := c } := by
  obtain ⟨h1, h2, h3, h4, h5, h6, h7, h8, h9, h10, h11⟩ := h
  refine ⟨d'.at_, d'.ct, h8, ?_⟩
  cases d
  cases d'
  simp_all
theorem RT.cons_inv {t : Ty} {l l' : List Ty} (h : RT id (t :: l) l') : ∃ a i r, l' = ⟨t.nm, a, i⟩ :: r ∧ RI id t.l i ∧ RT id l r := by
  cases h with
  | @cons _ t' _ r h1 h2 h3 => exact ⟨t'.at_, t'.l, r, by rw [show t.nm = t'.nm from h1.symm], h2, h3⟩
theorem RI.cons_inv {d : D} {s t i : Its} (h : RI id (.cons d s t) i) : ∃ a c s' t', RO id d.ct c ∧ i = .cons { d with at_ := a, ct := c } s' t' ∧ RI id s s' ∧ RI id t t' := by
  cases h with
  | @cons _ d' _ s' _ t' h1 h2 h3 =>
    obtain ⟨a, c, h4, rfl⟩ := RD.eq h1
    exact ⟨a, c, s', t', h4, rfl, h2, h3⟩
theorem RI.nil_inv {i : Its} (h : RI id .nil i) : i = .nil := by cases h; rfl
theorem RO.none_inv {c : Option Ex} (h : RO id none c) : c = none := by cases h; rfl
theorem RO.nam_inv {a : Nat} {t : List UInt8} {c : Option Ex} (h : RO id (some (.nam a t)) c) : ∃ b, c = some (.nam b t) := by
  cases h with
  | some hx => cases hx with
    | nam _ b _ => exact ⟨b, rfl⟩
theorem RO.bin_inv {a a1 a2 : Nat} {o t : List UInt8} {k : Int} {c : Option Ex} (h : RO id (some (.bin a o (.nam a1 t) (.num a2 k))) c) : ∃ b b1 b2, c = some (.bin b o (.nam b1 t) (.num b2 k)) := by
  cases h with
  | some hx => cases hx with
    | bin _ b _ _ _ _ _ h1 h2 => cases h1 with
      | nam _ b1 _ => cases h2 with
        | num _ b2 _ => exact ⟨b, b1, b2, rfl⟩
set_option maxRecDepth 20000 in
theorem bx_rd {l : List Ty} (h : RT id bxL l) : rd smp l [98, 111, 120] = .ok (smpN, smpK) := by
  obtain ⟨a0, i0, r, rfl, g0, h⟩ := RT.cons_inv h
  obtain ⟨a1, i1, r, rfl, g1, h⟩ := RT.cons_inv h
  cases h
  dsimp only at g0 g1
  obtain ⟨b0, c0, s0, t0, k0, rfl, e0, g0⟩ := RI.cons_inv g0
  obtain ⟨b1, c1, s1, t1, k1, rfl, e1, g0⟩ := RI.cons_inv g0
  obtain rfl := RI.nil_inv g0
  obtain rfl := RI.nil_inv e0
  obtain rfl := RI.nil_inv e1
  obtain rfl := RO.none_inv k0
  obtain ⟨x1, rfl⟩ := RO.nam_inv k1
  obtain ⟨b2, c2, s2, t2, k2, rfl, e2, g1⟩ := RI.cons_inv g1
  obtain ⟨b3, c3, s3, t3, k3, rfl, e3, g1⟩ := RI.cons_inv g1
  obtain ⟨b4, c4, s4, t4, k4, rfl, e4, g1⟩ := RI.cons_inv g1
  obtain ⟨b5, c5, s5, t5, k5, rfl, e5, g1⟩ := RI.cons_inv g1
  obtain ⟨b6, c6, s6, t6, k6, rfl, e6, g1⟩ := RI.cons_inv g1
  obtain rfl := RI.nil_inv g1
  obtain rfl := RI.nil_inv e2
  obtain rfl := RI.nil_inv e3
  obtain rfl := RI.nil_inv e4
  obtain rfl := RI.nil_inv e6
  obtain ⟨b7, c7, s7, t7, k7, rfl, e7, g7⟩ := RI.cons_inv e5
  obtain rfl := RI.nil_inv e7
  obtain rfl := RI.nil_inv g7
  obtain rfl := RO.none_inv k2
  obtain rfl := RO.none_inv k3
  obtain ⟨x4, rfl⟩ := RO.nam_inv k4
  obtain ⟨x5, x6, x7, rfl⟩ := RO.bin_inv k5
  obtain rfl := RO.none_inv k6
  obtain rfl := RO.none_inv k7
  kernel_rfl
end Go.Proofs.YtococaecjecjgaaGreatDoor.ly
/- How many nodes are read. -/
namespace Go.Proofs.YtococaecjecjgaaGreatDoor.ly
set_option linter.unusedVariables false
open lx ex tm num

def RecZ (rec : Its → Env → St → Except Er (Nds × St)) : Prop := ∀ i e st ks st', st.2 ≤ 400 → rec i e st = .ok (ks, st') → ks.sz + st.2 ≤ st'.2 ∧ st'.2 ≤ 400
section
variable {s : List UInt8} {l : List Ty} {rec : Its → Env → St → Except Er (Nds × St)}
theorem body_z (hr : RecZ rec) {d : D} {sub : Its} {e : Env} {a k : Nat} {nd : ND} {ks : Nds} {st' : St} (hk : k ≤ 400) (h : body s l rec d sub e a k = .ok (nd, ks, st')) : ks.sz + k ≤ st'.2 ∧ st'.2 ≤ 400 := by
  unfold body at h
  split at h
  · split at h
    · injection h with h
      simp only [Prod.mk.injEq] at h
      obtain ⟨rfl, rfl, rfl⟩ := h
      exact ⟨by simp [Nds.sz], hk⟩
    · cases h
  · split at h
    · split at h
      · cases h
      · split at h
        · cases h
        · injection h with h
          simp only [Prod.mk.injEq] at h
          obtain ⟨rfl, rfl, rfl⟩ := h
          exact ⟨by simp [Nds.sz], hk⟩
    · split at h
      · split at h
        · cases h
        · split at h
          · cases h
          · rename_i h1
            injection h with h
            simp only [Prod.mk.injEq] at h
            obtain ⟨rfl, rfl, rfl⟩ := h
            exact hr _ _ _ _ _ hk h1
      · split at h
        · cases h
        · split at h
          · injection h with h
            simp only [Prod.mk.injEq] at h
            obtain ⟨rfl, rfl, rfl⟩ := h
            exact ⟨by simp [Nds.sz], hk⟩
          · split at h
            · cases h
            · rename_i h1
              injection h with h
              simp only [Prod.mk.injEq] at h
              obtain ⟨rfl, rfl, rfl⟩ := h
              exact hr _ _ _ _ _ hk h1
theorem one_z (hr : RecZ rec) {d : D} {sub : Its} {e : Env} {st : St} {nd : ND} {ks : Nds} {st' : St} (hk : st.2 ≤ 400) (h : one s l rec d sub e st = .ok (nd, ks, st')) : ks.sz + 1 + st.2 ≤ st'.2 ∧ st'.2 ≤ 400 := by
  unfold one at h
  split at h
  · cases h
  · have := body_z hr (by omega) h
    omega
theorem reps_z (hr : RecZ rec) {d : D} {sub : Its} {e : Env} (n : Nat) : ∀ {st : St} {ks : Nds} {st' : St}, st.2 ≤ 400 → reps s l rec d sub e n st = .ok (ks, st') → ks.sz + st.2 ≤ st'.2 ∧ st'.2 ≤ 400 := by
  induction n with
  | zero =>
    intro st ks st' hk h
    rw [reps] at h
    injection h with h
    simp only [Prod.mk.injEq] at h
    obtain ⟨rfl, rfl⟩ := h
    exact ⟨by simp [Nds.sz], hk⟩
  | succ n ih =>
    intro st ks st' hk h
    rw [reps] at h
    split at h
    · cases h
    · rename_i nd k1 st1 h1
      split at h
      · cases h
      · rename_i r st2 h2
        injection h with h
        simp only [Prod.mk.injEq] at h
        obtain ⟨rfl, rfl⟩ := h
        have g1 := one_z hr hk h1
        have g2 := ih g1.2 h2
        unfold Nds.sz
        omega
theorem part_z (hr : RecZ rec) {d : D} {sub : Its} {e : Env} {st : St} {nd : ND} {ks : Nds} {st' : St} (hk : st.2 ≤ 400) (h : part s l rec d sub e st = .ok (nd, ks, st')) : ks.sz + 1 + st.2 ≤ st'.2 ∧ st'.2 ≤ 400 := by
  unfold part at h
  split at h
  · split at h
    · cases h
    · split at h
      · cases h
      · split at h
        · cases h
        · rename_i k1 st1 h1
          injection h with h
          simp only [Prod.mk.injEq] at h
          obtain ⟨rfl, rfl, rfl⟩ := h
          have := reps_z hr _ (show (st.1, st.2 + 1).2 ≤ 400 by show st.2 + 1 ≤ 400; omega) h1
          dsimp only at this
          omega
  · exact one_z hr hk h
theorem blk_z (hr : RecZ rec) (i : Its) : ∀ {e : Env} {st : St} {ks : Nds} {st' : St}, st.2 ≤ 400 → blk s l rec i e st = .ok (ks, st') → ks.sz + st.2 ≤ st'.2 ∧ st'.2 ≤ 400 := by
  induction i with
  | nil =>
    intro e st ks st' hk h
    rw [blk] at h
    injection h with h
    simp only [Prod.mk.injEq] at h
    obtain ⟨rfl, rfl⟩ := h
    exact ⟨by simp [Nds.sz], hk⟩
  | cons d sub t _ ih =>
    intro e st ks st' hk h
    rw [blk] at h
    split at h
    · cases h
    · rename_i nd k1 st1 h1
      split at h
      · cases h
      · rename_i r st2 h2
        injection h with h
        simp only [Prod.mk.injEq] at h
        obtain ⟨rfl, rfl⟩ := h
        have g1 := part_z hr hk h1
        have g2 := ih g1.2 h2
        unfold Nds.sz
        omega
end
theorem rdB_z (s : List UInt8) (l : List Ty) : ∀ f, RecZ (rdB s l f)
  | 0 => by intro i e st ks st' _ h; rw [rdB] at h; cases h
  | f + 1 => by intro i e st ks st' hk h; rw [rdB] at h; exact blk_z (rdB_z s l f) i hk h
theorem rd_z {s : List UInt8} {l : List Ty} {x : List UInt8} {nd : ND} {ks : Nds} (h : rd s l x = .ok (nd, ks)) : ks.sz ≤ 400 := by
  unfold rd at h
  split at h
  · cases h
  · rename_i nd1 k1 st1 h1
    split at h
    · cases h
    · injection h with h
      simp only [Prod.mk.injEq] at h
      obtain ⟨rfl, rfl⟩ := h
      have := one_z (rdB_z s l 400) (show ((0, 0) : St).2 ≤ 400 by decide) h1
      dsimp only at this
      omega
end Go.Proofs.YtococaecjecjgaaGreatDoor.ly
/- The law on texts that are read and written. -/
namespace Go.Proofs.YtococaecjecjgaaGreatDoor.ly
set_option linter.unusedVariables false
open Go.ChangeShapes Go.WideShapes Go.ChangeAt Go.RowKit Go.Shelf
open mem lx ex tm num

def Nds.at : Nds → Nat → Option (ND × Nds)
  | .nil, _ => none
  | .cons d s t, 0 => some (d, s)
  | .cons d s t, k + 1 => t.at k
theorem RepN.at {w : World} {ok : Nat → Prop} {ks : Nds} : ∀ {cs : List CN} {k : Nat} {d : ND} {s : Nds}, RepN w ok ks cs → ks.at k = some (d, s) → ∃ x, cs[k]? = some x ∧ x.d = d ∧ IsNs w ok x.p x.n x.c s := by
  induction ks with
  | nil => intro cs k d s _ h; cases h
  | cons d' s' t _ it =>
    intro cs k d s h hk
    obtain ⟨c, r, rfl, h2, h4, h6⟩ := h
    cases k with
    | zero =>
      rw [Nds.at] at hk
      injection hk with hk
      simp only [Prod.mk.injEq] at hk
      obtain ⟨rfl, rfl⟩ := hk
      exact ⟨c, rfl, h2, h4⟩
    | succ k =>
      rw [Nds.at] at hk
      obtain ⟨x, g1, g2⟩ := it h6 hk
      exact ⟨x, by simpa using g1, g2⟩
/-- A node of a slice. -/
theorem is_kid {w : World} {ok : Nat → Prop} {p : Option Addr} {n c : Nat} {ks : Nds} (h : IsNs w ok p n c ks) (k : Nat) {d : ND} {s : Nds} (hk : ks.at k = some (d, s)) :
    ∃ (g : Nat) (x : CN), p = some ⟨g, 0, none⟩ ∧ x.d = d ∧ (∀ j u, (cl x)[j]? = some u → w.cell? ⟨g, k * 7 + j, none⟩ = some u) ∧ IsNs w ok x.p x.n x.c s := by
  obtain ⟨cs, h1, h2⟩ := h
  obtain ⟨x, g1, g2, g3⟩ := h2.at hk
  obtain ⟨_, _, h3 | ⟨g, e, _, _, h6⟩⟩ := h1
  · rw [h3] at g1; cases g1
  · refine ⟨g, x, e, g2, fun j u hu => ?_, g3⟩
    have hj : j < 7 := by
      have := (List.getElem?_eq_some_iff.1 hu).1
      rw [nr.cl_len] at this
      exact this
    obtain ⟨hjl, e2⟩ := List.getElem?_eq_some_iff.1 g1
    exact h6 _ _ (by rw [nr.rowE_get cs k hjl j hj, e2]; exact hu)
theorem sample_at (w : World) : Calls Tryz.prog 30 #[] w fun e w' => e = .returned (.string ⟨#[0, 1, 2, 2, 104, 105, 0, 7, 0, 0, 0, 0]⟩) ∧ w' = w := by
  go_enter Tryz.func30, Tryz.ntmps30
  go_wp2
  go_ret
  exact ⟨rfl, rfl⟩
set_option maxRecDepth 10000 in
set_option maxHeartbeats 2000000 in
theorem laid_at (w : World) (hG : Gt w) : Calls Tryz.prog 11 #[] w fun e w' => e = .returned (.bool true) ∧ Bl w w' := by
  have cB := boxed2_at w hG
  clear hG
  go_enter Tryz.func11, Tryz.ntmps11
  go_wp2_with fail
  refine cB.mono ?_
  rintro e w1 ⟨⟨v, l, ok, rfl, hv, hRT, hW⟩, hb1⟩
  have hoki := WT.okt hW
  have hnms := WT.nms hW
  have hrd := bx_rd hRT
  have cR := Read_at w1 ok v l [98, 111, 120] smp hv hW.1 hnms hoki (by decide) (by decide)
  rw [hrd] at cR
  have hS : tx smp = ⟨#[0, 1, 2, 2, 104, 105, 0, 7, 0, 0, 0, 0]⟩ := rfl
  have hX : tx [98, 111, 120] = ⟨#[98, 111, 120]⟩ := rfl
  rw [hS, hX] at cR
  have hwr := rd_back hoki hrd
  obtain ⟨vp, vn, vc, rfl⟩ : ∃ p n c, v = .slice p n c := by obtain ⟨p, c, cs, h1, _⟩ := hv; exact ⟨_, _, _, h1⟩
  have HV : Hid (IsTs w1 ok (.slice vp vn vc) l ∧ WT l ∧ wr l [98, 111, 120] smpN smpK 401 = .ok smp ∧ Bl w w1) := ⟨hv, hW, hwr, hb1⟩
  clear cB hv hRT hW hoki hnms hrd hS hX hwr hb1
  go_wp2_with fail
  refine (sample_at _).mono ?_
  rintro e w1' ⟨rfl, h1'⟩
  have h1'' := h1'.symm
  subst h1''
  clear h1'
  go_wp2_with fail
  refine cR.mono ?_
  rintro e w2 ⟨hb2, p, c, rfl, hns⟩
  have hlen : smpK.len = 5 := rfl
  rw [hlen] at hns ⊢
  obtain ⟨w3, hw3⟩ : ∃ w3, w3 = w2.alloc (.cells #[.string (tx smpN.nm), .int .i64 (smpN.kd : Int), .int .i64 (smpN.at_ : Int), .int .i64 (smpN.sz : Int), .int .i64 smpN.n, .string (tx smpN.tx), .slice p 5 c] 27) := ⟨_, rfl⟩
  obtain ⟨X, hXe⟩ : ∃ X, X = w2.heap.size := ⟨_, rfl⟩
  have hN3 : Nv w3 X smpN p 5 c := by rw [hw3, hXe]; exact new_at _ _
  have hb3 : Bl w2 w3 := by rw [hw3]; exact (Bl.refl _).alloc _
  have cW := Write_at w3 ok _ (.slice vp vn vc) l [98, 111, 120] smpN p 5 c smpK smp (HV.out.1.bl (hb2.trans hb3)) HV.out.2.1.1 (WT.nms HV.out.2.1) (WT.okt HV.out.2.1) (by decide) (hns.bl hb3) HV.out.2.2.1 (by decide) (by decide)
  have hS : tx smp = ⟨#[0, 1, 2, 2, 104, 105, 0, 7, 0, 0, 0, 0]⟩ := rfl
  have hX : tx [98, 111, 120] = ⟨#[98, 111, 120]⟩ := rfl
  rw [hS, hX] at cW
  obtain ⟨y0, y1, y2, y3, y4, y5, y6⟩ := hN3.cells
  have hXs := hN3.lt
  have H3 : Hid (Nv w3 X smpN p 5 c ∧ IsNs w3 (fun g => w1.heap.size ≤ g) p 5 c smpK ∧ Bl w w3) := ⟨hN3, hns.bl hb3, (HV.out.2.2.2.trans hb2).trans hb3⟩
  unfold ndV at cW ⊢
  clear cR hb2 hns hN3 hb3 hS hX hlen
  generalize smpN.nm = z0 at *
  generalize smpN.kd = z1 at *
  generalize smpN.at_ = z2 at *
  generalize smpN.sz = z3 at *
  generalize smpN.n = z4 at *
  generalize smpN.tx = z5 at *
  go_wp2_with fail
  rw [← hw3, ← hXe]
  clear hw3 hXe
  refine cW.mono ?_
  rintro e w4 ⟨rfl, hb4⟩
  obtain ⟨g, x1, rfl, d1, k1, _⟩ := is_kid H3.out.2.1 1 (d := ⟨[109, 97, 110, 121], 1, 2, 1, 2, []⟩) (s := .nil) rfl
  obtain ⟨g', x2, hg', d2, k2, n2⟩ := is_kid H3.out.2.1 2 (d := ⟨[108], 9, 3, 4, 0, []⟩) (s := smpP) rfl
  obtain rfl : g = g' := by injection hg' with hg'; injection hg'
  obtain ⟨g', x3, hg3, d3, k3, _⟩ := is_kid H3.out.2.1 3 (d := ⟨[], 4, 7, 1, 1, []⟩) (s := .cons ⟨[109, 111, 114, 101], 1, 7, 1, 7, []⟩ .nil .nil) rfl
  obtain rfl : g = g' := by injection hg3 with hg3; injection hg3
  obtain ⟨g', x4, hg4, d4, k4, _⟩ := is_kid H3.out.2.1 4 (d := ⟨[115, 117, 109], 1, 8, 4, 0, []⟩) (s := .nil) rfl
  obtain rfl : g = g' := by injection hg4 with hg4; injection hg4
  obtain ⟨g2, u0, p2, e0, l0, m0⟩ := is_kid n2 0 (d := ⟨[108], 3, 3, 3, 0, []⟩) (s := .cons ⟨[110], 1, 3, 1, 2, []⟩ .nil (.cons ⟨[115], 2, 4, 2, 0, [104, 105]⟩ .nil .nil)) rfl
  obtain ⟨g3, u1, p3, e1, l1, _⟩ := is_kid m0 1 (d := ⟨[115], 2, 4, 2, 0, [104, 105]⟩) (s := .nil) rfl
  have f1 : w4.cell? ⟨g, 11, none⟩ = some (.int .i64 2) := at_bl hb4 (by have := k1 4 _ rfl; rw [d1] at this; exact this)
  have f2 : w4.cell? ⟨g, 20, none⟩ = some (.slice (some ⟨g2, 0, none⟩) 2 x2.c) := at_bl hb4 (by have := k2 6 _ rfl; rw [p2, n2.len.1] at this; exact this)
  have f3 : w4.cell? ⟨g, 25, none⟩ = some (.int .i64 1) := at_bl hb4 (by have := k3 4 _ rfl; rw [d3] at this; exact this)
  have f4 : w4.cell? ⟨g, 31, none⟩ = some (.int .i64 4) := at_bl hb4 (by have := k4 3 _ rfl; rw [d4] at this; exact this)
  have f5 : w4.cell? ⟨g2, 6, none⟩ = some (.slice (some ⟨g3, 0, none⟩) 2 u0.c) := at_bl hb4 (by have := l0 6 _ rfl; rw [p3, m0.len.1] at this; exact this)
  have f6 : w4.cell? ⟨g3, 12, none⟩ = some (.string ⟨#[104, 105]⟩) := at_bl hb4 (by have := l1 5 _ rfl; rw [e1] at this; exact this)
  have f0 : w4.cell? ⟨X, 6, none⟩ = some (.slice (some ⟨g, 0, none⟩) 5 c) := at_bl hb4 y6
  have hXs4 : X < w4.heap.size := Nat.lt_of_lt_of_le hXs hb4.size
  have HF : Hid (Bl w w4) := H3.out.2.2.trans hb4
  clear cW hb4 y0 y1 y2 y3 y4 y5 y6 hXs k1 k2 k3 k4 l0 l1 hg' hg3 hg4 p2 p3 d1 d2 d3 d4 e0 e1 n2 m0
  go_wp2_with (first | (go_at_call 30; refine (sample_at _).mono ?_; rintro e w5 ⟨rfl, rfl⟩))
  go_ret
  exact ⟨rfl, HF.out⟩
end Go.Proofs.YtococaecjecjgaaGreatDoor.ly
/- Templates that are right. -/
namespace Go.Proofs.YtococaecjecjgaaGreatDoor.ly
set_option linter.unusedVariables false
open Go.ChangeShapes Go.WideShapes Go.ChangeAt Go.RowKit Go.Shelf
open mem lx ex tm num
/-- What right answers. -/
def RgA (w : World) (e : Ending) (w' : World) : Prop := Bl w w' ∧ ((∃ v l ok, e = .returned (.tuple #[v, .bool true]) ∧ IsTs w' ok v l ∧ WT l) ∨ ∃ v, e = .returned (.tuple #[v, .bool false]))
set_option maxRecDepth 10000 in
set_option maxHeartbeats 2000000 in
theorem right_at (s : ByteArray) (w : World) (hG : Gt w) : Calls Tryz.prog 12 #[.string s] w (RgA w) := by
  by_cases he : s.toList.isEmpty = true
  · obtain ⟨l, h1, h2, h3, h4⟩ := bx_reads
    have cL := fun (S : ByteArray) (hS : S = tx bxT) => (long_at S w).mono (R' := fun e w' => e = .returned (.bool false) ∧ w' = w) (fun e w' h => by
      rw [decide_eq_false (by rw [hS, tx_size]; decide)] at h
      exact h)
    have cP := fun (S : ByteArray) (hs : S = tx bxT) => Parse_at S w (by rw [hs, tx_size]; decide) hG
    go_enter Tryz.func12, Tryz.ntmps12
    go_wp2_with fail
    refine (cL _ rfl).mono ?_
    rintro e w1 ⟨rfl, hw1⟩
    have hw1' := hw1.symm
    subst hw1'
    clear hw1
    go_wp2_with fail
    refine (cP _ rfl).mono ?_
    rintro e w1 ⟨hb1, hans⟩
    rw [show L _ = bxT from L_tx bxT, h1] at hans
    obtain ⟨v, rfl, hv⟩ := hans
    obtain ⟨c1, c2, c3, c4⟩ := prT_told h1 (by decide)
    have cC := Check_at l v w1.drew _ (hv.bl (Bl.refl _).drew) c1
    rw [h2] at cC
    have HV : Hid ((∃ ok, IsTs w1 ok v l) ∧ WT l ∧ Bl w w1) := ⟨⟨_, hv⟩, c2, hb1⟩
    obtain ⟨vp, vn, vc, rfl⟩ : ∃ p n c, v = .slice p n c := by obtain ⟨p, c, cs, h1, _⟩ := hv; exact ⟨_, _, _, h1⟩
    clear cL cP hv hb1 c1 c2 c3 c4 h1 h2 h3 h4
    go_upto_region 6 with fail
    go_region_held3 (fun _ => True) (exact trivial)
      (first
        | (go_at_call 33; refine cC.mono ?_; rintro e w6 ⟨hb6, rfl⟩; have HB6 : Hid (Bl w w6 ∧ ∃ ok, IsTs w6 ok (.slice vp vn vc) l) := ⟨(HV.out.2.2.trans (Bl.refl _).drew).trans hb6, by obtain ⟨ok, h⟩ := HV.out.1; exact ⟨ok, h.bl ((Bl.refl _).drew.trans hb6)⟩⟩; clear hb6))
    all_goals
      go_wp2
      go_ret2
      obtain ⟨ok, h⟩ := HB6.out.2
      exact ⟨HB6.out.1, Or.inl ⟨_, l, ok, rfl, h, HV.out.2.1⟩⟩
  · have he' : s.toList.isEmpty = false := eq_false_of_ne_true he
    have cL := long_at s w
    clear he
    by_cases hs : 900 < s.size
    · rw [decide_eq_true hs] at cL
      clear hs
      go_enter Tryz.func12, Tryz.ntmps12
      go_wp2_with fail
      refine cL.mono ?_
      rintro e w1 ⟨rfl, hw1⟩
      have hw1' := hw1.symm
      subst hw1'
      go_wp2
      go_ret2
      exact ⟨Bl.refl _, Or.inr ⟨_, rfl⟩⟩
    · rw [decide_eq_false hs] at cL
      have cP := Parse_at s w (by omega) hG
      have hs9 : s.size ≤ 900 := by omega
      clear hs
      go_enter Tryz.func12, Tryz.ntmps12
      go_wp2_with fail
      refine cL.mono ?_
      rintro e w1 ⟨rfl, hw1⟩
      have hw1' := hw1.symm
      subst hw1'
      clear hw1
      go_wp2_with fail
      refine cP.mono ?_
      rintro e w1 ⟨hb1, hans⟩
      cases hp : prT (L s) with
      | error cp =>
        obtain ⟨c, p⟩ := cp
        rw [hp] at hans
        obtain ⟨B, rfl, _, _⟩ := hans
        have HB : Hid (Bl w w1) := hb1
        unfold atV
        clear cL cP hp hb1 hs9
        go_upto_region 6 with fail
        have mixed : Tryz.prog.follows Departure.mixedOrders = true := by kernel_rfl
        go_region_o
        all_goals
          go_wp2
          go_ret2
          exact ⟨HB.out.trans (Bl.refl _).drew, Or.inr ⟨_, rfl⟩⟩
      | ok l =>
        rw [hp] at hans
        obtain ⟨v, rfl, hv⟩ := hans
        obtain ⟨c1, c2, c3, c4⟩ := prT_told hp (by rw [L_len]; omega)
        have cC := Check_at l v w1.drew _ (hv.bl (Bl.refl _).drew) c1
        have HV : Hid ((∃ ok, IsTs w1 ok v l) ∧ WT l ∧ Bl w w1) := ⟨⟨_, hv⟩, c2, hb1⟩
        obtain ⟨vp, vn, vc, rfl⟩ : ∃ p n c, v = .slice p n c := by obtain ⟨p, c, cs, h1, _⟩ := hv; exact ⟨_, _, _, h1⟩
        clear cL cP hv hb1 c1 c2 c3 c4 hp hs9
        cases hq : chk l with
        | none =>
          rw [hq] at cC
          go_upto_region 6 with fail
          go_region_held3 (fun _ => True) (exact trivial)
            (first
              | (go_at_call 33; refine cC.mono ?_; rintro e w6 ⟨hb6, rfl⟩; have HB6 : Hid (Bl w w6 ∧ ∃ ok, IsTs w6 ok (.slice vp vn vc) l) := ⟨(HV.out.2.2.trans (Bl.refl _).drew).trans hb6, by obtain ⟨ok, h⟩ := HV.out.1; exact ⟨ok, h.bl ((Bl.refl _).drew.trans hb6)⟩⟩; clear hb6))
          all_goals
            go_wp2
            go_ret2
            obtain ⟨ok, h⟩ := HB6.out.2
            exact ⟨HB6.out.1, Or.inl ⟨_, l, ok, rfl, h, HV.out.2.1⟩⟩
        | some cp =>
          obtain ⟨cc, pp⟩ := cp
          rw [hq] at cC
          have cC := cC.mono (R' := fun e w' => Bl w1.drew w' ∧ ∃ A : Nat, e = .returned (.iface 113 (.pointer (some ⟨A, 0, none⟩)))) (fun e w' h => ⟨h.1, by obtain ⟨_, A, h, _⟩ := h; exact ⟨A, h⟩⟩)
          go_upto_region 6 with fail
          go_region_held3 (fun _ => True) (exact trivial)
            (first
              | (go_at_call 33; refine cC.mono ?_; rintro e w6 ⟨hb6, A6, rfl⟩; have HB6 : Hid (Bl w w6) := (HV.out.2.2.trans (Bl.refl _).drew).trans hb6; clear hb6))
          all_goals
            go_wp2
            go_ret2
            exact ⟨HB6.out, Or.inr ⟨_, rfl⟩⟩
end Go.Proofs.YtococaecjecjgaaGreatDoor.ly
