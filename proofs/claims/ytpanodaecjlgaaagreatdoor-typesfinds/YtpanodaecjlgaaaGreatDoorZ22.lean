/- Texts laid together: TyR, TyS, Tc1, Tc2. -/
import Derived.Test.YtpanodaecjlgaaaGreatDoorZ21
import Derived.Test.YtpanodaecjlgaaaGreatDoorZ18
/- Whether templates fit together: a block. -/
namespace Go.Proofs.YtpanodaecjlgaaaGreatDoor.tm
set_option linter.unusedVariables false
open Go.ChangeShapes Go.WideShapes Go.ChangeAt Go.RowKit Go.Shelf
open mem lx ex

/-- What looking at a block does. -/
def DoneB (B : Nat) (w : World) (q : Except (Int × Nat) (List (List UInt8))) (P : List (List UInt8) → World → Prop) (e : Ending) (w' : World) : Prop := Below B w w' ∧ Kx w w' ∧ match q with
  | .ok n => e = .returned (.tuple #[]) ∧ P n w'
  | .error (c, p) => ∃ A : Nat, e = thrownY A ∧ B ≤ A ∧ AtX w' A c (p : Int)
theorem DoneB.of_err {B : Nat} {w w' : World} {q : Except (Int × Nat) (List (List UInt8))} {P : List (List UInt8) → World → Prop} {c : Int} {p A : Nat} (hq : q = .error (c, p)) (hb : Below B w w') (hx : Kx w w') (hA : B ≤ A) (h : AtX w' A c (p : Int)) : DoneB B w q P (thrownY A) w' := by
  rw [hq]
  exact ⟨hb, hx, A, rfl, hA, h⟩
def BlkQ (K eb nb' sb : Nat) (earl names seen : List (List UInt8)) (ke kn ks t : Nat) (names' : List (List UInt8)) (w' : World) : Prop := (∀ y ∈ names, y ∈ names') ∧ (∀ y ∈ names', y ≠ []) ∧ ∃ kn' ks', kn' ≤ kn + t ∧ ks' ≤ ks + t ∧ Ck w' K eb nb' sb earl names' seen ke kn' ks'
/-- What a block asks. -/
structure BI (k : Nat) (l : Its) (B K eb nb' sb : Nat) (earl names seen : List (List UInt8)) (ke kn ks n : Nat) (p : Option Addr) (c : Nat) (cs : List C) (w : World) : Prop where
  wi : WI k l
  len : l.len ≤ 16
  at_ : AtB l
  ck : Ck w K eb nb' sb earl names seen ke kn ks
  bn : B ≤ nb'
  bs : B ≤ sb
  bw : B ≤ w.heap.size
  kn : kn + tot l ≤ 4000
  ks : ks + tot l ≤ 4000
  lie : ir.Lie w (fun g => g < B) p n c cs
  rep : Rep w (fun g => g < B) l cs
  sub : ∀ y ∈ seen, y ∈ names
  non : ∀ y ∈ names, y ≠ []
  n : n = l.len
def BlkY (k : Nat) : Prop := ∀ (l : Its) (B K eb nb' sb : Nat) (earl names seen : List (List UInt8)) (ke kn ks n : Nat) (p : Option Addr) (c : Nat) (cs : List C) (w : World), BI k l B K eb nb' sb earl names seen ke kn ks n p c cs w →
  Calls Tryz.prog 44 #[.pointer (some ⟨K, 0, none⟩), .slice p n c] w fun e w' => DoneB B w (chkB earl l names seen) (BlkQ K eb nb' sb earl names seen ke kn ks (tot l)) e w'
/-- How far the items are looked at. -/
structure S1 (l : Its) (B K eb nb' sb : Nat) (earl names seen : List (List UInt8)) (ke kn ks : Nat) (w wr : World) (j : Nat) (names' seen' : List (List UInt8)) (kn' ks' : Nat) : Prop where
  BL : Below B w wr
  kx : Kx w wr
  ck : Ck wr K eb nb' sb earl names' seen' ke kn' ks'
  eq : chkI earl l names seen = chkI earl (l.dr j) names' seen'
  nmd : Nmd l j names seen names' seen'
  kn : kn' + tot (l.dr j) ≤ kn + tot l
  ks : ks' + tot (l.dr j) ≤ ks + tot l
theorem S1.bl {l : Its} {B K eb nb' sb : Nat} {earl names seen : List (List UInt8)} {ke kn ks : Nat} {w wr w' : World} {j : Nat} {names' seen' : List (List UInt8)} {kn' ks' : Nat} (h : S1 l B K eb nb' sb earl names seen ke kn ks w wr j names' seen' kn' ks') (hb : Bl wr w') (hB : B ≤ w.heap.size) : S1 l B K eb nb' sb earl names seen ke kn ks w w' j names' seen' kn' ks' :=
  ⟨h.BL.trans (hb.mono (Nat.le_trans hB h.BL.size)), h.kx.trans (Kx.bl hb), h.ck.bl hb, h.eq, h.nmd, h.kn, h.ks⟩
theorem chkB_err {earl names seen : List (List UInt8)} {l : Its} {e : Int × Nat} (h : chkI earl l names seen = .error e) : chkB earl l names seen = .error e := by unfold chkB; rw [h]
theorem wd_ok {d : D} (h : WD d) : (∀ x, d.ct = some x → Okb x) ∧ d.nm.length ≤ 5000 ∧ d.ty.length ≤ 5000 ∧ (d.kd = 4 → d.nm = []) ∧ (d.kd ≠ 4 → d.nm ≠ []) := by
  have nn : ∀ {t : List UInt8}, NM t → t ≠ [] ∧ t.length ≤ 5000 := fun {t} h => ⟨fun e => by have := h.2.1; rw [e] at this; revert this; decide, by have := h.2.2.1; omega⟩
  rcases h with h | h | h | h
  · obtain ⟨h1, ⟨x, hx, wx⟩, h3, _, _, h6, _⟩ := h
    exact ⟨fun y hy => by rw [hx] at hy; injection hy with hy; rw [← hy]; exact wx.1.okb, by rw [h3]; simp, by rw [h6]; simp, fun _ => h3, fun h4 => absurd h1 h4⟩
  · obtain ⟨h1, hn, ⟨x, hx, wx⟩, _, _, h6, _⟩ := h
    exact ⟨fun y hy => by rw [hx] at hy; injection hy with hy; rw [← hy]; exact wx.1.okb, (nn hn).2, by rw [h6]; simp, fun h4 => by omega, fun _ => (nn hn).1⟩
  · obtain ⟨h1, ht, hn, _, _, _, _, _, _, hm⟩ := h
    refine ⟨fun y hy => ?_, (nn hn).2, (nn ht).2, fun h4 => by omega, fun _ => (nn hn).1⟩
    rcases hm with ⟨_, x, hx, wx⟩ | ⟨_, hx⟩
    · rw [hx] at hy; injection hy with hy; rw [← hy]; exact wx.1.okb
    · rw [hx] at hy; cases hy
  · obtain ⟨h1, ht, _, hn, hm⟩ := h
    refine ⟨fun y hy => ?_, (nn hn).2, by rw [ht]; simp, fun h4 => by omega, fun _ => (nn hn).1⟩
    rcases hm with ⟨_, ⟨x, hx, wx⟩, _⟩ | ⟨_, hx, _⟩
    · rw [hx] at hy; injection hy with hy; rw [← hy]; exact wx.1.okb
    · rw [hx] at hy; cases hy
/-- How far what was seen is forgotten. -/
structure S2 (l : Its) (B K eb nb' sb : Nat) (earl names' seen' : List (List UInt8)) (ke kn' ks' : Nat) (w wr : World) (j : Nat) : Prop where
  BL : Below B w wr
  kx : Kx w wr
  ck : Ck wr K eb nb' sb earl names' (seen'.filter (fun y => y ∉ (l.ds.take j).map D.nm)) ke kn' ks'
theorem S2.step {l : Its} {B K eb nb' sb : Nat} {earl names' seen' : List (List UInt8)} {ke kn' ks' : Nat} {w wr w3 w' : World} {j : Nat} (h : S2 l B K eb nb' sb earl names' seen' ke kn' ks' w wr j) (hb : Bl wr w3) (hB : B ≤ w.heap.size) (hs : B ≤ sb) {d : D} (hd : l.ds[j]? = some d)
    (hn : SetM w' sb ((seen'.filter (fun y => y ∉ (l.ds.take j).map D.nm)).filter (fun y => y ≠ d.nm)) ks') (hg : w3.grownBy w' (some sb)) : S2 l B K eb nb' sb earl names' seen' ke kn' ks' w w' (j + 1) := by
  have hc := h.ck.bl hb
  have hs3 : B ≤ w3.heap.size := Nat.le_trans (Nat.le_trans hB h.BL.size) hb.size
  refine ⟨below_grown (h.BL.trans (hb.mono (Nat.le_trans hB h.BL.size))) hg hs hs3, (h.kx.trans (Kx.bl hb)).trans (Kx.map hc.s hg), hc.putS hg (hn.same (fun y => ?_))⟩
  rw [List.take_add_one, hd, List.map_append]
  simp only [List.mem_filter, List.mem_append, decide_eq_true_eq, Option.toList, List.map_cons, List.map_nil, List.mem_singleton, not_or]
  constructor
  · rintro ⟨⟨h1, h2⟩, h3⟩; exact ⟨h1, h2, h3⟩
  · rintro ⟨h1, h2, h3⟩; exact ⟨⟨h1, h2⟩, h3⟩
/-- How far rules are looked at. -/
structure S3 (g : Nat → D → Option (Int × Nat)) (l : Its) (B K eb nb' sb : Nat) (earl names' seen : List (List UInt8)) (ke kn' ks' : Nat) (w wr : World) (j : Nat) : Prop where
  BL : Below B w wr
  kx : Kx w wr
  ck : Ck wr K eb nb' sb earl names' seen ke kn' ks'
  eq : firstW g 0 l.ds = firstW g j (l.ds.drop j)
theorem S3.on {g : Nat → D → Option (Int × Nat)} {l : Its} {B K eb nb' sb : Nat} {earl names' seen : List (List UInt8)} {ke kn' ks' : Nat} {w wr w' : World} {j : Nat} (h : S3 g l B K eb nb' sb earl names' seen ke kn' ks' w wr j) (hb : Bl wr w') (hB : B ≤ w.heap.size) {d : D} (hd : l.ds[j]? = some d) (hg : g j d = none) : S3 g l B K eb nb' sb earl names' seen ke kn' ks' w w' (j + 1) :=
  ⟨h.BL.trans (hb.mono (Nat.le_trans hB h.BL.size)), h.kx.trans (Kx.bl hb), h.ck.bl hb, h.eq.trans ((firstW_step g l.ds j d hd).2 hg)⟩
theorem chkB_is {earl names seen names' : List (List UInt8)} {l : Its} (h : chkI earl l names seen = .ok names') : (∀ e, firstW (ruleW l.ds) 0 l.ds = some e → chkB earl l names seen = .error e) ∧ (firstW (ruleW l.ds) 0 l.ds = none → (∀ e, firstW (cycW l.ds) 0 l.ds = some e → chkB earl l names seen = .error e) ∧ (firstW (cycW l.ds) 0 l.ds = none → chkB earl l names seen = .ok names')) := by
  unfold chkB rulesW
  rw [h]
  dsimp only
  refine ⟨fun e he => by rw [he], fun hn => ?_⟩
  rw [hn]
  dsimp only
  exact ⟨fun e he => by rw [he], fun he => by rw [he]⟩
theorem cyc_is (ds : List D) (i : Nat) (d : D) : (¬ d.ru = 3 → cycW ds i d = none) ∧ (d.ru = 3 → (rnd ds i = true → cycW ds i d = some (11, d.at_)) ∧ (rnd ds i = false → cycW ds i d = none)) := by
  unfold cycW
  exact ⟨fun h => by rw [if_neg (fun hc => h hc.1)], fun h => ⟨fun hr => by rw [if_pos ⟨h, hr⟩], fun hr => by rw [if_neg (fun hc => by rw [hr] at hc; cases hc.2)]⟩⟩
set_option maxRecDepth 10000 in
set_option maxHeartbeats 8000000 in
theorem block_y (k : Nat) (hrec : ∀ k', k' < k → BlkY k') : BlkY k := by
  intro l B K eb nb' sb earl names seen ke kn ks n p c cs w h0
  have hn16 : n ≤ 16 := by rw [h0.n]; exact h0.len
  have H0 : Hid (BI k l B K eb nb' sb earl names seen ke kn ks n p c cs w) := h0
  obtain ⟨q, hq⟩ : ∃ q, q = chkB earl l names seen := ⟨_, rfl⟩
  rw [← hq]
  have HQ : Hid (q = chkB earl l names seen) := hq
  clear h0 hq
  go_enter Tryz.func44, Tryz.ntmps44
  go_upto_region 1 with fail
  go_loopw [14] (fun i wr => ∃ (j : Nat) (names' seen' : List (List UInt8)) (kn' ks' : Nat), j ≤ n ∧ i = .int .i64 (j : Int) ∧ Hid (S1 l B K eb nb' sb earl names seen ke kn ks w wr j names' seen' kn' ks')) (fun i _ => n - (intOf i).toNat)
  case atStart => exact ⟨0, names, seen, kn, ks, by omega, rfl, ⟨Below.refl _ _, Kx.bl (Bl.refl _), H0.out.ck, by cases l <;> rfl, Nmd.start l H0.out.sub H0.out.non, by cases l <;> exact Nat.le_refl _, by cases l <;> exact Nat.le_refl _⟩⟩
  case round =>
    obtain ⟨j, names', seen', kn', ks', hj, rfl, HB⟩ := hrel
    by_cases hjn : j < n
    · obtain ⟨x, d, s, e1, e2, e3, e4, cs2, e5, e6⟩ := H0.out.rep.at j (by rw [← H0.out.n]; exact hjn)
      subst e3
      obtain ⟨X, hX, _, g0', g⟩ := lie_at (lie_low H0.out.lie HB.out.BL) j x e1
      subst hX
      have g0 : wr.cell? (X.add (j * 13)) = some (.int .i64 (x.d.kd : Int)) := g0'
      clear g0'
      have g1 := g 1 _ rfl
      have g2 := g 2 _ rfl
      have g3 := g 3 _ rfl
      have g4 := g 4 _ rfl
      have g5 := g 5 _ rfl
      have g6 := g 6 _ rfl
      have g7 := g 7 _ rfl
      have g8 := g 8 _ rfl
      have g9 := g 9 _ rfl
      have g10 := g 10 _ rfl
      have g11 := g 11 _ rfl
      have g12 := g 12 _ rfl
      have d1 : decide ((j : Int) < (n : Int)) = true := decide_eq_true (by omega)
      have i0 : (0 : Int) ≤ (j : Int) := by omega
      have i1 : (j : Int) < (n : Int) := by omega
      obtain ⟨w3, hw3⟩ : ∃ w3, w3 = wr.alloc (.cells (cl x).toArray 75) := ⟨_, rfl⟩
      obtain ⟨M, hM⟩ : ∃ M, M = wr.heap.size := ⟨_, rfl⟩
      have hv3 : Iv w3 M x := ⟨by rw [hw3, hM]; exact new_at _ _⟩
      have hbl3 : Bl wr w3 := by rw [hw3]; exact (Bl.refl _).alloc _
      have hkx : Kx w wr := HB.out.kx
      obtain ⟨u1, u2, u3⟩ := H0.out.wi.at j _ _ e2
      obtain ⟨v1, v2, v3, v4, v5⟩ := wd_ok u1
      obtain ⟨t1, t2⟩ := H0.out.at_.at j _ _ e2
      obtain ⟨o1, o2⟩ := chkI_step earl e2 names' seen'
      have hts := tot_step e2
      have H3 : Hid (S1 l B K eb nb' sb earl names seen ke kn ks w w3 j names' seen' kn' ks' ∧ Iv w3 M x ∧ IsO w3 x.pc x.d.ct) := ⟨HB.out.bl hbl3 H0.out.bw, hv3, (e4.keep hkx).keep (Kx.bl hbl3)⟩
      have HE : Hid (l.ps[j]? = some (x.d, s) ∧ tot (l.dr j) = 1 + tot s + tot (l.dr (j + 1)) ∧ ir.Lie w (fun g => g < B) x.p x.n x.c cs2 ∧ Rep w (fun g => g < B) s cs2) := ⟨e2, hts, e5, e6⟩
      clear e1 e2 e4 e5 e6 hts hkx hbl3 hv3
      go_upto_region 3 with fail
      change Code.wp _ _ _ _ (wr.alloc (.cells (cl x).toArray 75))
      rw [← hw3, ← hM]
      clear hw3 hM g0 g1 g2 g3 g4 g5 g6 g7 g8 g9 g10 g11 g12 g
      obtain ⟨a0, a1, a2, a3, a4, a5, a6, a7, a8, a9, a10, a11, a12⟩ := H3.out.2.1.facts
      by_cases h4 : x.d.kd = 4
      · obtain ⟨o3, o4⟩ := o1 h4
        obtain ⟨z1, z2, z3⟩ := u3 h4
        have hnm := v4 h4
        rw [h4] at a0
        have cA := ask_at w3 K eb nb' sb ks' seen' x.pc x.d.ct H3.out.1.ck.h H3.out.1.ck.s H3.out.2.2 v1
        obtain ⟨mo, hmo⟩ : ∃ mo, mo = misO seen' x.d.ct := ⟨_, rfl⟩
        rw [← hmo] at cA o3 o4
        have HR : Hid (0 < k ∧ s.len ≤ 16 ∧ WI (k - 1) s ∧ AtB s ∧ x.d.nm = []) := ⟨z1, z2, z3, t2, hnm⟩
        clear o1 o2 hmo h4 z1 z2 z3 t1 t2 u1 u2 u3 v1 v2 v3 v4 v5 hnm a1 a2 a3 a4 a5 a6 a7 a9 a10 a11
        go_wp2_with fail
        refine cA.mono ?_
        rintro e w5 ⟨hb5, hans⟩
        have H5 : Hid (S1 l B K eb nb' sb earl names seen ke kn ks w w5 j names' seen' kn' ks' ∧ Iv w5 M x) := ⟨H3.out.1.bl hb5 H0.out.bw, H3.out.2.1.bl hb5⟩
        cases mo with
        | some p0 =>
          obtain ⟨A, rfl, hA1, hA2⟩ := hans
          have hfin : DoneB B w q (BlkQ K eb nb' sb earl names seen ke kn ks (tot l)) (thrownY A) w5 := by
            have hs := Nat.le_trans H0.out.bw H3.out.1.BL.size
            exact DoneB.of_err (by rw [HQ.out]; exact chkB_err (HB.out.eq.trans (o3 _ rfl))) H5.out.1.BL H5.out.1.kx (by omega) hA2
          unfold thrownY
          go_wp2
          exact ⟨rfl, hfin⟩
        | none =>
          dsimp only at hans
          subst hans
          obtain ⟨o5, o6⟩ := o4 rfl
          have hen : x.n = s.len := by rw [HE.out.2.2.1.1]; exact HE.out.2.2.2.len.1
          have cR := hrec (k - 1) (by have := HR.out.1; omega) s B K eb nb' sb earl names' seen' ke kn' ks' x.n x.p x.c cs2 w5
            ⟨HR.out.2.2.1, HR.out.2.1, HR.out.2.2.2.1, H5.out.1.ck, H0.out.bn, H0.out.bs, Nat.le_trans H0.out.bw H5.out.1.BL.size, by have h1 := H5.out.1.kn; have h2 := HE.out.2.1; have h3 := H0.out.kn; omega, by have h1 := H5.out.1.ks; have h2 := HE.out.2.1; have h3 := H0.out.ks; omega, lie_low HE.out.2.2.1 H5.out.1.BL, HE.out.2.2.2.low H5.out.1.BL H5.out.1.kx, H5.out.1.nmd.f3, H5.out.1.nmd.f4, hen⟩
          obtain ⟨b0, b1, b2, b3, b4, b5, b6, b7, b8, b9, b10, b11, b12⟩ := H5.out.2.facts
          have HO : Hid ((∀ e, chkB earl s names' seen' = .error e → chkI earl (l.dr j) names' seen' = .error e) ∧ ∀ n2, chkB earl s names' seen' = .ok n2 → chkI earl (l.dr j) names' seen' = chkI earl (l.dr (j + 1)) n2 seen') := ⟨o5, o6⟩
          clear o3 o4 o5 o6 cA hb5 hen b0 b1 b2 b3 b4 b5 b6 b7 b8 b9 b10 b11 a0 a8 a12
          go_wp2_with fail
          refine cR.mono ?_
          rintro e w6 ⟨hb6, hx6, hans⟩
          cases hcB : chkB earl s names' seen' with
          | error cp =>
            obtain ⟨cc, pp⟩ := cp
            rw [hcB] at hans
            obtain ⟨A, rfl, hA1, hA2⟩ := hans
            have hfin : DoneB B w q (BlkQ K eb nb' sb earl names seen ke kn ks (tot l)) (thrownY A) w6 :=
              DoneB.of_err (by rw [HQ.out]; exact chkB_err (HB.out.eq.trans (HO.out.1 _ hcB))) (H5.out.1.BL.trans hb6) (H5.out.1.kx.trans hx6) hA1 hA2
            clear hcB cR
            unfold thrownY
            go_wp2
            exact ⟨rfl, hfin⟩
          | ok n2 =>
            rw [hcB] at hans
            obtain ⟨rfl, hf6, hf4, kn2, ks2, hkn2, hks2, hck⟩ := hans
            have H7 : Hid (S1 l B K eb nb' sb earl names seen ke kn ks w w6 (j + 1) n2 seen' kn2 ks2) :=
              ⟨H5.out.1.BL.trans hb6, H5.out.1.kx.trans hx6, hck, HB.out.eq.trans (HO.out.2 _ hcB), HB.out.nmd.when HE.out.1 HR.out.2.2.2.2 hf6 hf4, by have h1 := HB.out.kn; have h2 := HE.out.2.1; omega, by have h1 := HB.out.ks; have h2 := HE.out.2.1; omega⟩
            clear hcB cR hf6 hf4 hkn2 hks2 hck hb6 hx6 b12
            go_wp2
            go_roundw
            case rel => exact ⟨j + 1, n2, seen', kn2, ks2, by omega, by go_num, H7.out⟩
            case measure => simp [intOf]; omega
      · obtain ⟨o3, o4⟩ := o2 h4
        have h4' : ¬ ((x.d.kd : Int) = 4) := by omega
        have hnm := v5 h4
        have cI := itemY_at w3 B K eb nb' sb earl names' seen' ke kn' ks' x H3.out.1.ck H0.out.bn H0.out.bs (Nat.le_trans H0.out.bw H3.out.1.BL.size) ⟨by have h1 := HB.out.kn; have h3 := H0.out.kn; omega, by have h1 := HB.out.ks; have h3 := H0.out.ks; omega⟩ H3.out.2.2 v1 v2 v3 t1
        obtain ⟨wq, hwq⟩ : ∃ wq, wq = itemW earl names' seen' x.d := ⟨_, rfl⟩
        have hnin : wq = none → x.d.nm ∉ names' := by
          intro hw hc
          have := (itemW_is earl names' seen' x.d).1 hc
          rw [← hwq, hw] at this
          cases this
        rw [← hwq] at cI o3 o4
        unfold itV cl at cI
        have HO : Hid ((∀ e, wq = some e → chkI earl (l.dr j) names' seen' = .error e) ∧ (wq = none → chkI earl (l.dr j) names' seen' = chkI earl (l.dr (j + 1)) (x.d.nm :: names') (seenN seen' x.d)) ∧ (wq = none → x.d.nm ∉ names') ∧ x.d.nm ≠ []) := ⟨o3, o4, hnin, hnm⟩
        clear o1 o2 o3 o4 hwq hnin hnm h4 u1 u2 u3 v1 v2 v3 v4 v5 t1 t2
        go_wp2_with fail
        refine cI.mono ?_
        rintro e w6 ⟨hb6, hx6, hans⟩
        clear cI a0 a1 a2 a3 a4 a5 a6 a7 a8 a9 a10 a11 a12
        cases wq with
        | some cp =>
          obtain ⟨cc, pp⟩ := cp
          obtain ⟨A, rfl, hA1, hA2⟩ := hans
          have hfin : DoneB B w q (BlkQ K eb nb' sb earl names seen ke kn ks (tot l)) (thrownY A) w6 :=
            DoneB.of_err (by rw [HQ.out]; exact chkB_err (HB.out.eq.trans (HO.out.1 _ rfl))) (H3.out.1.BL.trans hb6) (H3.out.1.kx.trans hx6) hA1 hA2
          unfold thrownY
          go_wp2
          exact ⟨rfl, hfin⟩
        | none =>
          obtain ⟨rfl, hck⟩ := hans
          have H7 : Hid (S1 l B K eb nb' sb earl names seen ke kn ks w w6 (j + 1) (x.d.nm :: names') (seenN seen' x.d) (kn' + 1) (ks' + 1)) :=
            ⟨H3.out.1.BL.trans hb6, H3.out.1.kx.trans hx6, hck, HB.out.eq.trans (HO.out.2.1 rfl), HB.out.nmd.item HE.out.1 HO.out.2.2.2 (HO.out.2.2.1 rfl), by have h1 := HB.out.kn; have h2 := HE.out.2.1; omega, by have h1 := HB.out.ks; have h2 := HE.out.2.1; omega⟩
          clear hck hb6 hx6
          go_wp2
          go_roundw
          case rel => exact ⟨j + 1, _, _, _, _, by omega, by go_num, H7.out⟩
          case measure => simp [intOf]; omega
    · obtain rfl : n = j := by omega
      have HN : Hid (Nmd l l.len names seen names' seen' ∧ chkI earl l names seen = .ok names' ∧ kn' ≤ kn + tot l ∧ ks' ≤ ks + tot l) := by
        have h := HB.out
        rw [H0.out.n] at h
        exact ⟨h.nmd, h.eq.trans (chkI_end _ _ _ _), by have := h.kn; omega, by have := h.ks; omega⟩
      have H2 : Hid (S2 l B K eb nb' sb earl names' seen' ke kn' ks' w wr 0) := by
        refine ⟨HB.out.BL, HB.out.kx, ?_⟩
        have e : seen'.filter (fun y => y ∉ (l.ds.take 0).map D.nm) = seen' := by simp
        rw [e]
        exact HB.out.ck
      clear HB hj hjn
      go_upto_region 9 with fail
      go_loopw [35] (fun i wr2 => ∃ (j : Nat), j ≤ n ∧ i = .int .i64 (j : Int) ∧ Hid (S2 l B K eb nb' sb earl names' seen' ke kn' ks' w wr2 j)) (fun i _ => n - (intOf i).toNat)
      case atStart => exact ⟨0, by omega, rfl, H2.out⟩
      case round =>
        clear H2
        obtain ⟨j, hj, rfl, HB⟩ := hrel
        by_cases hjn : j < n
        · obtain ⟨x, d, s, e1, e2, e3, e4, cs2, e5, e6⟩ := H0.out.rep.at j (by rw [← H0.out.n]; exact hjn)
          subst e3
          obtain ⟨X, hX, _, g0', g⟩ := lie_at (lie_low H0.out.lie HB.out.BL) j x e1
          subst hX
          have g0 : wr.cell? (X.add (j * 13)) = some (.int .i64 (x.d.kd : Int)) := g0'
          clear g0'
          have g1 := g 1 _ rfl
          have g2 := g 2 _ rfl
          have g3 := g 3 _ rfl
          have g4 := g 4 _ rfl
          have g5 := g 5 _ rfl
          have g6 := g 6 _ rfl
          have g7 := g 7 _ rfl
          have g8 := g 8 _ rfl
          have g9 := g 9 _ rfl
          have g10 := g 10 _ rfl
          have g11 := g 11 _ rfl
          have g12 := g 12 _ rfl
          have d1 : decide ((j : Int) < (n : Int)) = true := decide_eq_true (by omega)
          have i0 : (0 : Int) ≤ (j : Int) := by omega
          have i1 : (j : Int) < (n : Int) := by omega
          obtain ⟨w3, hw3⟩ : ∃ w3, w3 = wr.alloc (.cells (cl x).toArray 75) := ⟨_, rfl⟩
          obtain ⟨M, hM⟩ : ∃ M, M = wr.heap.size := ⟨_, rfl⟩
          have hv3 : Iv w3 M x := ⟨by rw [hw3, hM]; exact new_at _ _⟩
          have hbl3 : Bl wr w3 := by rw [hw3]; exact (Bl.refl _).alloc _
          have hd : l.ds[j]? = some x.d := by rw [← ps_ds, List.getElem?_map, e2]; rfl
          have hln := (wd_ok (H0.out.wi.at j _ _ e2).1).2.1
          have hbD := (Bl.refl w3).drew
          obtain ⟨w5, hr5, hn5, hg5⟩ := ((HB.out.ck.bl hbl3).bl hbD).s.drop x.d.nm hln 0
          have H5 : Hid (S2 l B K eb nb' sb earl names' seen' ke kn' ks' w w5 (j + 1)) := HB.out.step (hbl3.trans hbD) H0.out.bw H0.out.bs hd hn5 hg5
          obtain ⟨f0, f1, f2, f3, f4, f5, f6, f7, f8, f9, f10, f11, f12⟩ := (hv3.bl hbD).facts
          obtain ⟨k0, k1, k2⟩ := ((HB.out.ck.bl hbl3).bl hbD).cells
          have hKs := lt_of_heap ((HB.out.ck.bl hbl3).bl hbD).h
          clear e1 e2 e4 e5 e6 hd hln hbl3 hv3 hn5 hg5 f0 f1 f3 f4 f5 f6 f7 f8 f9 f10 f11 f12 k0 k1 hbD
          go_upto_region 11 with fail
          change Code.wp _ _ _ _ (wr.alloc (.cells (cl x).toArray 75))
          rw [← hw3, ← hM]
          clear hw3 hM g0 g1 g2 g3 g4 g5 g6 g7 g8 g9 g10 g11 g12 g
          go_region
          all_goals
            go_wp2
            go_roundw
            case rel => exact ⟨j + 1, by omega, by go_num, H5.out⟩
            case measure => simp [intOf]; omega
        · obtain rfl : n = j := by omega
          have H3 : Hid (S3 (ruleW l.ds) l B K eb nb' sb earl names' seen ke kn' ks' w wr 0) := by
            refine ⟨HB.out.BL, HB.out.kx, ⟨HB.out.ck.h, HB.out.ck.e, HB.out.ck.n, ?_, HB.out.ck.d1, HB.out.ck.d2, HB.out.ck.d3⟩, rfl⟩
            have h := HB.out.ck.s
            rw [H0.out.n] at h
            exact h.same (fun y => HN.out.1.left y)
          clear HB hjn
          go_upto_region 14 with fail
          go_loopw [48] (fun i wr => ∃ (j : Nat), j ≤ n ∧ i = .int .i64 (j : Int) ∧ Hid (S3 (ruleW l.ds) l B K eb nb' sb earl names' seen ke kn' ks' w wr j)) (fun i _ => n - (intOf i).toNat)
          case atStart => exact ⟨0, by omega, rfl, H3.out⟩
          case round =>
            clear H3
            obtain ⟨j, hj, rfl, HB⟩ := hrel
            by_cases hjn : j < n
            · obtain ⟨x, d, s, e1, e2, e3, e4, cs2, e5, e6⟩ := H0.out.rep.at j (by rw [← H0.out.n]; exact hjn)
              subst e3
              obtain ⟨X, hX, _, g0', g⟩ := lie_at (lie_low H0.out.lie HB.out.BL) j x e1
              subst hX
              have g0 : wr.cell? (X.add (j * 13)) = some (.int .i64 (x.d.kd : Int)) := g0'
              clear g0'
              have g1 := g 1 _ rfl
              have g2 := g 2 _ rfl
              have g3 := g 3 _ rfl
              have g4 := g 4 _ rfl
              have g5 := g 5 _ rfl
              have g6 := g 6 _ rfl
              have g7 := g 7 _ rfl
              have g8 := g 8 _ rfl
              have g9 := g 9 _ rfl
              have g10 := g 10 _ rfl
              have g11 := g 11 _ rfl
              have g12 := g 12 _ rfl
              have d1 : decide ((j : Int) < (n : Int)) = true := decide_eq_true (by omega)
              have i0 : (0 : Int) ≤ (j : Int) := by omega
              have i1 : (j : Int) < (n : Int) := by omega
              obtain ⟨w3, hw3⟩ : ∃ w3, w3 = wr.alloc (.cells (cl x).toArray 75) := ⟨_, rfl⟩
              obtain ⟨M, hM⟩ : ∃ M, M = wr.heap.size := ⟨_, rfl⟩
              have hv3 : Iv w3 M x := ⟨by rw [hw3, hM]; exact new_at _ _⟩
              have hbl3 : Bl wr w3 := by rw [hw3]; exact (Bl.refl _).alloc _
              have hd : l.ds[j]? = some x.d := by rw [← ps_ds, List.getElem?_map, e2]; rfl
              have hds : cs.map C.d = l.ds := H0.out.rep.len.2
              have hls := lie_low H0.out.lie (HB.out.BL.trans (hbl3.mono (Nat.le_trans H0.out.bw HB.out.BL.size)))
              have H3 : Hid (Bl wr w3 ∧ l.ds[j]? = some x.d) := ⟨hbl3, hd⟩
              obtain ⟨a0, a1, a2, a3, a4, a5, a6, a7, a8, a9, a10, a11, a12⟩ := hv3.facts
              by_cases r0 : x.d.ru = 0
              · have H5 : Hid (S3 (ruleW l.ds) l B K eb nb' sb earl names' seen ke kn' ks' w w3 (j + 1)) := HB.out.on hbl3 H0.out.bw hd (by unfold ruleW; rw [if_pos r0])
                rw [r0] at a9
                clear e1 e2 e4 e5 e6 hd hbl3 hv3 hls hds r0
                go_upto_region 16 with fail
                change Code.wp _ _ _ _ (wr.alloc (.cells (cl x).toArray 75))
                rw [← hw3, ← hM]
                clear hw3 hM g0 g1 g2 g3 g4 g5 g6 g7 g8 g9 g10 g11 g12 g
                go_wp2
                go_roundw
                case rel => exact ⟨j + 1, by omega, by go_num, H5.out⟩
                case measure => simp [intOf]; omega
              · have r0' : ¬ ((x.d.ru : Int) = 0) := by omega
                have cC := checkRule_at x j cs _ (some X) n c w3 hls (by omega) e1 r0
                rw [hds] at cC
                obtain ⟨rq, hrq⟩ : ∃ rq, rq = ruleW l.ds j x.d := ⟨_, rfl⟩
                rw [← hrq] at cC
                have HR : Hid (rq = ruleW l.ds j x.d) := hrq
                clear e1 e2 e4 e5 e6 hd hbl3 hv3 hls hds r0 hrq
                go_upto_region 16 with fail
                change Code.wp _ _ _ _ (wr.alloc (.cells (cl x).toArray 75))
                rw [← hw3, ← hM]
                clear hw3 hM g0 g1 g2 g3 g4 g5 g6 g7 g8 g9 g10 g11 g12 g
                go_wp2_with fail
                refine cC.mono ?_
                rintro e w6 ⟨hb6, hans⟩
                clear cC a0 a1 a2 a3 a4 a5 a6 a7 a8 a9 a10 a11 a12
                cases rq with
                | some cp =>
                  obtain ⟨cc, pp⟩ := cp
                  obtain ⟨A, rfl, hA1, hA2⟩ := hans
                  have hbb := H3.out.1.trans hb6
                  have hfin : DoneB B w q (BlkQ K eb nb' sb earl names seen ke kn ks (tot l)) (thrownY A) w6 := by
                    refine DoneB.of_err ?_ (HB.out.BL.trans (hbb.mono (Nat.le_trans H0.out.bw HB.out.BL.size))) (HB.out.kx.trans (Kx.bl hbb)) (Nat.le_trans (Nat.le_trans (Nat.le_trans H0.out.bw HB.out.BL.size) H3.out.1.size) hA1) hA2
                    rw [HQ.out]
                    exact (chkB_is HN.out.2.1).1 _ (HB.out.eq.trans ((firstW_step _ _ _ _ H3.out.2).1 _ HR.out.symm))
                  unfold thrownY
                  go_wp2
                  exact ⟨rfl, hfin⟩
                | none =>
                  dsimp only at hans
                  subst hans
                  have H5 : Hid (S3 (ruleW l.ds) l B K eb nb' sb earl names' seen ke kn' ks' w w6 (j + 1)) := HB.out.on (H3.out.1.trans hb6) H0.out.bw H3.out.2 HR.out.symm
                  clear hb6
                  go_wp2
                  go_roundw
                  case rel => exact ⟨j + 1, by omega, by go_num, H5.out⟩
                  case measure => simp [intOf]; omega
            · obtain rfl : n = j := by omega
              have HZ : Hid (firstW (ruleW l.ds) 0 l.ds = none) := by
                show firstW (ruleW l.ds) 0 l.ds = none
                rw [HB.out.eq, H0.out.n, ← Its.ds_len]
                exact firstW_end _ _
              have H4 : Hid (S3 (cycW l.ds) l B K eb nb' sb earl names' seen ke kn' ks' w wr 0) := ⟨HB.out.BL, HB.out.kx, HB.out.ck, rfl⟩
              clear HB hjn
              go_upto_region 20 with fail
              go_loopw [62] (fun i wr => ∃ (j : Nat), j ≤ n ∧ i = .int .i64 (j : Int) ∧ Hid (S3 (cycW l.ds) l B K eb nb' sb earl names' seen ke kn' ks' w wr j)) (fun i _ => n - (intOf i).toNat)
              case atStart => exact ⟨0, by omega, rfl, H4.out⟩
              case round =>
                clear H4
                obtain ⟨j, hj, rfl, HB⟩ := hrel
                by_cases hjn : j < n
                · obtain ⟨x, d, s, e1, e2, e3, e4, cs2, e5, e6⟩ := H0.out.rep.at j (by rw [← H0.out.n]; exact hjn)
                  subst e3
                  obtain ⟨X, hX, _, g0', g⟩ := lie_at (lie_low H0.out.lie HB.out.BL) j x e1
                  subst hX
                  have g0 : wr.cell? (X.add (j * 13)) = some (.int .i64 (x.d.kd : Int)) := g0'
                  clear g0'
                  have g1 := g 1 _ rfl
                  have g2 := g 2 _ rfl
                  have g3 := g 3 _ rfl
                  have g4 := g 4 _ rfl
                  have g5 := g 5 _ rfl
                  have g6 := g 6 _ rfl
                  have g7 := g 7 _ rfl
                  have g8 := g 8 _ rfl
                  have g9 := g 9 _ rfl
                  have g10 := g 10 _ rfl
                  have g11 := g 11 _ rfl
                  have g12 := g 12 _ rfl
                  have d1 : decide ((j : Int) < (n : Int)) = true := decide_eq_true (by omega)
                  have i0 : (0 : Int) ≤ (j : Int) := by omega
                  have i1 : (j : Int) < (n : Int) := by omega
                  obtain ⟨w3, hw3⟩ : ∃ w3, w3 = wr.alloc (.cells (cl x).toArray 75) := ⟨_, rfl⟩
                  obtain ⟨M, hM⟩ : ∃ M, M = wr.heap.size := ⟨_, rfl⟩
                  have hv3 : Iv w3 M x := ⟨by rw [hw3, hM]; exact new_at _ _⟩
                  have hbl3 : Bl wr w3 := by rw [hw3]; exact (Bl.refl _).alloc _
                  have hd : l.ds[j]? = some x.d := by rw [← ps_ds, List.getElem?_map, e2]; rfl
                  have hds : cs.map C.d = l.ds := H0.out.rep.len.2
                  have hls := lie_low H0.out.lie (HB.out.BL.trans (hbl3.mono (Nat.le_trans H0.out.bw HB.out.BL.size)))
                  have H3 : Hid (Bl wr w3 ∧ l.ds[j]? = some x.d) := ⟨hbl3, hd⟩
                  obtain ⟨a0, a1, a2, a3, a4, a5, a6, a7, a8, a9, a10, a11, a12⟩ := hv3.facts
                  obtain ⟨o1, o2⟩ := cyc_is l.ds j x.d
                  by_cases r3 : x.d.ru = 3
                  · obtain ⟨o3, o4⟩ := o2 r3
                    have cR := round_at x j cs _ (some X) n c w3 hls (by omega) e1
                    rw [hds] at cR
                    obtain ⟨rb, hrb⟩ : ∃ rb, rb = rnd l.ds j := ⟨_, rfl⟩
                    rw [← hrb] at cR o3 o4
                    have cT := ythrow_at (x.d.at_ : Int)
                    rw [r3] at a9
                    have HV : Hid (Iv w3 M x ∧ (rb = true → cycW l.ds j x.d = some (11, x.d.at_)) ∧ (rb = false → cycW l.ds j x.d = none)) := ⟨hv3, o3, o4⟩
                    clear e1 e2 e4 e5 e6 hd hbl3 hv3 hls hds r3 hrb o1 o2 o3 o4
                    go_upto_region 22 with fail
                    change Code.wp _ _ _ _ (wr.alloc (.cells (cl x).toArray 75))
                    rw [← hw3, ← hM]
                    clear hw3 hM g0 g1 g2 g3 g4 g5 g6 g7 g8 g9 g10 g11 g12 g
                    go_wp2_with fail
                    refine cR.mono ?_
                    rintro e w6 ⟨rfl, hb6⟩
                    clear cR a0 a1 a2 a3 a4 a5 a6 a7 a8 a9 a10 a11 a12
                    have a1 := (HV.out.1.bl hb6).facts.2.1
                    cases rb with
                    | true =>
                      have hc := HV.out.2.1 rfl
                      have hbb := H3.out.1.trans hb6
                      have HF : Hid (q = .error (11, x.d.at_) ∧ Below B w w6 ∧ Kx w w6 ∧ B ≤ w6.heap.size) := by
                        refine ⟨?_, HB.out.BL.trans (hbb.mono (Nat.le_trans H0.out.bw HB.out.BL.size)), HB.out.kx.trans (Kx.bl hbb), Nat.le_trans (Nat.le_trans H0.out.bw HB.out.BL.size) hbb.size⟩
                        rw [HQ.out]
                        exact ((chkB_is HN.out.2.1).2 HZ.out).1 _ (HB.out.eq.trans ((firstW_step _ _ _ _ H3.out.2).1 _ hc))
                      clear hc hbb hb6
                      go_wp2_with fail
                      refine (cT 11 w6).mono ?_
                      rintro e w9 ⟨A, rfl, hA1, hA2, hb9⟩
                      have hfin : DoneB B w q (BlkQ K eb nb' sb earl names seen ke kn ks (tot l)) (thrownY A) w9 := DoneB.of_err HF.out.1 (HF.out.2.1.trans (hb9.mono HF.out.2.2.2)) (HF.out.2.2.1.trans (Kx.bl hb9)) (Nat.le_trans HF.out.2.2.2 hA1) hA2
                      unfold thrownY
                      go_wp2
                      exact ⟨rfl, hfin⟩
                    | false =>
                      have H5 : Hid (S3 (cycW l.ds) l B K eb nb' sb earl names' seen ke kn' ks' w w6 (j + 1)) := HB.out.on (H3.out.1.trans hb6) H0.out.bw H3.out.2 (HV.out.2.2 rfl)
                      clear hb6
                      go_wp2
                      go_roundw
                      case rel => exact ⟨j + 1, by omega, by go_num, H5.out⟩
                      case measure => simp [intOf]; omega
                  · have r3' : ¬ ((x.d.ru : Int) = 3) := by omega
                    have H5 : Hid (S3 (cycW l.ds) l B K eb nb' sb earl names' seen ke kn' ks' w w3 (j + 1)) := HB.out.on hbl3 H0.out.bw hd (o1 r3)
                    clear e1 e2 e4 e5 e6 hd hbl3 hv3 hls hds o1 o2 r3
                    go_upto_region 22 with fail
                    change Code.wp _ _ _ _ (wr.alloc (.cells (cl x).toArray 75))
                    rw [← hw3, ← hM]
                    clear hw3 hM g0 g1 g2 g3 g4 g5 g6 g7 g8 g9 g10 g11 g12 g
                    go_wp2
                    go_roundw
                    case rel => exact ⟨j + 1, by omega, by go_num, H5.out⟩
                    case measure => simp [intOf]; omega
                · obtain rfl : n = j := by omega
                  have hfin : DoneB B w q (BlkQ K eb nb' sb earl names seen ke kn ks (tot l)) (.returned (.tuple #[])) wr := by
                    refine ⟨HB.out.BL, HB.out.kx, ?_⟩
                    have hq : q = .ok names' := by
                      rw [HQ.out]
                      refine ((chkB_is HN.out.2.1).2 HZ.out).2 ?_
                      rw [HB.out.eq, H0.out.n, ← Its.ds_len]
                      exact firstW_end _ _
                    rw [hq]
                    exact ⟨rfl, HN.out.1.f6, HN.out.1.f4, kn', ks', HN.out.2.2.1, HN.out.2.2.2, HB.out.ck⟩
                  go_wp2
                  go_end0
                  exact hfin
theorem block_ya (k : Nat) : BlkY k := by
  induction k using Nat.strongRecOn with
  | ind k ih => exact block_y k ih
end Go.Proofs.YtpanodaecjlgaaaGreatDoor.tm
/- Check of package types. -/
namespace Go.Proofs.YtpanodaecjlgaaaGreatDoor.tm
set_option linter.unusedVariables false
open Go.ChangeShapes Go.WideShapes Go.ChangeAt Go.RowKit Go.Shelf
open mem lx ex

def thrYV (A : Nat) : Value := .iface 86 (.agg #[.iface 110 (.pointer (some ⟨A, 0, none⟩))])
theorem ycatch_idle (p : Addr) (w : World) :
    CallsD Tryz.prog 42 #[.pointer (some p)] .returning w fun e u' w' => e = .returned (.tuple #[]) ∧ u' = .returning ∧ Bl w w' := by
  have hta : ∀ w : World, (Instr.typeAssert Value.nilIface 20 86 true).run Tryz.prog w = .ok (.tuple #[.agg #[.nilIface], .bool false]) w := fun _ => by kernel_rfl
  refine callsD_of_wpS Tryz.func42 rfl fun c₀ cs hu => ?_
  apply wpS_seq
  apply wpS_region
  simp [wpOpsS, go_sem, recoverD, hu, Tryz.ntmps42, Exit.thenS, hta]
  apply wpS_seq
  apply wpS_region
  simp [wpOpsS, go_sem, Exit.thenS]
  refine wpS_cond (t := false) (by simp [Act.eval, Array.replicate]) ?_
  simp only [Bool.false_eq_true, if_false]
  refine wpS_of_wp (wp_skip ?_)
  cases c₀
  simp_all [bodyPostS, results, Tryz.results42]
  exact (Bl.refl _).alloc _
theorem ycatch_thrown (N A : Nat) (w0 w : World) (e0 : Value) (c p : Int) (hv : Vr w N e0 30) (hb : Bl w0 w) (hN : w0.heap.size ≤ N) (hA : AtX w A c p) (hne : A ≠ N) :
    CallsD Tryz.prog 42 #[.pointer (some ⟨N, 0, none⟩)] (.panicking [{ v := thrYV A, recovered := false }]) w fun e u' w' =>
      e = .returned (.tuple #[]) ∧ u' = .panicking [{ v := thrYV A, recovered := true }] ∧ Vr w' N (atV A) 30 ∧ Bl w0 w' ∧ AtX w' A c p := by
  have hta : ∀ w : World, (Instr.typeAssert (thrYV A) 20 86 true).run Tryz.prog w = .ok (.tuple #[.agg #[.iface 110 (.pointer (some ⟨A, 0, none⟩))], .bool true]) w := fun _ => by kernel_rfl
  refine callsD_of_wpS Tryz.func42 rfl fun c₀ cs hu => ?_
  apply wpS_seq
  apply wpS_region
  simp [wpOpsS, go_sem, recoverD, hu, Tryz.ntmps42, Exit.thenS, hta]
  apply wpS_seq
  apply wpS_region
  simp [wpOpsS, go_sem, Exit.thenS]
  refine wpS_cond (t := true) (by simp [Act.eval, Array.replicate]) ?_
  simp only [if_true]
  have hM := hv.lt
  obtain ⟨M, hMe⟩ : ∃ M, M = w.heap.size := ⟨_, rfl⟩
  rw [← hMe] at hM ⊢
  obtain ⟨w1, hw1⟩ : ∃ w1, w1 = w.alloc (.cells #[.iface 110 (.pointer (some ⟨A, 0, none⟩))] 86) := ⟨_, rfl⟩
  have hb1 : Bl w w1 := by rw [hw1]; exact (Bl.refl _).alloc _
  have hcM : w1.cell? ⟨M, 0, none⟩ = some (.iface 110 (.pointer (some ⟨A, 0, none⟩))) := by
    have := new_at w (.cells #[.iface 110 (.pointer (some ⟨A, 0, none⟩))] 86)
    rw [hMe, hw1, cell_of this]; rfl
  have H1 : Hid (Vr w1 N e0 30 ∧ Bl w0 w1 ∧ AtX w1 A c p) := ⟨hv.step hb1, hb.trans hb1, AtX.bl hA hb1⟩
  rw [← hw1]
  clear hw1 hb1 hA hv hb hMe
  have c1 := H1.out.1.cell
  have f1 := H1.out.1.frozen
  have hMN : ¬ M = N := by omega
  have H9 : Vr (w1.setCell ⟨N, 0, none⟩ (atV A)) N (atV A) 30 ∧ Bl w0 (w1.setCell ⟨N, 0, none⟩ (atV A)) ∧ AtX (w1.setCell ⟨N, 0, none⟩ (atV A)) A c p := ⟨H1.out.1.set _, H1.out.2.1.setCell hN _, H1.out.2.2.set hne⟩
  unfold atV at H9
  apply wpS_region
  cases c₀
  simp [wpOpsS, go_sem, hcM, c1, f1, bodyPostS, results, Tryz.results42, Array.replicate, atV]
  exact H9
/-- What Check answers. -/
def CkA (w : World) (q : Option (Int × Nat)) (e : Ending) (w' : World) : Prop := Bl w w' ∧ match q with
  | none => e = .returned .nilIface
  | some (c, p) => ∃ A : Nat, e = .returned (atV A) ∧ w.heap.size ≤ A ∧ AtX w' A c (p : Int)
theorem CkA.of_err {w w' : World} {q : Option (Int × Nat)} {c : Int} {p A : Nat} (hq : q = some (c, p)) (hb : Bl w w') (hA : w.heap.size ≤ A) (h : AtX w' A c (p : Int)) : CkA w q (.returned (atV A)) w' := by
  rw [hq]; exact ⟨hb, A, rfl, hA, h⟩
theorem CkA.of_ok {w w' : World} {q : Option (Int × Nat)} (hq : q = none) (hb : Bl w w') : CkA w q (.returned .nilIface) w' := by
  rw [hq]; exact ⟨hb, rfl⟩
theorem chkT_step (earl : List (List UInt8)) (l : List Ty) (j : Nat) (t : Ty) (h : l[j]? = some t) : (t.nm ∈ earl → chkT earl (l.drop j) = some (9, t.at_)) ∧ (t.nm ∉ earl → (∀ e, chkB earl t.l [] [] = .error e → chkT earl (l.drop j) = some e) ∧ ∀ n, chkB earl t.l [] [] = .ok n → chkT earl (l.drop j) = chkT (t.nm :: earl) (l.drop (j + 1))) := by
  obtain ⟨hl, he⟩ := List.getElem?_eq_some_iff.1 h
  rw [List.drop_eq_getElem_cons hl, he, chkT]
  refine ⟨fun hm => by rw [if_pos hm], fun hm => ?_⟩
  rw [if_neg hm]
  exact ⟨fun e hc => by rw [hc], fun n hc => by rw [hc]⟩
/-- What Check asks. -/
structure CI (l : List Ty) : Prop where
  wt : WT l
  at_ : ∀ t ∈ l, t.at_ ≤ 100000 ∧ AtB t.l ∧ tot t.l ≤ 4000
/-- How far Check has come. -/
structure Cs (l : List Ty) (w wr : World) (N eb : Nat) (earl : List (List UInt8)) (j : Nat) : Prop where
  v : Vr wr N .nilIface 30
  bl : Bl w wr
  e : SetM wr eb earl j
  eq : chkT [] l = chkT earl (l.drop j)
theorem Cs.bl' {l : List Ty} {w wr w' : World} {N eb : Nat} {earl : List (List UInt8)} {j : Nat} (h : Cs l w wr N eb earl j) (hb : Bl wr w') : Cs l w w' N eb earl j := ⟨h.v.step hb, h.bl.trans hb, h.e.bl hb, h.eq⟩
set_option maxRecDepth 10000 in
set_option maxHeartbeats 8000000 in
theorem Check_at (l : List Ty) (v : Value) (w : World) (ok : Nat → Prop) (h : IsTs w ok v l) (hc : CI l) :
    Calls Tryz.prog 17 #[v] w fun e w' => CkA w (chk l) e w' := by
  have hmf : ∀ (fn : Fn) (first cap : Array Value) (w : World), (Instr.makeFunc fn first cap).run Tryz.prog w = .ok (.func fn first cap) w := fun _ _ _ _ => rfl
  have hmm : ∀ w, (Instr.makeMap 66 none).run Tryz.prog w = .ok (.map (some w.heap.size)) (w.alloc (.map #[] 0)) := fun w => by kernel_rfl
  obtain ⟨p, c, cs, rfl, h1, h2⟩ := h
  have h1 := h1.mono (ok' := fun g => g < w.heap.size) (fun g _ hg => hg)
  have h2 := h2.mono (ok' := fun g => g < w.heap.size) (fun g _ hg => hg)
  obtain ⟨n, hn⟩ : ∃ n, n = l.length := ⟨_, rfl⟩
  have hn8 : n ≤ 8 := by rw [hn]; exact hc.wt.1
  obtain ⟨w1, hw1⟩ : ∃ w1, w1 = w.alloc (.cells #[.nilIface] 30) := ⟨_, rfl⟩
  obtain ⟨N, hN⟩ : ∃ N, N = w.heap.size := ⟨_, rfl⟩
  have hv1 : Vr w1 N .nilIface 30 := by rw [hw1, hN]; exact Vr.new w _ _
  have hb1 : Bl w w1 := by rw [hw1]; exact (Bl.refl _).alloc _
  obtain ⟨eb, heb⟩ : ∃ eb, eb = w1.heap.size := ⟨_, rfl⟩
  obtain ⟨w2, hw2⟩ : ∃ w2, w2 = w1.alloc (.map #[] 0) := ⟨_, rfl⟩
  have hb2 : Bl w1 w2 := by rw [hw2]; exact (Bl.refl _).alloc _
  have hs2 : SetM w2 eb [] 0 := by rw [hw2, heb]; exact SetM.made w1
  obtain ⟨q, hq⟩ : ∃ q, q = chk l := ⟨_, rfl⟩
  rw [← hq, ← hn]
  have H0 : Hid (sr.Lie w (fun g => g < w.heap.size) p l.length c cs ∧ RepT w (fun g => g < w.heap.size) l cs ∧ CI l ∧ n = l.length ∧ N = w.heap.size ∧ q = chk l) := ⟨h1, h2, hc, hn, hN, hq⟩
  have HE0 : Hid (w.heap.size ≤ eb) := by show w.heap.size ≤ eb; rw [heb]; exact hb1.size
  have H2 : Hid (Cs l w w2 N eb [] 0) := ⟨hv1.step hb2, hb1.trans hb2, hs2, rfl⟩
  clear h1 h2 hn hc hv1 hb1 hb2 hs2 hq
  go_enter_defers Tryz.func17, Tryz.ntmps17
  go_upto_region 4 with fail
  rw [← hw1, ← hN]
  have heb2 : eb = N + 1 := by rw [heb, hw1, hN]; simp
  rw [← heb2, ← hw2]
  clear hw1 hw2 hN heb heb2
  go_loopw [13] (fun i wr => ∃ (j : Nat) (earl : List (List UInt8)), j ≤ n ∧ i = .int .i64 (j : Int) ∧ Hid (Cs l w wr N eb earl j)) (fun i _ => n - (intOf i).toNat)
  case atStart => exact ⟨0, [], by omega, rfl, H2.out⟩
  case round =>
    clear H2
    obtain ⟨j, earl, hj, rfl, HB⟩ := hrel
    by_cases hjn : j < n
    · obtain ⟨x, t, e1, e2, e3, e4, cs2, e5, e6⟩ := H0.out.2.1.at j (by rw [← H0.out.2.2.2.1]; exact hjn)
      obtain ⟨X, hX, _, g0', g⟩ := lieT_at (lieT_low H0.out.1 HB.out.bl) j x e1
      subst hX
      have g0 : wr.cell? (X.add (j * 3)) = some (.string (tx x.nm)) := g0'
      clear g0'
      have g1 := g 1 _ rfl
      have g2 := g 2 _ rfl
      have d1 : decide ((j : Int) < (n : Int)) = true := decide_eq_true (by omega)
      have i0 : (0 : Int) ≤ (j : Int) := by omega
      have i1 : (j : Int) < (n : Int) := by omega
      obtain ⟨w3, hw3⟩ : ∃ w3, w3 = wr.alloc (.cells (clT x).toArray 36) := ⟨_, rfl⟩
      obtain ⟨M, hM⟩ : ∃ M, M = wr.heap.size := ⟨_, rfl⟩
      have hv3 : w3.heap[M]? = some (.cells (clT x).toArray 36 (0, 0)) := by rw [hw3, hM]; exact new_at _ _
      have hbl3 : Bl wr w3 := by rw [hw3]; exact (Bl.refl _).alloc _
      have C3 := HB.out.bl' hbl3
      obtain ⟨hnm, hit, hwi⟩ := H0.out.2.2.1.wt.2 t (List.mem_of_getElem? e2)
      obtain ⟨ha1, ha2, ha3⟩ := H0.out.2.2.1.at_ t (List.mem_of_getElem? e2)
      have hnl : x.nm.length ≤ 5000 := by rw [e3]; have := hnm.2.2.1; omega
      obtain ⟨z1, hlk⟩ := C3.e.look x.nm hnl
      obtain ⟨o1, o2⟩ := chkT_step earl l j t e2
      rw [← e3] at o1 o2
      have hMs : M < w3.heap.size := lt_of_heap hv3
      have k0 : w3.cell? ⟨M, 0, none⟩ = some (.string (tx x.nm)) := by rw [cell_of hv3]; rfl
      have k1 : w3.cell? ⟨M, 1, none⟩ = some (.int .i64 (x.a : Int)) := by rw [cell_of hv3]; rfl
      have k2 : w3.cell? ⟨M, 2, none⟩ = some (.slice x.p x.n x.c) := by rw [cell_of hv3]; rfl
      have HX : Hid (Cs l w w3 N eb earl j ∧ w3.heap[M]? = some (.cells (clT x).toArray 36 (0, 0)) ∧ x.a = t.at_ ∧ ir.Lie w (fun g => g < w.heap.size) x.p x.n x.c cs2 ∧ Rep w (fun g => g < w.heap.size) t.l cs2 ∧ t.l.len ≤ 16 ∧ WI 7 t.l ∧ AtB t.l ∧ tot t.l ≤ 4000 ∧ x.nm.length ≤ 5000) := ⟨C3, hv3, e4, e5, e6, hit, hwi, ha2, ha3, hnl⟩
      clear g e1 e2 e3 e4 e5 e6 C3 hv3 hbl3 hnm hit hwi ha1 ha2 ha3 hnl
      go_upto_region 6 with fail
      change Code.wp _ _ _ _ (wr.alloc (.cells (clT x).toArray 36))
      rw [← hw3, ← hM]
      clear hw3 hM g0 g1 g2
      by_cases hin : x.nm ∈ earl
      · rw [decide_eq_true hin] at hlk
        have HQ : Hid (q = some (9, x.a)) := by
          show q = _
          rw [H0.out.2.2.2.2.2, HX.out.2.2.1]
          exact HB.out.eq.trans (o1 hin)
        have cT := ythrow_at (x.a : Int)
        clear o1 o2 hin
        go_wp2_with fail
        refine (cT 9 w3).mono ?_
        rintro e w9 ⟨A, rfl, hA1, hA2, hb9⟩
        have HF : Hid (Vr w9 N .nilIface 30 ∧ Bl w w9 ∧ AtX w9 A 9 (x.a : Int) ∧ A ≠ N ∧ w.heap.size ≤ A) := ⟨HX.out.1.v.step hb9, HX.out.1.bl.trans hb9, hA2, by have := HX.out.1.v.lt; omega, Nat.le_trans HX.out.1.bl.size hA1⟩
        clear hb9 hA1 hA2
        unfold thrownY
        go_wp2
        refine leaves_cons (f := 42) (args := #[.pointer (some ⟨N, 0, none⟩)]) (by simp) (by simp [go_sem]) ?_
        refine (ycatch_thrown N A w w9 .nilIface 9 (x.a : Int) HF.out.1 HF.out.2.1 (by have := H0.out.2.2.2.2.1; omega) HF.out.2.2.1 HF.out.2.2.2.1).mono ?_
        rintro e u' wz ⟨rfl, rfl, hvz, hbz, haz⟩
        have c1' := hvz.cell
        have hfin := CkA.of_err HQ.out hbz HF.out.2.2.2.2 haz
        unfold thrYV
        simp [Leaves, settle, results, Tryz.results17, go_sem, c1']
        exact hfin
      · rw [decide_eq_false hin] at hlk
        obtain ⟨o3, o4⟩ := o2 hin
        have HO : Hid ((∀ e, chkB earl t.l [] [] = .error e → chkT earl (l.drop j) = some e) ∧ ∀ n, chkB earl t.l [] [] = .ok n → chkT earl (l.drop j) = chkT (x.nm :: earl) (l.drop (j + 1))) := ⟨o3, o4⟩
        obtain ⟨B, hB⟩ : ∃ B, B = w3.heap.size := ⟨_, rfl⟩
        obtain ⟨w4, hw4⟩ : ∃ w4, w4 = w3.alloc (.map #[] 0) := ⟨_, rfl⟩
        obtain ⟨S, hS⟩ : ∃ S, S = B + 1 := ⟨_, rfl⟩
        have hS4 : S = w4.heap.size := by rw [hS, hB, hw4]; simp
        obtain ⟨w5, hw5⟩ : ∃ w5, w5 = w4.alloc (.map #[] 0) := ⟨_, rfl⟩
        obtain ⟨K, hK⟩ : ∃ K, K = B + 1 + 1 := ⟨_, rfl⟩
        have hK5 : K = w5.heap.size := by rw [hK, hB, hw5, hw4]; simp
        obtain ⟨w6, hw6⟩ : ∃ w6, w6 = w5.alloc (.cells #[.map (some eb), .map (some B), .map (some S)] 92) := ⟨_, rfl⟩
        have hb4 : Bl w3 w4 := by rw [hw4]; exact (Bl.refl _).alloc _
        have hb5 : Bl w4 w5 := by rw [hw5]; exact (Bl.refl _).alloc _
        have hb6 : Bl w5 w6 := by rw [hw6]; exact (Bl.refl _).alloc _
        have sB : SetM w4 B [] 0 := by rw [hw4, hB]; exact SetM.made w3
        have sS : SetM w5 S [] 0 := by rw [hw5, hS4]; exact SetM.made w4
        have hbl36 := (hb4.trans hb5).trans hb6
        have hebl := HX.out.1.e.lt
        have hBl := sB.lt
        have hck : Ck w6 K eb B S earl [] [] j 0 0 := ⟨by rw [hw6, hK5]; exact new_at _ _, HX.out.1.e.bl hbl36, sB.bl (hb5.trans hb6), sS.bl hb6, by omega, by omega, by omega⟩
        have hwB : w.heap.size ≤ B := by have := HX.out.1.bl.size; omega
        have hNB : N < B := by have := HX.out.1.v.lt; omega
        have hbw6 : Bl w w6 := HX.out.1.bl.trans hbl36
        have cR := block_ya 7 t.l B K eb B S earl [] [] j 0 0 x.n x.p x.c cs2 w6 ⟨HX.out.2.2.2.2.2.2.1, HX.out.2.2.2.2.2.1, HX.out.2.2.2.2.2.2.2.1, hck, Nat.le_refl _, by omega, by have := hbl36.size; omega, by have := HX.out.2.2.2.2.2.2.2.2.1; omega, by have := HX.out.2.2.2.2.2.2.2.2.1; omega,
          (HX.out.2.2.2.1.keep (fun g hg _ => hbw6.block g hg) hbw6.size).mono (fun g hg _ => by omega), (HX.out.2.2.2.2.1.keep (fun g hg _ => hbw6.block g hg) hbw6.size (Kx.bl hbw6)).mono (fun g hg _ => by omega), fun y hy => (by cases hy), fun y hy => (by cases hy), by rw [HX.out.2.2.2.1.1]; exact HX.out.2.2.2.2.1.len.1⟩
        have k2' := at_bl hbl36 k2
        have hMs6 : M < w6.heap.size := Nat.lt_of_lt_of_le hMs hbl36.size
        have H6 : Hid (Bl w w6 ∧ Bl w3 w6 ∧ B = w3.heap.size ∧ w.heap.size ≤ B ∧ N < B) := ⟨hbw6, hbl36, hB, hwB, hNB⟩
        clear o1 o2 o3 o4 hin hck hbw6 hbl36 hb4 hb5 hb6 sB sS hebl hBl k1
        go_upto_region 10 with fail
        rw [← hB, ← hK, ← hS, ← hw4, ← hw5, ← hw6]
        clear hB hw4 hS hw5 hK hw6 k0 k2 hlk hS4 hK5
        go_wp2_with fail
        refine cR.mono ?_
        rintro e w7 ⟨hb7, hx7, hans⟩
        clear cR
        have H7 : Hid (Vr w7 N .nilIface 30 ∧ Bl w w7 ∧ w7.heap[M]? = some (.cells (clT x).toArray 36 (0, 0))) := by
          refine ⟨?_, Below.trans (show Below w.heap.size w w6 from H6.out.1) (hb7.mono H6.out.2.2.2.1), ?_⟩
          · have hv := HX.out.1.v.step H6.out.2.1
            unfold Vr at hv ⊢
            rw [hb7.block N H6.out.2.2.2.2]
            exact hv
          · rw [hb7.block M (by rw [H6.out.2.2.1]; exact hMs), Below.block H6.out.2.1 M hMs]
            exact HX.out.2.1
        cases hcB : chkB earl t.l [] [] with
        | error cp =>
          obtain ⟨cc, pp⟩ := cp
          rw [hcB] at hans
          obtain ⟨A, rfl, hA1, hA2⟩ := hans
          have HF : Hid (AtX w7 A cc (pp : Int) ∧ A ≠ N ∧ w.heap.size ≤ A ∧ q = some (cc, pp)) := ⟨hA2, by have := H6.out.2.2.2.2; omega, by have := H6.out.2.2.2.1; omega, by rw [H0.out.2.2.2.2.2]; exact HB.out.eq.trans (HO.out.1 _ hcB)⟩
          clear hcB hA1 hA2 hb7 hx7 k2'
          unfold thrownY
          go_wp2
          refine leaves_cons (f := 42) (args := #[.pointer (some ⟨N, 0, none⟩)]) (by simp) (by simp [go_sem]) ?_
          refine (ycatch_thrown N A w w7 .nilIface cc (pp : Int) H7.out.1 H7.out.2.1 (by have := H0.out.2.2.2.2.1; omega) HF.out.1 HF.out.2.1).mono ?_
          rintro e u' wz ⟨rfl, rfl, hvz, hbz, haz⟩
          have c1' := hvz.cell
          have hfin := CkA.of_err HF.out.2.2.2 hbz HF.out.2.2.1 haz
          unfold thrYV
          simp [Leaves, settle, results, Tryz.results17, go_sem, c1']
          exact hfin
        | ok n2 =>
          rw [hcB] at hans
          obtain ⟨rfl, _, _, kn2, ks2, _, _, hck⟩ := hans
          obtain ⟨w8, hr8, hn8', hg8⟩ := hck.e.put x.nm (j : Int) HX.out.2.2.2.2.2.2.2.2.2 (by unfold R64; omega) (by omega)
          have m0 : w7.cell? ⟨M, 0, none⟩ = some (.string (tx x.nm)) := by rw [cell_of H7.out.2.2]; rfl
          have hebN : eb ≠ N := by
            intro e
            obtain ⟨es, clock, hb⟩ := hck.e.block
            have := H7.out.1
            unfold Vr at this
            rw [e, this] at hb
            cases hb
          have hebw : w.heap.size ≤ eb := HE0.out
          have H8 : Hid (Cs l w w8 N eb (x.nm :: earl) (j + 1)) := by
            refine ⟨?_, bl_grown H7.out.2.1 hg8 (fun k hk => by injection hk with hk; omega), hn8', HB.out.eq.trans (HO.out.2 _ hcB)⟩
            have hv := H7.out.1
            have hl := H7.out.1.lt
            unfold Vr at hv ⊢
            rw [hg8.block N hl (fun e => by injection e with e; exact hebN e.symm)]
            exact hv
          clear hcB hck hn8' hg8 hb7 hx7 k2' hebN hebw
          go_wp2
          go_roundw
          case rel => exact ⟨j + 1, x.nm :: earl, by omega, by go_num, H8.out⟩
          case measure => simp [intOf]; omega
    · obtain rfl : n = j := by omega
      have HQ : Hid (q = none) := by
        show q = none
        rw [H0.out.2.2.2.2.2]
        refine HB.out.eq.trans ?_
        rw [H0.out.2.2.2.1, List.drop_length]
        rfl
      have d1 := HB.out.v.cell
      have e1 := HB.out.v.frozen
      have hNs := HB.out.v.lt
      go_wp2
      have hv9 : Vr (wr.setCell ⟨N, 0, none⟩ .nilIface) N .nilIface 30 := HB.out.v.set _
      have hb9 : Bl w (wr.setCell ⟨N, 0, none⟩ .nilIface) := HB.out.bl.setCell (by show w.heap.size ≤ N; have := H0.out.2.2.2.2.1; omega) _
      generalize wr.setCell ⟨N, 0, none⟩ .nilIface = w9 at hv9 hb9 ⊢
      refine leaves_cons (f := 42) (args := #[.pointer (some ⟨N, 0, none⟩)]) (by simp) (by simp [go_sem]) ?_
      refine (ycatch_idle _ _).mono ?_
      rintro e u' wz ⟨rfl, rfl, hbz⟩
      have c1' := (hv9.step hbz).cell
      have hfin := CkA.of_ok HQ.out (hb9.trans hbz)
      simp [Leaves, settle, results, Tryz.results17, go_sem, c1']
      exact hfin
end Go.Proofs.YtpanodaecjlgaaaGreatDoor.tm
/- The document's checker of templates: which. -/
namespace Go.Proofs.YtpanodaecjlgaaaGreatDoor.tc
set_option linter.unusedVariables false
open Go.ChangeShapes Go.WideShapes Go.ChangeAt Go.RowKit Go.Shelf
open mem lx ex tm

/-- None of the first ones is called so. -/
theorem nmd_no {ds : List D} {t : List UInt8} (h : ∀ d ∈ ds, d.nm ≠ t) : nmd ds t = none := by
  unfold nmd
  rw [List.findIdx?_eq_none_iff]
  intro d hd
  rw [beq_eq_false_iff_ne]
  exact h d hd
theorem nmd_yes {ds : List D} {t : List UInt8} {j : Nat} {d : D} (h : ds[j]? = some d) (hd : d.nm = t) (hn : ∀ k e, k < j → ds[k]? = some e → e.nm ≠ t) : nmd ds t = some j := by
  unfold nmd
  obtain ⟨hj, he⟩ := List.getElem?_eq_some_iff.1 h
  rw [List.findIdx?_eq_some_iff_getElem]
  refine ⟨hj, by rw [he, beq_iff_eq]; exact hd, fun k hk => ?_⟩
  have := hn k (ds[k]'(by omega)) hk (List.getElem?_eq_getElem _)
  simpa using this
set_option maxRecDepth 10000 in
set_option maxHeartbeats 2000000 in
theorem which_at (t : List UInt8) (cs : List C) (ok : Nat → Prop) (p : Option Addr) (n c : Nat) (w : World) (hin : ir.Lie w ok p n c cs) (hn : n ≤ 3000) (ht : t ≠ []) (hw : ∀ x ∈ cs, x.d.kd = 4 → x.d.nm = []) :
    Calls Tryz.prog 71 #[.slice p n c, .string (tx t)] w fun e w' => e = .returned (.int .i64 (idx (nmd (cs.map C.d) t))) ∧ Bl w w' := by
  have hnl : n = cs.length := hin.1
  have H0 : Hid (ir.Lie w ok p n c cs ∧ n = cs.length ∧ ∀ x ∈ cs, x.d.kd = 4 → x.d.nm = []) := ⟨hin, hnl, hw⟩
  have htl := tl_tx t
  obtain ⟨S, hS⟩ : ∃ S, S = tx t := ⟨_, rfl⟩
  rw [← hS] at htl ⊢
  clear hin hnl hw hS
  go_enter Tryz.func71, Tryz.ntmps71
  go_wp2
  go_loopw [9] (fun i wr => ∃ j : Nat, j ≤ n ∧ i = .int .i64 (j : Int) ∧ Hid (Bl w wr ∧ ∀ k e, k < j → (cs.map C.d)[k]? = some e → e.nm ≠ t)) (fun i _ => n - (intOf i).toNat)
  case atStart => exact ⟨0, by omega, rfl, Bl.refl _, fun k e hk => by omega⟩
  case round =>
    obtain ⟨j, hj, rfl, HB⟩ := hrel
    by_cases hjn : j < n
    · have d1 : decide ((j : Int) < (n : Int)) = true := decide_eq_true (by omega)
      have i0 : (0 : Int) ≤ (j : Int) := by omega
      have i1 : (j : Int) < (n : Int) := by omega
      obtain ⟨x, e1⟩ : ∃ x, cs[j]? = some x := ⟨_, List.getElem?_eq_getElem (by have := H0.out.2.1; omega)⟩
      obtain ⟨X, rfl, _, g0', g⟩ := lie_at (lie_bl H0.out.1 HB.out.1) j x e1
      have g0 : wr.cell? (X.add (j * 13)) = some (.int .i64 (x.d.kd : Int)) := g0'
      clear g0'
      have g1 := g 1 _ rfl
      have g2 := g 2 _ rfl
      have g3 := g 3 _ rfl
      have g4 := g 4 _ rfl
      have g5 := g 5 _ rfl
      have g6 := g 6 _ rfl
      have g7 := g 7 _ rfl
      have g8 := g 8 _ rfl
      have g9 := g 9 _ rfl
      have g10 := g 10 _ rfl
      have g11 := g 11 _ rfl
      have g12 := g 12 _ rfl
      have HX : Hid ((cs.map C.d)[j]? = some x.d ∧ (x.d.kd = 4 → x.d.nm = [])) := ⟨by rw [List.getElem?_map, e1]; rfl, H0.out.2.2 x (List.mem_of_getElem? e1)⟩
      obtain ⟨w3, hw3⟩ : ∃ w3, w3 = wr.alloc (.cells (cl x).toArray 75) := ⟨_, rfl⟩
      obtain ⟨M, hM⟩ : ∃ M, M = wr.heap.size := ⟨_, rfl⟩
      have hv3 : Iv w3 M x := ⟨by rw [hw3, hM]; exact new_at _ _⟩
      have HB3 : Hid (Bl w w3) := HB.out.1.trans (by rw [hw3]; exact (Bl.refl _).alloc _)
      clear g e1
      go_upto_region 4 with fail
      change Code.wp _ _ _ _ (wr.alloc (.cells (cl x).toArray 75))
      rw [← hw3, ← hM]
      clear hw3 hM g0 g1 g2 g3 g4 g5 g6 g7 g8 g9 g10 g11 g12
      have x0 : w3.cell? ⟨M, 0, none⟩ = some (.int .i64 (x.d.kd : Int)) := hv3.cell 0
      have x2 : w3.cell? ⟨M, 2, none⟩ = some (.string (tx x.d.nm)) := hv3.cell 2
      have htl2 := tl_tx x.d.nm
      obtain ⟨S2, hS2⟩ : ∃ S2, S2 = tx x.d.nm := ⟨_, rfl⟩
      rw [← hS2] at x2 htl2
      clear hv3 hS2
      by_cases h4 : x.d.kd = 4
      · have k4 : ((x.d.kd : Int) != 4) = false := by rw [bne_eq_false_iff_eq]; omega
        have HN : Hid (x.d.nm ≠ t) := by show x.d.nm ≠ t; rw [HX.out.2 h4]; exact fun e => ht e.symm
        clear htl htl2 h4
        go_wp2
        go_roundw
        case rel =>
          refine ⟨j + 1, by omega, by go_num, HB3.out, fun k e hk he => ?_⟩
          rcases Nat.lt_or_ge k j with h | h
          · exact HB.out.2 k e h he
          · obtain rfl : k = j := by omega
            rw [HX.out.1] at he
            injection he with he
            rw [← he]; exact HN.out
        case measure => simp [intOf]; omega
      · have k4 : ((x.d.kd : Int) != 4) = true := by rw [bne_iff_ne]; omega
        by_cases hnm : x.d.nm = t
        · have hq : (S2.toList == S.toList) = true := by rw [htl2, htl, hnm, beq_self_eq_true]
          have HN : Hid (nmd (cs.map C.d) t = some j) := nmd_yes HX.out.1 hnm HB.out.2
          clear htl htl2 h4 hnm
          go_wp2
          go_ret
          rw [HN.out]
          exact ⟨rfl, HB3.out⟩
        · have hq : (S2.toList == S.toList) = false := by rw [htl2, htl, beq_eq_false_iff_ne]; exact hnm
          have HN : Hid (x.d.nm ≠ t) := hnm
          clear htl htl2 h4 hnm
          go_wp2
          go_roundw
          case rel =>
            refine ⟨j + 1, by omega, by go_num, HB3.out, fun k e hk he => ?_⟩
            rcases Nat.lt_or_ge k j with h | h
            · exact HB.out.2 k e h he
            · obtain rfl : k = j := by omega
              rw [HX.out.1] at he
              injection he with he
              rw [← he]; exact HN.out
          case measure => simp [intOf]; omega
    · have d1 : decide ((j : Int) < (n : Int)) = false := decide_eq_false (by omega)
      have HN : Hid (nmd (cs.map C.d) t = none) := by
        refine nmd_no (fun d hd => ?_)
        obtain ⟨k, hk⟩ := List.mem_iff_getElem?.1 hd
        have h1 := (List.getElem?_eq_some_iff.1 hk).1
        rw [List.length_map] at h1
        exact HB.out.2 k d (by have := H0.out.2.1; omega) hk
      go_wp2
      go_ret
      rw [HN.out]
      exact ⟨rfl, HB.out.1⟩
end Go.Proofs.YtpanodaecjlgaaaGreatDoor.tc
/- The document's checker of templates: covers. -/
namespace Go.Proofs.YtpanodaecjlgaaaGreatDoor.tc
set_option linter.unusedVariables false
open Go.ChangeShapes Go.WideShapes Go.ChangeAt Go.RowKit Go.Shelf
open mem lx ex tm

/-- A row on which the document's checker may look: names of rules are names; what has others has no name. -/
structure Okr (cs : List C) : Prop where
  nm : ∀ x ∈ cs, x.d.kd = 4 → x.d.nm = []
  ru : ∀ x ∈ cs, x.d.ru = 3 → x.d.f1 ≠ [] ∧ x.d.l1 ≠ []
set_option maxRecDepth 10000 in
set_option maxHeartbeats 4000000 in
theorem covers_at (x : C) (i : Nat) (cs : List C) (ok : Nat → Prop) (p : Option Addr) (n c : Nat) (w : World) (hin : ir.Lie w ok p n c cs) (hn : n ≤ 3000) (hx : cs[i]? = some x) (hO : Okr cs) (hr3 : x.d.ru = 3) :
    Calls Tryz.prog 100 #[.slice p n c, .int .i64 (i : Int)] w fun e w' => ∃ v, e = .returned v ∧ Bl w w' ∧ ri.Own w' w.heap.size v (ints (under (cs.map C.d) i)) := by
  have hil := (List.getElem?_eq_some_iff.1 hx).1
  have hnc := hin.1
  have hncap := hin.2.1
  obtain ⟨X, rfl, _, g0', g⟩ := lie_at hin i x hx
  have g10 := g 10 _ rfl
  have g11' : ∀ wx, Bl w wx → wx.cell? ⟨(X.add (i * 13)).block, (X.add (i * 13)).off + 11, none⟩ = some (.string (tx x.d.l1)) := fun wx hb => at_bl hb (g 11 _ rfl)
  clear g g0'
  have i0 : (0 : Int) ≤ (i : Int) := by omega
  have i1 : (i : Int) < (n : Int) := by omega
  obtain ⟨f1n, l1n⟩ := hO.ru x (List.mem_of_getElem? hx) hr3
  have cE := fun wx (hb : Bl w wx) => which_at x.d.f1 cs ok (some X) n c wx (lie_bl hin hb) hn f1n hO.nm
  have cL := fun wx (hb : Bl w wx) => which_at x.d.l1 cs ok (some X) n c wx (lie_bl hin hb) hn l1n hO.nm
  obtain ⟨o1, o2, o3⟩ := under_is (cs.map C.d) i x.d (by rw [List.getElem?_map, hx]; rfl)
  have hends : ends (cs.map C.d) x.d = (nmd (cs.map C.d) x.d.f1, nmd (cs.map C.d) x.d.l1) := by unfold ends; rw [if_pos hr3]
  rw [hends] at o1 o2 o3
  obtain ⟨U, hU⟩ : ∃ U, U = under (cs.map C.d) i := ⟨_, rfl⟩
  rw [← hU] at o1 o2 o3 ⊢
  obtain ⟨ea, hea⟩ : ∃ ea, ea = nmd (cs.map C.d) x.d.f1 := ⟨_, rfl⟩
  obtain ⟨eb, heb⟩ : ∃ eb, eb = nmd (cs.map C.d) x.d.l1 := ⟨_, rfl⟩
  rw [← hea] at cE o1 o2 o3
  rw [← heb] at cL o1 o2 o3
  have HI : Hid (ir.Lie w ok (some X) n c cs ∧ n = cs.length ∧ (ea, eb) = ends (cs.map C.d) x.d) := ⟨hin, hnc, by rw [hends, hea, heb]⟩
  obtain ⟨F1, hF1⟩ : ∃ F1, F1 = tx x.d.f1 := ⟨_, rfl⟩
  obtain ⟨L1, hL1⟩ : ∃ L1, L1 = tx x.d.l1 := ⟨_, rfl⟩
  rw [← hF1] at g10 cE
  rw [← hL1] at g11' cL
  have HG : Hid (∀ wx, Bl w wx → wx.cell? ⟨(X.add (i * 13)).block, (X.add (i * 13)).off + 11, none⟩ = some (.string L1)) := g11'
  clear hin hnc hx hea heb hU hends hO hr3 f1n l1n hF1 hL1 g11'
  go_enter Tryz.func100, Tryz.ntmps100
  go_wp2_with fail
  refine (cE _ (Bl.refl _)).mono ?_
  rintro e w2 ⟨rfl, hb2⟩
  have H2 : Hid (Bl w w2) := hb2
  clear cE hb2 g10
  cases ea with
  | none =>
    have hi : idx (none : Option Nat) = -1 := rfl
    have HU : Hid (U = []) := o2 _ rfl
    rw [hi]
    clear o1 o2 o3 hi cL
    go_wp2
    go_loopw [5, 6] (fun v kv wr => v = .slice none 0 0 ∧ kv = .int .i64 (-1) ∧ Hid (Bl w wr)) (fun _ _ _ => 0)
    case atStart => exact ⟨rfl, rfl, H2.out⟩
    case round =>
      obtain ⟨rfl, rfl, HB⟩ := hrel
      go_wp2
      go_ret
      exact ⟨.slice none 0 0, rfl, HB.out, by rw [HU.out]; exact ri.Own.nil _ _⟩
  | some a =>
    have hi2 : idx (some a) = (a : Int) := rfl
    rw [hi2]
    obtain ⟨b1, hb1, hUb, hbn⟩ : ∃ b1 : Nat, idx eb = (b1 : Int) - 1 ∧ U = pf (cs.map C.d) a b1 ∧ b1 ≤ n := by
      cases eb with
      | none => exact ⟨0, rfl, by rw [o3 _ rfl, pf_start _ _ _ (Nat.zero_le _)], Nat.zero_le _⟩
      | some b =>
        refine ⟨b + 1, ?_, o1 a b rfl, ?_⟩
        · show ((b : Nat) : Int) = _
          omega
        · have := (ends_lt HI.out.2.2.symm).2
          rw [List.length_map, ← HI.out.2.1] at this
          omega
    have HU : Hid (U = pf (cs.map C.d) a b1) := hUb
    rw [hb1] at cL
    clear o1 o2 o3 hUb hi2 hb1
    go_wp2
    go_loopw [5, 6] (fun v s8 wr => ∃ j : Nat, a ≤ j ∧ (j ≤ b1 ∨ j = a) ∧ s8 = .int .i64 (j : Int) ∧ Hid (Bl w wr ∧ ri.Own wr w.heap.size v (ints (pf (cs.map C.d) a j)))) (fun _ s8 _ => b1 - (intOf s8).toNat)
    case atStart => exact ⟨a, Nat.le_refl _, Or.inr rfl, rfl, H2.out, by rw [pf_start _ _ _ (Nat.le_refl _)]; exact ri.Own.nil _ _⟩
    case round =>
      obtain ⟨j, hj1, hj2, rfl, HB⟩ := hrel
      have hb64 : (b1 : Int) - 1 < 9223372036854775808 := by omega
      have j0 : (0 : Int) ≤ (j : Int) := by omega
      have x11 := HG.out wr HB.out.1
      go_wp2_with fail
      refine (cL _ HB.out.1).mono ?_
      rintro e w4 ⟨rfl, hb4⟩
      have H4 : Hid (Bl w w4 ∧ ri.Own w4 w.heap.size u5 (ints (pf (cs.map C.d) a j))) := ⟨HB.out.1.trans hb4, HB.out.2.step hb4⟩
      clear hb4 x11
      by_cases hjb : j < b1
      · have d1 : decide ((j : Int) ≤ (b1 : Int) - 1) = true := decide_eq_true (by omega)
        have d1' : (j : Int) ≤ (b1 : Int) - 1 := by omega
        have j1 : (j : Int) < (n : Int) := by omega
        obtain ⟨y, hy⟩ : ∃ y, cs[j]? = some y := ⟨_, List.getElem?_eq_getElem (by have := HI.out.2.1; omega)⟩
        obtain ⟨Y, hY, _, _, gy⟩ := lie_at (lie_bl HI.out.1 H4.out.1) j y hy
        injection hY with hY
        subst hY
        have y9 := gy 9 _ rfl
        have hisC : isC (cs.map C.d) j = (y.d.ru == 3) := by
          unfold isC
          rw [List.getElem?_map, hy]
          rfl
        clear gy
        by_cases r3 : y.d.ru = 3
        · rw [r3] at y9
          obtain ⟨M, hM⟩ : ∃ M, M = w4.heap.size := ⟨_, rfl⟩
          obtain ⟨w7, hw7⟩ : ∃ w7, w7 = w4.alloc (.cells #[.int .i64 (j : Int)] 3) := ⟨_, rfl⟩
          have hb7 : Bl w4 w7 := by rw [hw7]; exact (Bl.refl _).alloc _
          have c7 : w7.cell? ⟨M, 0, none⟩ = some (.int .i64 (j : Int)) := by rw [hw7, hM, cell_of (new_at _ _)]; rfl
          obtain ⟨v', w8, hr8, ho8, hg8, _⟩ := ri.app_one w7 w.heap.size u5 _ (j : Int) M (H4.out.2.step hb7) c7 (by rw [ints_len]; have := pf_len (cs.map C.d) a j; omega) (Nat.le_trans H4.out.1.size hb7.size)
          have hb8 : Bl w w8 := bl_grown (H4.out.1.trans hb7) hg8 (fun k hk => (H4.out.2.block k hk).1)
          have HR : Hid _ := hr8
          have H8 : Hid (Bl w w8 ∧ ri.Own w8 w.heap.size v' (ints (pf (cs.map C.d) a (j + 1)))) := by
            refine ⟨hb8, ?_⟩
            rw [pf_step _ _ _ hj1, hisC, r3]
            rw [show (if ((3 : Nat) == 3) = true then [j] else []) = [j] from rfl, ints_app]
            exact ho8
          clear c7 hr8 ho8 hg8 hb8 hb7 hy hisC
          go_upto_region 6 with fail
          go_wp2_with (at_builtin; rw [← hw7, ← hM]; refine Lib.wpList_append_run _ rfl (.tmp 35) (.tmp 37) _ _ rfl _ _ rfl rfl _ _ HR.out ?_)
          go_roundw
          case rel => exact ⟨j + 1, by omega, Or.inl (by omega), by go_num, H8.out⟩
          case measure => simp [intOf]; omega
        · have r3' : ¬ ((y.d.ru : Int) = 3) := by omega
          have H8 : Hid (Bl w w4 ∧ ri.Own w4 w.heap.size u5 (ints (pf (cs.map C.d) a (j + 1)))) := by
            refine ⟨H4.out.1, ?_⟩
            rw [pf_step _ _ _ hj1, hisC]
            rw [show (y.d.ru == 3) = false by simpa using r3]
            rw [show (if false = true then [j] else []) = ([] : List Nat) from rfl, List.append_nil]
            exact H4.out.2
          clear hy hisC
          go_wp2
          go_roundw
          case rel => exact ⟨j + 1, by omega, Or.inl (by omega), by go_num, H8.out⟩
          case measure => simp [intOf]; omega
      · have d1 : decide ((j : Int) ≤ (b1 : Int) - 1) = false := decide_eq_false (by omega)
        have d1' : ¬ ((j : Int) ≤ (b1 : Int) - 1) := by omega
        have H9 : Hid (Bl w w4 ∧ ri.Own w4 w.heap.size u5 (ints U)) := by
          refine ⟨H4.out.1, ?_⟩
          have h := H4.out.2
          rw [HU.out]
          rcases hj2 with h2 | h2
          · obtain rfl : j = b1 := by omega
            exact h
          · subst h2
            rw [pf_start _ _ _ (Nat.le_refl _)] at h
            rw [pf_start _ _ _ (by omega)]
            exact h
        go_wp2
        go_ret
        exact ⟨_, rfl, H9.out⟩
end Go.Proofs.YtpanodaecjlgaaaGreatDoor.tc
