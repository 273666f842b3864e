/- Texts laid together: BlH, TrP, Tr1, Tr2. -/
import Derived.Test.YtpanodaecjlgaaaGreatDoorZ28
import Derived.Test.YtpanodaecjlgaaaGreatDoorZ2
import Derived.Lib.IndexMore
import Derived.Test.YtpanodaecjlgaaaGreatDoorZ27
import Derived.Test.YtpanodaecjlgaaaGreatDoorZ16
import Derived.Test.YtpanodaecjlgaaaGreatDoorZ24
import Derived.Shelf.Vars
import Derived.Shelf.Strings.Search3
/- The document's checker of templates: TypesCheck. -/
namespace Go.Proofs.YtpanodaecjlgaaaGreatDoor.tc
set_option linter.unusedVariables false
open Go.ChangeShapes Go.WideShapes Go.ChangeAt Go.RowKit Go.Shelf Go.Maps
open mem lx ex tm

/-- What TypesCheck answers. -/
def chkV (o : Option (Int × Nat)) : Value := match o with
  | some (c, p) => flt c (p : Int)
  | none => flt 0 (-1)
theorem chkT_ne0 : ∀ (l : List Ty) (earl : List (List UInt8)) (e : Int × Nat), chkT earl l = some e → e.1 ≠ 0 := by
  intro l
  induction l with
  | nil => intro earl e h; cases h
  | cons t r ih =>
    intro earl e h
    rw [chkT] at h
    split at h
    · injection h with h; rw [← h]; simp
    · split at h
      · rename_i e2 h2
        injection h with h
        rw [← h]; exact chkB_ne0 h2
      · exact ih _ _ h
/-- How far one has come. -/
structure Cz (l : List Ty) (w wr : World) (tb R : Nat) (earl : List (List UInt8)) (j : Nat) : Prop where
  bl : Bl w wr
  ts : SetB wr tb earl j
  r : Rs wr R 0 0
  eq : chkT [] l = chkT earl (l.drop j)
theorem Cz.bl' {l : List Ty} {w wr w' : World} {tb R : Nat} {earl : List (List UInt8)} {j : Nat} (h : Cz l w wr tb R earl j) (hb : Bl wr w') : Cz l w w' tb R earl j := ⟨h.bl.trans hb, h.ts.bl hb, h.r.bl hb, h.eq⟩
set_option maxRecDepth 10000 in
set_option maxHeartbeats 8000000 in
theorem TypesCheck_at (l : List Ty) (v : Value) (w : World) (ok : Nat → Prop) (h : IsTs w ok v l) (hw : WT l) (hz : ∀ t ∈ l, zI t.l ≤ 4000) :
    Calls Tryz.prog 19 #[v] w fun e w' => e = .returned (chkV (chk l)) ∧ Bl w w' := by
  have hmm : ∀ w, (Instr.makeMap 94 none).run Tryz.prog w = .ok (.map (some w.heap.size)) (w.alloc (.map #[] 0)) := fun w => by kernel_rfl
  obtain ⟨p, c, cs, rfl, h1, h2⟩ := h
  have h1 := h1.mono (ok' := fun g => g < w.heap.size) (fun g _ hg => hg)
  have h2 := h2.mono (ok' := fun g => g < w.heap.size) (fun g _ hg => hg)
  obtain ⟨n, hn⟩ : ∃ n, n = l.length := ⟨_, rfl⟩
  have hn8 : n ≤ 8 := by rw [hn]; exact hw.1
  obtain ⟨w1, hw1⟩ : ∃ w1, w1 = w.alloc (.cells #[.int .i64 0, .int .i64 0] 26) := ⟨_, rfl⟩
  obtain ⟨R, hR⟩ : ∃ R, R = w.heap.size := ⟨_, rfl⟩
  have hr1 : Rs w1 R 0 0 := by rw [hw1, hR]; exact Rs.new w 0 0
  have hb1 : Bl w w1 := by rw [hw1]; exact (Bl.refl _).alloc _
  obtain ⟨tb, htb⟩ : ∃ tb, tb = w1.heap.size := ⟨_, rfl⟩
  obtain ⟨w2, hw2⟩ : ∃ w2, w2 = w1.alloc (.map #[] 0) := ⟨_, rfl⟩
  have hb2 : Bl w1 w2 := by rw [hw2]; exact (Bl.refl _).alloc _
  have hs2 : SetB w2 tb [] 0 := by rw [hw2, htb]; exact SetB.made w1
  obtain ⟨q, hq⟩ : ∃ q, q = chk l := ⟨_, rfl⟩
  rw [← hq, ← hn]
  have H0 : Hid (sr.Lie w (fun g => g < w.heap.size) p l.length c cs ∧ RepT w (fun g => g < w.heap.size) l cs ∧ (WT l ∧ ∀ t ∈ l, zI t.l ≤ 4000) ∧ n = l.length ∧ q = chk l ∧ w.heap.size ≤ R) := ⟨h1, h2, ⟨hw, hz⟩, hn, hq, by rw [hR]; exact Nat.le_refl _⟩
  have HE0 : Hid (w.heap.size ≤ tb) := by show w.heap.size ≤ tb; rw [htb]; exact hb1.size
  have H2 : Hid (Cz l w w2 tb R [] 0) := ⟨hb1.trans hb2, hs2, hr1.bl hb2, rfl⟩
  clear h1 h2 hn hw hz hr1 hb1 hb2 hs2 hq
  go_enter Tryz.func19, Tryz.ntmps19
  go_upto_region 1 with fail
  rw [← hw1, ← hR]
  clear hw1 hR
  go_upto_region 3 with fail
  rw [← htb, ← hw2]
  clear hw2 htb
  go_loopw [10] (fun i wr => ∃ (j : Nat) (earl : List (List UInt8)), j ≤ n ∧ i = .int .i64 (j : Int) ∧ Hid (Cz l w wr tb R earl j)) (fun i _ => n - (intOf i).toNat)
  case atStart => exact ⟨0, [], by omega, rfl, H2.out⟩
  case round =>
    clear H2
    obtain ⟨j, earl, hj, rfl, HB⟩ := hrel
    by_cases hjn : j < n
    · obtain ⟨x, t, e1, e2, e3, e4, cs2, e5, e6⟩ := H0.out.2.1.at j (by rw [← H0.out.2.2.2.1]; exact hjn)
      obtain ⟨X, hX, _, g0', g⟩ := lieT_at (lieT_low H0.out.1 HB.out.bl) j x e1
      subst hX
      have g0 : wr.cell? (X.add (j * 3)) = some (.string (tx x.nm)) := g0'
      clear g0'
      have g1 := g 1 _ rfl
      have g2 := g 2 _ rfl
      have d1 : decide ((j : Int) < (n : Int)) = true := decide_eq_true (by omega)
      have i0 : (0 : Int) ≤ (j : Int) := by omega
      have i1 : (j : Int) < (n : Int) := by omega
      obtain ⟨w3, hw3⟩ : ∃ w3, w3 = wr.alloc (.cells (clT x).toArray 36) := ⟨_, rfl⟩
      obtain ⟨M, hM⟩ : ∃ M, M = wr.heap.size := ⟨_, rfl⟩
      have hv3 : w3.heap[M]? = some (.cells (clT x).toArray 36 (0, 0)) := by rw [hw3, hM]; exact new_at _ _
      have hbl3 : Bl wr w3 := by rw [hw3]; exact (Bl.refl _).alloc _
      have C3 := HB.out.bl' hbl3
      obtain ⟨hnm, hit, hwi⟩ := H0.out.2.2.1.1.2 t (List.mem_of_getElem? e2)
      have hzt := H0.out.2.2.1.2 t (List.mem_of_getElem? e2)
      have hnl : x.nm.length ≤ 5000 := by rw [e3]; have := hnm.2.2.1; omega
      have hlk := C3.ts.look x.nm hnl
      obtain ⟨o1, o2⟩ := chkT_step earl l j t e2
      rw [← e3] at o1 o2
      have hMs : M < w3.heap.size := lt_of_heap hv3
      have k0 : w3.cell? ⟨M, 0, none⟩ = some (.string (tx x.nm)) := by rw [cell_of hv3]; rfl
      have k1 : w3.cell? ⟨M, 1, none⟩ = some (.int .i64 (x.a : Int)) := by rw [cell_of hv3]; rfl
      have k2 : w3.cell? ⟨M, 2, none⟩ = some (.slice x.p x.n x.c) := by rw [cell_of hv3]; rfl
      have HX : Hid (Cz l w w3 tb R earl j ∧ w3.heap[M]? = some (.cells (clT x).toArray 36 (0, 0)) ∧ x.a = t.at_ ∧ ir.Lie w (fun g => g < w.heap.size) x.p x.n x.c cs2 ∧ Rep w (fun g => g < w.heap.size) t.l cs2 ∧ t.l.len ≤ 16 ∧ WI 7 t.l ∧ zI t.l ≤ 4000 ∧ x.nm.length ≤ 5000) := ⟨C3, hv3, e4, e5, e6, hit, hwi, hzt, hnl⟩
      clear g e1 e2 e3 e4 e5 e6 C3 hv3 hbl3 hnm hit hwi hzt hnl
      go_upto_region 5 with fail
      change Code.wp _ _ _ _ (wr.alloc (.cells (clT x).toArray 36))
      rw [← hw3, ← hM]
      clear hw3 hM g0 g1 g2
      by_cases hin : x.nm ∈ earl
      · rw [decide_eq_true hin] at hlk
        have hQ : q = some (9, x.a) := by rw [H0.out.2.2.2.2.1, HX.out.2.2.1]; exact HB.out.eq.trans (o1 hin)
        clear o1 o2 hin
        have r0 := (HX.out.1.r).c0
        have r1 := (HX.out.1.r).c1
        have y0 := (HX.out.1.r).z0 0
        have y1 := (HX.out.1.r).z0 1
        have hRs := (HX.out.1.r).lt
        have HFIN : Hid (_ ∧ _ ∧ _) := ⟨HX.out.1.r, HX.out.1.bl, hQ⟩
        clear hQ
        go_wp2
        exact bodyPost_ret (v := flt 9 (x.a : Int)) (results_cell_row rfl _ _ R 26 #[.int .i64 9, .int .i64 (x.a : Int)] (0, 0) _ rfl (HFIN.out.1.set _ _) Tryz.underlying26 rfl infoF) rfl ⟨by rw [HFIN.out.2.2]; rfl, (HFIN.out.2.1.setCell H0.out.2.2.2.2.2 _).setCell H0.out.2.2.2.2.2 _⟩
      · rw [decide_eq_false hin] at hlk
        obtain ⟨o3, o4⟩ := o2 hin
        have HO : Hid ((∀ e, chkB earl t.l [] [] = .error e → chkT earl (l.drop j) = some e) ∧ ∀ n, chkB earl t.l [] [] = .ok n → chkT earl (l.drop j) = chkT (x.nm :: earl) (l.drop (j + 1))) := ⟨o3, o4⟩
        obtain ⟨nb, hnb⟩ : ∃ nb, nb = w3.heap.size := ⟨_, rfl⟩
        obtain ⟨w4, hw4⟩ : ∃ w4, w4 = w3.alloc (.map #[] 0) := ⟨_, rfl⟩
        have hb4 : Bl w3 w4 := by rw [hw4]; exact (Bl.refl _).alloc _
        have sB : SetB w4 nb [] 0 := by rw [hw4, hnb]; exact SetB.made w3
        have htl := HX.out.1.ts.lt
        have hbw4 : Bl w w4 := HX.out.1.bl.trans hb4
        have hwn : w.heap.size ≤ nb := by rw [hnb]; exact HX.out.1.bl.size
        have hen : x.n = t.l.len := by rw [HX.out.2.2.2.1.1]; exact HX.out.2.2.2.2.1.len.1
        have htot := tot_le t.l
        have cR := block_ra 7 t.l w.heap.size tb nb earl [] [] j 0 x.n x.p x.c none 0 cs2 w4 ⟨HX.out.2.2.2.2.2.2.1, HX.out.2.2.2.2.2.1, HX.out.2.2.2.2.2.2.2.1, HX.out.1.ts.bl hb4, sB, Or.inl ⟨rfl, rfl⟩, Nat.le_refl _, hwn, hbw4.size, by omega, by have := HX.out.2.2.2.2.2.2.2.1; omega, by have := HX.out.2.2.2.2.2.2.2.1; simp; omega,
          lie_low HX.out.2.2.2.1 hbw4, HX.out.2.2.2.2.1.low hbw4 (Kx.bl hbw4), hen⟩
        have H4 : Hid (Bl w w4 ∧ Bl w3 w4 ∧ w.heap.size ≤ nb ∧ M < nb ∧ tb ≠ nb ∧ SetB w4 nb [] 0) := ⟨hbw4, hb4, hwn, by omega, by omega, sB⟩
        clear o1 o2 o3 o4 hin hb4 sB htl hbw4 hwn hen htot k1
        go_wp2_with fail
        rw [← hnb, ← hw4]
        clear hnb hw4 hlk k0 k2
        refine cR.mono ?_
        rintro e w7 ⟨hg7, hans⟩
        clear cR
        have H7 : Hid (Bl w w7 ∧ SetB w7 tb earl j ∧ Rs w7 R 0 0 ∧ w7.heap[M]? = some (.cells (clT x).toArray 36 (0, 0))) :=
          ⟨Gp.below H4.out.1 hg7 H4.out.2.2.1, (HX.out.1.ts.bl H4.out.2.1).gp hg7 H4.out.2.2.2.2.1, (HX.out.1.r.bl H4.out.2.1).gp hg7 H4.out.2.2.2.2.2, by
            rw [hg7.block M (Nat.lt_of_lt_of_le hMs H4.out.2.1.size) (by have := H4.out.2.2.2.1; omega), Below.block H4.out.2.1 M hMs]
            exact HX.out.2.1⟩
        cases hcB : chkB earl t.l [] [] with
        | error cp =>
          obtain ⟨cc, pp⟩ := cp
          have hne := chkB_ne0 hcB
          rw [hcB] at hans
          obtain rfl := hans
          have cI := Is_at cc (pp : Int)
          have hc0 : (cc == 0) = false := by rw [beq_eq_false_iff_ne]; exact hne
          unfold flt
          go_wp2_with fail
          refine (cI _).mono ?_
          rintro e w9 ⟨rfl, hb9⟩
          obtain ⟨c0, c1, hb89, hs9⟩ := fl_cl hb9
          have hQ : q = some (cc, pp) := by rw [H0.out.2.2.2.2.1]; exact HB.out.eq.trans (HO.out.1 _ hcB)
          have r0 := ((H7.out.2.2.1.bl hb89)).c0
          have r1 := ((H7.out.2.2.1.bl hb89)).c1
          have y0 := ((H7.out.2.2.1.bl hb89)).z0 0
          have y1 := ((H7.out.2.2.1.bl hb89)).z0 1
          have hRs := ((H7.out.2.2.1.bl hb89)).lt
          have HFIN : Hid (_ ∧ _ ∧ _) := ⟨(H7.out.2.2.1.bl hb89), (H7.out.1.trans hb89), hQ⟩
          clear hQ hb9 hb89 cI hg7 hcB hne
          go_wp2
          exact bodyPost_ret (v := flt cc (pp : Int)) (results_cell_row rfl _ _ R 26 #[.int .i64 cc, .int .i64 (pp : Int)] (0, 0) _ rfl (HFIN.out.1.set _ _) Tryz.underlying26 rfl infoF) rfl ⟨by rw [HFIN.out.2.2]; rfl, (HFIN.out.2.1.setCell H0.out.2.2.2.2.2 _).setCell H0.out.2.2.2.2.2 _⟩
        | ok n2 =>
          rw [hcB] at hans
          obtain ⟨rfl, _⟩ := hans
          have cI := Is_at 0 (-1)
          unfold flt
          go_wp2_with fail
          refine (cI _).mono ?_
          rintro e w9 ⟨rfl, hb9⟩
          obtain ⟨c0, c1, hb89, hs9⟩ := fl_cl hb9
          obtain ⟨w8, hr8, hn8', hg8⟩ := (H7.out.2.1.bl hb89).put x.nm HX.out.2.2.2.2.2.2.2.2 (by omega)
          have hM9 : w9.heap[M]? = some (.cells (clT x).toArray 36 (0, 0)) := (Below.block hb89 M (lt_of_heap H7.out.2.2.2)).trans H7.out.2.2.2
          have m0 : w9.cell? ⟨M, 0, none⟩ = some (.string (tx x.nm)) := by rw [cell_of hM9]; rfl
          have hMs9 := lt_of_heap hM9
          have H8 : Hid (Cz l w w8 tb R (x.nm :: earl) (j + 1)) :=
            ⟨bl_grown (H7.out.1.trans hb89) hg8 (fun k hk => by injection hk with hk; have := HE0.out; omega), hn8', (H7.out.2.2.1.bl hb89).gp (grown_gp hg8) (H7.out.2.1.bl hb89), HB.out.eq.trans (HO.out.2 _ hcB)⟩
          clear hcB hn8' hg8 hb9 hb89 cI hg7 hM9
          go_wp2
          go_roundw
          case rel => exact ⟨j + 1, x.nm :: earl, by omega, by go_num, H8.out⟩
          case measure => simp [intOf]; omega
    · obtain rfl : n = j := by omega
      have hQ : q = none := by
        rw [H0.out.2.2.2.2.1]
        refine HB.out.eq.trans ?_
        rw [H0.out.2.2.2.1, List.drop_length]
        rfl
      go_wp2_with fail
      refine (Good_at _).mono ?_
      rintro e w9 ⟨rfl, hb9⟩
      have r0 := ((HB.out.r.bl hb9)).c0
      have r1 := ((HB.out.r.bl hb9)).c1
      have y0 := ((HB.out.r.bl hb9)).z0 0
      have y1 := ((HB.out.r.bl hb9)).z0 1
      have hRs := ((HB.out.r.bl hb9)).lt
      have HFIN : Hid (_ ∧ _ ∧ _) := ⟨(HB.out.r.bl hb9), (HB.out.bl.trans hb9), hQ⟩
      clear hQ hb9
      unfold flt
      go_wp2
      exact bodyPost_ret (v := flt 0 (-1)) (results_cell_row rfl _ _ R 26 #[.int .i64 0, .int .i64 (-1)] (0, 0) _ rfl (HFIN.out.1.set _ _) Tryz.underlying26 rfl infoF) rfl ⟨by rw [HFIN.out.2.2]; rfl, (HFIN.out.2.1.setCell H0.out.2.2.2.2.2 _).setCell H0.out.2.2.2.2.2 _⟩
end Go.Proofs.YtpanodaecjlgaaaGreatDoor.tc
/- Words among words, by blanks about them (pure). -/
namespace Go.Proofs.YtpanodaecjlgaaaGreatDoor.tm
set_option linter.unusedVariables false
open lx ex

theorem occ_iff (l m : List UInt8) : Lib.contains l m = true ↔ ∃ p q, l = p ++ m ++ q := by
  unfold Lib.contains
  rw [decide_eq_true_eq]
  constructor
  · intro h
    rcases Lib.index_spec l m with ⟨h1, _⟩ | ⟨i, h1, h2, h3, _⟩
    · omega
    · have h4 : m.isPrefixOf (l.drop i) = true := h3
      rw [List.isPrefixOf_iff_prefix] at h4
      obtain ⟨q, hq⟩ := h4
      exact ⟨l.take i, q, by rw [List.append_assoc, hq, List.take_append_drop]⟩
  · rintro ⟨p, q, h⟩
    rcases Lib.index_spec l m with ⟨h1, h2⟩ | ⟨i, h1, _⟩
    · have := h2 p.length (by rw [h]; simp)
      have h4 : m.isPrefixOf (l.drop p.length) = true := by
        rw [List.isPrefixOf_iff_prefix, h, List.append_assoc, List.drop_left]
        exact ⟨q, rfl⟩
      rw [show Lib.occAt l m p.length = m.isPrefixOf (l.drop p.length) from rfl, h4] at this
      cases this
    · omega
/-- Words with blanks about them. -/
def wds (ws : List (List UInt8)) : List UInt8 := 32 :: ws.flatMap (fun w => w ++ [32])
theorem split_word {a b x y : List UInt8} (ha : (32 : UInt8) ∉ a) (hb : (32 : UInt8) ∉ b) (h : a ++ 32 :: x = b ++ 32 :: y) : a = b ∧ x = y := by
  induction a generalizing b with
  | nil =>
    cases b with
    | nil => simp at h; exact ⟨rfl, h⟩
    | cons c b => simp at h; exact absurd h.1 (fun e => hb (by rw [← e]; simp))
  | cons c a ih =>
    cases b with
    | nil => simp at h; exact absurd h.1 (fun e => ha (by rw [e]; simp))
    | cons d b =>
      simp only [List.cons_append, List.cons.injEq] at h
      obtain ⟨h1, h2⟩ := ih (fun h => ha (by simp [h])) (fun h => hb (by simp [h])) h.2
      exact ⟨by rw [h.1, h1], h2⟩
theorem split_far {a p x y : List UInt8} (ha : (32 : UInt8) ∉ a) (h : a ++ x = p ++ 32 :: y) : ∃ p', p = a ++ p' ∧ x = p' ++ 32 :: y := by
  induction a generalizing p with
  | nil => exact ⟨p, rfl, h⟩
  | cons c a ih =>
    cases p with
    | nil => simp at h; exact absurd h.1 (fun e => ha (by rw [e]; simp))
    | cons d p =>
      simp only [List.cons_append, List.cons.injEq] at h
      obtain ⟨p', h1, h2⟩ := ih (fun h => ha (by simp [h])) h.2
      exact ⟨p', by rw [h.1, h1]; rfl, h2⟩
theorem wds_has (s : List UInt8) (hs : (32 : UInt8) ∉ s) (ws : List (List UInt8)) (hw : ∀ w ∈ ws, (32 : UInt8) ∉ w) : (∃ p q, wds ws = p ++ ([32] ++ s ++ [32]) ++ q) ↔ s ∈ ws := by
  induction ws with
  | nil =>
    constructor
    · rintro ⟨p, q, h⟩
      have := congrArg List.length h
      simp [wds] at this
      omega
    · intro h; cases h
  | cons w ws ih =>
    have hw1 : (32 : UInt8) ∉ w := hw w (by simp)
    have ih := ih (fun u hu => hw u (by simp [hu]))
    have e : wds (w :: ws) = 32 :: (w ++ wds ws) := by
      unfold wds
      rw [List.flatMap_cons, List.append_assoc]
      rfl
    constructor
    · rintro ⟨p, q, h⟩
      rw [e] at h
      cases p with
      | nil =>
        simp only [List.nil_append, List.cons_append, List.append_assoc, List.cons.injEq, true_and] at h
        have h' : w ++ 32 :: (ws.flatMap fun w => w ++ [32]) = s ++ 32 :: q := h
        rw [(split_word hw1 hs h').1]
        simp
      | cons c p =>
        simp only [List.cons_append, List.nil_append, List.append_assoc, List.cons.injEq] at h
        obtain ⟨p', h1, h2⟩ := split_far hw1 h.2
        rw [List.mem_cons]
        right
        refine ih.1 ⟨p', q, ?_⟩
        rw [h2]
        simp
    · intro h
      rw [List.mem_cons] at h
      rw [e]
      rcases h with rfl | h
      · exact ⟨[], ws.flatMap (fun w => w ++ [32]), by unfold wds; simp⟩
      · obtain ⟨p, q, h⟩ := ih.2 h
        exact ⟨32 :: w ++ p, q, by rw [h]; simp⟩
theorem wds_is (s : List UInt8) (hs : (32 : UInt8) ∉ s) (ws : List (List UInt8)) (hw : ∀ w ∈ ws, (32 : UInt8) ∉ w) : Lib.contains (wds ws) ([32] ++ s ++ [32]) = decide (s ∈ ws) := by
  rw [Bool.eq_iff_iff, occ_iff, wds_has s hs ws hw, decide_eq_true_eq]
/-- The words for numbers. -/
def numK : List (List UInt8) := numW.map (·.1)
def othK : List (List UInt8) := [wStruct, wBytes, wWhen, wSize, wCount, wCheck]
theorem num_mem (t : List UInt8) : (numOf t).isSome = decide (t ∈ numK) := by
  rw [Bool.eq_iff_iff, decide_eq_true_eq]
  unfold numOf numK
  rw [Option.isSome_map, List.find?_isSome, List.mem_map]
  constructor
  · rintro ⟨p, h1, h2⟩; exact ⟨p, h1, by simpa using h2⟩
  · rintro ⟨p, h1, h2⟩; exact ⟨p, h1, by simpa using h2⟩
theorem isT_blank {t : List UInt8} (h : IsT t) : (32 : UInt8) ∉ t := by
  rcases h with ⟨_, h⟩ | ⟨c, rfl, h⟩ | rfl | rfl
  · intro hm
    exact absurd (h 32 hm) (by decide)
  · intro hm
    have : (32 : UInt8) = c := by simpa using hm
    rw [← this] at h
    revert h; decide
  · decide
  · decide
theorem num_text (t : List UInt8) (h : (32 : UInt8) ∉ t) : Lib.contains (wds numK) ([32] ++ t ++ [32]) = (numOf t).isSome := by
  rw [wds_is t h numK (by decide), num_mem]
theorem oth_text (t : List UInt8) (h : (32 : UInt8) ∉ t) : Lib.contains (wds othK) ([32] ++ t ++ [32]) = othK.contains t := by
  rw [wds_is t h othK (by decide), Bool.eq_iff_iff]
  simp
end Go.Proofs.YtpanodaecjlgaaaGreatDoor.tm
/- The document's reader of templates: eyes, whatever they have seen. -/
namespace Go.Proofs.YtpanodaecjlgaaaGreatDoor.tr
set_option linter.unusedVariables false
open Go.ChangeShapes Go.WideShapes Go.ChangeAt Go.RowKit
open mem lx ex tm

/-- The variable holds some number, whatever it is. -/
def Ml (w : World) : Prop := ∃ m : Int, w.cell? ⟨4, 0, none⟩ = some (.int .i64 m)
theorem Ml.step {w w' : World} (h : Ml w) (hb : Bl w w') : Ml w' := by
  obtain ⟨m, hm⟩ := h
  exact ⟨m, at_bl hb hm⟩
theorem ml_of {W : World} (h : W.ShapedOpen Tryz.prog) : Ml W :=
  cell_of_shapedOpen_int (P := Tryz.prog) (g := 4) (t := 3) (zero := #[.int .i64 0]) h (of_decide_eq_true (by kernel_rfl)) (by kernel_rfl) rfl (by kernel_rfl) (by kernel_rfl) Tryz.underlying3
theorem has_at (s t : ByteArray) (w : World) (hs : s.size ≤ 100000) (hm : Ml w) : Calls Tryz.prog 54 #[.string s, .string t] w fun e w' => e = .returned (.bool (Lib.contains (L s) (L t))) ∧ w' = w := by
  obtain ⟨m, hm⟩ := hm
  exact Any.strings_Contains layK.laid s t m w (by omega) hm
abbrev Sg := Except (Int × Nat) (List Tk)
/-- Eyes, whatever they have seen: the tokens that are left, or what was wrong first. -/
def Es (w : World) (P en : Nat) : Sg → Prop
  | .ok ts => Ey w P ts en 0 (-1)
  | .error (c, p) => c ≠ 0 ∧ ∃ ts, Ey w P ts en c (p : Int)
def seeT (en : Nat) : Sg → List UInt8
  | .ok ts => (hd en ts).t
  | .error _ => []
theorem Es.ey {w : World} {P en : Nat} {σ : Sg} (h : Es w P en σ) : ∃ ts c p, Ey w P ts en c p ∧ seeT en σ = see c en ts ∧ (∀ us, σ = .ok us → c = 0 ∧ p = -1 ∧ us = ts) ∧ ∀ k q, σ = .error (k, q) → c = k ∧ p = (q : Int) ∧ c ≠ 0 := by
  cases σ with
  | ok ts => exact ⟨ts, 0, -1, h, rfl, fun us hu => (by injection hu with hu; exact ⟨rfl, rfl, hu.symm⟩), fun k q hk => (by cases hk)⟩
  | error cp =>
    obtain ⟨c, p⟩ := cp
    obtain ⟨hc, ts, h⟩ := h
    exact ⟨ts, c, p, h, by unfold see; rw [if_neg hc]; rfl, fun us hu => (by cases hu), fun k q hk => (by injection hk with hk; injection hk with h1 h2; subst h1 h2; exact ⟨rfl, rfl, hc⟩)⟩
theorem Ey.keep {w w' : World} {P : Nat} {ts : List Tk} {en : Nat} {c p : Int} (h : Ey w P ts en c p) (hk : ∀ g, g ≤ P → w'.heap[g]? = w.heap[g]?) (hs : w.heap.size ≤ w'.heap.size) : Ey w' P ts en c p := by
  obtain ⟨q, k, h1, h2, h3, h4⟩ := h.ex
  refine ⟨⟨q, k, by rw [hk P (Nat.le_refl _)]; exact h1, h2, ?_, fun x hx => ⟨Nat.lt_of_lt_of_le (h4 x hx).1 hs, (h4 x hx).2⟩⟩, h.len, h.tok⟩
  rcases h3 with h3 | ⟨x, h3, h5⟩
  · exact Or.inl h3
  · refine Or.inr ⟨x, h3, fun j u hj => ?_⟩
    have h6 := h5 j u hj
    have hb : (x.add j).block = x.block := by cases j <;> rfl
    unfold World.cell? at h6 ⊢
    rw [hk _ (by rw [hb]; exact Nat.le_of_lt (h4 x h3).2)]
    exact h6
theorem Es.keep {w w' : World} {P en : Nat} {σ : Sg} (h : Es w P en σ) (hk : ∀ g, g ≤ P → w'.heap[g]? = w.heap[g]?) (hs : w.heap.size ≤ w'.heap.size) : Es w' P en σ := by
  cases σ with
  | ok ts => exact Ey.keep h hk hs
  | error cp => obtain ⟨hc, ts, h⟩ := h; exact ⟨hc, ts, Ey.keep h hk hs⟩
theorem Es.lt {w : World} {P en : Nat} {σ : Sg} (h : Es w P en σ) : P < w.heap.size := by
  obtain ⟨ts, c, p, h, _⟩ := h.ey
  exact h.lt
theorem Es.bl {w w' : World} {P en : Nat} {σ : Sg} (h : Es w P en σ) (hb : Bl w w') : Es w' P en σ :=
  h.keep (fun g hg => Below.block hb g (Nat.lt_of_le_of_lt hg h.lt)) hb.size
theorem Es.put {w : World} {P en X j : Nat} {σ : Sg} (h : Es w P en σ) (hX : P < X) (u : Value) : Es (w.setCell ⟨X, j, none⟩ u) P en σ :=
  h.keep (fun g hg => (grown_set w X j u).block g (Nat.lt_of_le_of_lt hg h.lt) (fun e => by injection e with e; omega)) (by simp [World.setCell])
theorem Es.kx {w w' : World} {P en : Nat} {σ : Sg} (h : Es w P en σ) (hg : Gp P w w') : Kx w w' := by
  obtain ⟨ts, c, p, h, _⟩ := h.ey
  exact Gp.kxE hg h
theorem Es.tok {w : World} {P en : Nat} {σ : Sg} (h : Es w P en σ) : (seeT en σ).length ≤ 3000 := by
  obtain ⟨ts, c, p, h, h2, _⟩ := h.ey
  rw [h2]
  unfold see
  split
  · cases ts with
    | nil => exact Nat.zero_le _
    | cons t r => exact (h.tok t (by simp)).2
  · exact Nat.zero_le _
theorem Es.gap {w : World} {P en : Nat} {σ : Sg} (h : Es w P en σ) : (32 : UInt8) ∉ seeT en σ := by
  obtain ⟨ts, c, p, h, h2, _⟩ := h.ey
  rw [h2]
  unfold see
  split
  · cases ts with
    | nil => exact List.not_mem_nil
    | cons t r => exact (h.tok t (by simp)).1.2
  · exact List.not_mem_nil
theorem stop_es (w : World) (P en : Nat) (σ : Sg) (h : Es w P en σ) :
    Calls Tryz.prog 25 #[.pointer (some ⟨P, 0, none⟩)] w fun e w' => e = .returned (.bool (match σ with | .ok _ => false | .error _ => true)) ∧ Bl w w' := by
  obtain ⟨ts, c, p, h, h2, h3, h4⟩ := h.ey
  have := stop_at w P ts en c p h
  cases σ with
  | ok us => rw [(h3 us rfl).1] at this; exact this
  | error cp =>
    obtain ⟨k, q⟩ := cp
    have hc := (h4 k q rfl).2.2
    have hc' : (c == 0) = false := by rw [beq_eq_false_iff_ne]; exact hc
    rw [hc'] at this; exact this
theorem text_es (w : World) (P en : Nat) (σ : Sg) (h : Es w P en σ) :
    Calls Tryz.prog 26 #[.pointer (some ⟨P, 0, none⟩)] w fun e w' => e = .returned (.string (tx (seeT en σ))) ∧ Bl w w' := by
  obtain ⟨ts, c, p, h, h2, _⟩ := h.ey
  rw [h2]
  exact text_at w P ts en c p h
theorem place_es (w : World) (P en : Nat) (σ : Sg) (h : Es w P en σ) :
    Calls Tryz.prog 28 #[.pointer (some ⟨P, 0, none⟩)] w fun e w' => (∃ a : Nat, e = .returned (.int .i64 (a : Int)) ∧ ∀ ts, σ = .ok ts → a = (hd en ts).a) ∧ w' = w := by
  obtain ⟨ts, c, p, h, _, h3, _⟩ := h.ey
  refine (place_at w P ts en c p h).mono ?_
  rintro e w' ⟨rfl, rfl⟩
  exact ⟨⟨_, rfl, fun us hu => by rw [(h3 us hu).2.2]⟩, rfl⟩
/-- What is wrong. -/
def fl (k : Int) (a : Nat) : Sg → Sg
  | .ok _ => .error (k, a)
  | .error e => .error e
theorem wrong_es (w : World) (P en : Nat) (σ : Sg) (k : Int) (a : Nat) (hk : k ≠ 0) (h : Es w P en σ) :
    Calls Tryz.prog 27 #[.pointer (some ⟨P, 0, none⟩), .int .i64 k, .int .i64 (a : Int)] w fun e w' => e = .returned (.tuple #[]) ∧ Es w' P en (fl k a σ) ∧ Gp P w w' := by
  cases σ with
  | ok ts =>
    refine (wrong_yes w P ts en (-1) k a h).mono ?_
    rintro e w' ⟨rfl, h1, h2⟩
    exact ⟨rfl, ⟨hk, ts, h1⟩, h2⟩
  | error cp =>
    obtain ⟨c, p⟩ := cp
    obtain ⟨hc, ts, hE⟩ := h
    refine (wrong_no w P ts en c p k a hE hc).mono ?_
    rintro e w' ⟨rfl, h1⟩
    exact ⟨rfl, ⟨hc, ts, hE.step h1⟩, Gp.bl h1⟩
/-- One token more. -/
def ps (en : Nat) : Sg → Sg
  | .ok [] => .error (3, en)
  | .ok (_ :: r) => .ok r
  | .error e => .error e
set_option maxRecDepth 10000 in
theorem pass_end (w : World) (P en : Nat) (h : Ey w P [] en 0 (-1)) :
    Calls Tryz.prog 55 #[.pointer (some ⟨P, 0, none⟩)] w fun e w' => e = .returned (.string ⟨#[]⟩) ∧ Ey w' P [] en 3 (en : Int) ∧ Gp P w w' := by
  have cT := text_at w P [] en 0 (-1) h
  rw [show see 0 en [] = [] from rfl] at cT
  have cP := fun wx (hb : Bl w wx) => place_at wx P [] en 0 (-1) (h.step hb)
  rw [show (hd en ([] : List Tk)).a = en from rfl] at cP
  have cW := fun wx (hb : Bl w wx) a b => wrong_yes wx P [] en (-1) a b (h.step hb)
  have hem : (tx ([] : List UInt8)).toList.isEmpty = true := by rw [tl_tx]; rfl
  clear h
  generalize tx ([] : List UInt8) = S at *
  go_enter Tryz.func55, Tryz.ntmps55
  go_wp2_with fail
  refine cT.mono ?_
  rintro e w2 ⟨rfl, hb⟩
  go_wp2_with fail
  refine (cP _ hb).mono ?_
  rintro e w3 ⟨rfl, rfl⟩
  go_wp2_with fail
  refine (cW _ hb _ _).mono ?_
  rintro e w4 ⟨rfl, hE, hg⟩
  go_wp2
  go_ret
  exact ⟨rfl, hE, (Gp.bl hb).trans hg⟩
theorem pass_es (w : World) (P en : Nat) (σ : Sg) (h : Es w P en σ) :
    Calls Tryz.prog 55 #[.pointer (some ⟨P, 0, none⟩)] w fun e w' => e = .returned (.string (tx (seeT en σ))) ∧ Es w' P en (ps en σ) ∧ Gp P w w' := by
  match σ, h with
  | .ok [], h =>
    refine (pass_end w P en h).mono ?_
    rintro e w' ⟨rfl, h1, h2⟩
    exact ⟨rfl, ⟨by decide, [], h1⟩, h2⟩
  | .ok (t :: r), h => exact pass_yes w P t r en (-1) h
  | .error (c, p), h =>
    obtain ⟨hc, ts, hE⟩ := h
    refine (pass_no w P ts en c p hE hc).mono ?_
    rintro e w' ⟨rfl, h1⟩
    exact ⟨rfl, ⟨hc, ts, hE.step h1⟩, Gp.bl h1⟩
/-- One token more, if it is this one. -/
def tk (en : Nat) (m : List UInt8) (σ : Sg) : Sg := if seeT en σ = m then ps en σ else σ
theorem take_es (w : World) (P en : Nat) (σ : Sg) (m : List UInt8) (hm : m ≠ []) (h : Es w P en σ) :
    Calls Tryz.prog 51 #[.pointer (some ⟨P, 0, none⟩), .string (tx m)] w fun e w' => e = .returned (.bool (decide (seeT en σ = m))) ∧ Es w' P en (tk en m σ) ∧ Gp P w w' := by
  by_cases hc : seeT en σ = m
  · unfold tk
    rw [if_pos hc, decide_eq_true hc]
    match σ, h, hc with
    | .ok [], h, hc => exact absurd hc.symm hm
    | .error _, h, hc => exact absurd hc.symm hm
    | .ok (t :: r), h, hc =>
      subst hc
      exact take_yes w P t r en (-1) h
  · unfold tk
    rw [if_neg hc, decide_eq_false hc]
    obtain ⟨ts, c, p, h1, h2, _⟩ := h.ey
    rw [h2] at hc
    refine (take_no w P ts en c p m h1 hc).mono ?_
    rintro e w' ⟨rfl, hb⟩
    exact ⟨rfl, h.bl hb, Gp.bl hb⟩
/-- This token. -/
def mu (en : Nat) (m : List UInt8) (σ : Sg) : Sg := match σ with | .ok ts => want en m ts | .error e => .error e
theorem must_es (w : World) (P en : Nat) (σ : Sg) (m : List UInt8) (hm : m ≠ []) (h : Es w P en σ) :
    Calls Tryz.prog 29 #[.pointer (some ⟨P, 0, none⟩), .string (tx m)] w fun e w' => e = .returned (.tuple #[]) ∧ Es w' P en (mu en m σ) ∧ Gp P w w' := by
  cases σ with
  | error cp =>
    obtain ⟨c, p⟩ := cp
    obtain ⟨hc, ts, hE⟩ := h
    refine (must_off w P ts en c p m hE hc hm).mono ?_
    rintro e w' ⟨rfl, h1⟩
    exact ⟨rfl, ⟨hc, ts, hE.step h1⟩, Gp.bl h1⟩
  | ok ts =>
    show Calls _ _ _ _ fun e w' => e = _ ∧ Es w' P en (want en m ts) ∧ _
    unfold want
    by_cases hc : (hd en ts).t = m
    · rw [if_pos hc]
      cases ts with
      | nil => exact absurd hc.symm hm
      | cons t r =>
        have hc : t.t = m := hc
        subst hc
        exact must_yes w P t r en (-1) h
    · rw [if_neg hc]
      refine (must_no w P ts en (-1) m h hc).mono ?_
      rintro e w' ⟨rfl, h1, h2⟩
      exact ⟨rfl, ⟨by decide, ts, h1⟩, h2⟩
end Go.Proofs.YtpanodaecjlgaaaGreatDoor.tr
/- The document's reader of templates: words, names, expressions. -/
namespace Go.Proofs.YtpanodaecjlgaaaGreatDoor.tr
set_option linter.unusedVariables false
open Go.ChangeShapes Go.WideShapes Go.ChangeAt Go.RowKit
open mem lx ex tm

theorem isNum_at (t : List UInt8) (w : World) (h : (32 : UInt8) ∉ t) (ht : t.length ≤ 3000) (hm : Ml w) :
    Calls Tryz.prog 53 #[.string (tx t)] w fun e w' => e = .returned (.bool (numOf t).isSome) ∧ w' = w := by
  have cC := fun s (hs : s.size ≤ 100000) => has_at s (⟨#[32]⟩ ++ tx t ++ ⟨#[32]⟩) w hs hm
  have hL : L (⟨#[32]⟩ ++ tx t ++ ⟨#[32]⟩) = [32] ++ t ++ [32] := by rw [L_app, L_app, L_tx]; rfl
  rw [hL] at cC
  have hn := num_text t h
  by_cases h0 : t = []
  · subst h0
    have hq : ((tx ([] : List UInt8)).toList == []) = true := by rw [tl_tx]; rfl
    generalize tx ([] : List UInt8) = S at *
    go_enter Tryz.func53, Tryz.ntmps53
    go_wp2
    go_ret
    exact ⟨rfl, rfl⟩
  · have hq : ((tx t).toList == []) = false := by rw [tl_tx, beq_eq_false_iff_ne]; exact h0
    have hSs : (tx t).size ≤ 3000 := by rw [tx_size]; exact ht
    generalize hN : (numOf t).isSome = B at *
    clear hL h0 hm
    generalize tx t = S at *
    go_enter Tryz.func53, Tryz.ntmps53
    go_wp2_with fail
    refine (cC _ (by decide)).mono ?_
    rintro e w2 ⟨he, rfl⟩
    have he : e = .returned (.bool B) := he.trans (congrArg (fun b => Ending.returned (.bool b)) hn)
    clear hn cC
    obtain rfl := he.symm
    go_wp2
    go_ret
    exact ⟨rfl, rfl⟩
/-- A name, whatever was seen. -/
def nmS (en : Nat) (σ : Sg) : Sg := match σ with
  | .ok ts => (match name en ts with | .ok (_, r) => .ok r | .error e => .error e)
  | .error e => .error e
theorem name_see {en : Nat} {ts r : List Tk} {t : List UInt8} (h : name en ts = .ok (t, r)) : t = (hd en ts).t := by
  unfold name at h
  split at h
  · cases h
  · split at h
    · cases h
    · injection h with h; injection h with h1 h2; exact h1.symm
theorem nm_is (en : Nat) (σ : Sg) (a : Nat) (ha : ∀ ts, σ = .ok ts → a = (hd en ts).a) :
    nmS en σ = if isN (seeT en σ) = false ∨ (numOf (seeT en σ)).isSome = true ∨ othK.contains (seeT en σ) = true then fl 3 a σ else if 12 < (seeT en σ).length then fl 4 a σ else ps en σ := by
  cases σ with
  | error e =>
    show (.error e : Sg) = _
    split
    · rfl
    · split <;> rfl
  | ok ts =>
    have ha := ha ts rfl
    subst ha
    show (match name en ts with | .ok (_, r) => (.ok r : Sg) | .error e => .error e) = _
    unfold name
    rw [show seeT en (.ok ts) = (hd en ts).t from rfl]
    have e1 : resv (hd en ts).t = (othK.contains (hd en ts).t || (numOf (hd en ts).t).isSome) := rfl
    rw [e1]
    by_cases hc : isN (hd en ts).t = false ∨ (numOf (hd en ts).t).isSome = true ∨ othK.contains (hd en ts).t = true
    · rw [if_pos hc, if_pos]
      · rfl
      · rcases hc with h | h | h
        · exact Or.inr h
        · left; rw [h]; simp
        · left; rw [h]; simp
    · rw [if_neg hc, if_neg]
      · by_cases h12 : 12 < (hd en ts).t.length
        · rw [if_pos h12, if_pos h12]; rfl
        · rw [if_neg h12, if_neg h12]
          cases ts with
          | nil => exact absurd (Or.inl rfl) hc
          | cons t r => rfl
      · rintro (h | h)
        · rw [Bool.or_eq_true] at h
          rcases h with h | h
          · exact hc (Or.inr (Or.inr h))
          · exact hc (Or.inr (Or.inl h))
        · exact hc (Or.inl h)
set_option maxRecDepth 10000 in
theorem name_es (w : World) (P en : Nat) (σ : Sg) (h : Es w P en σ) (hm : Ml w) :
    Calls Tryz.prog 30 #[.pointer (some ⟨P, 0, none⟩)] w fun e w' => e = .returned (.string (tx (seeT en σ))) ∧ Es w' P en (nmS en σ) ∧ Gp P w w' := by
  have cT := text_es w P en σ h
  have hg := h.gap
  have hl := h.tok
  have cI := IsName_at (tx (seeT en σ))
  rw [L_tx, isN_nmb] at cI
  have cN := fun wx (hb : Bl w wx) => isNum_at (seeT en σ) wx hg hl (hm.step hb)
  have hL : L (⟨#[32]⟩ ++ tx (seeT en σ) ++ ⟨#[32]⟩) = [32] ++ seeT en σ ++ [32] := by rw [L_app, L_app, L_tx]; rfl
  have cC := fun wx (hb : Bl w wx) s (hs : s.size ≤ 100000) => has_at s (⟨#[32]⟩ ++ tx (seeT en σ) ++ ⟨#[32]⟩) wx hs (hm.step hb)
  rw [hL] at cC
  have hO := oth_text (seeT en σ) hg
  have HE : Hid (Es w P en σ) := h
  have hSs : (tx (seeT en σ)).size = (seeT en σ).length := tx_size _
  have HM : Hid (∀ a : Nat, (∀ ts, σ = .ok ts → a = (hd en ts).a) → nmS en σ = if isN (seeT en σ) = false ∨ (numOf (seeT en σ)).isSome = true ∨ othK.contains (seeT en σ) = true then fl 3 a σ else if 12 < (seeT en σ).length then fl 4 a σ else ps en σ) := nm_is en σ
  clear hL hm hg h
  obtain ⟨b1, hb1⟩ : ∃ b, isN (seeT en σ) = b := ⟨_, rfl⟩
  obtain ⟨b2, hb2⟩ : ∃ b, (numOf (seeT en σ)).isSome = b := ⟨_, rfl⟩
  obtain ⟨b3, hb3⟩ : ∃ b, othK.contains (seeT en σ) = b := ⟨_, rfl⟩
  rw [hb1, hb2, hb3] at HM
  rw [hb1] at cI
  rw [hb2] at cN
  rw [hb3] at hO
  obtain ⟨n, hn⟩ : ∃ n, (seeT en σ).length = n := ⟨_, rfl⟩
  rw [hn] at hSs hl HM
  clear hb1 hb2 hb3 hn
  obtain ⟨S, hS⟩ : ∃ S, tx (seeT en σ) = S := ⟨_, rfl⟩
  rw [hS] at cT cI cN cC hSs ⊢
  clear hS
  have cW := fun wx (k : Int) (hk : k ≠ 0) (a : Nat) (hb : Bl w wx) => wrong_es wx P en σ k a hk (HE.out.bl hb)
  have cP := fun wx (hb : Bl w wx) => place_es wx P en σ (HE.out.bl hb)
  have tail : ∀ (k : Int) (a : Nat) (wx : World), Es wx P en (fl k a σ) → Calls Tryz.prog 25 #[.pointer (some ⟨P, 0, none⟩)] wx fun e w' => e = .returned (.bool true) ∧ Bl wx w' := by
    intro k a wx hx
    have := stop_es wx P en _ hx
    cases σ <;> exact this
  go_enter Tryz.func30, Tryz.ntmps30
  go_wp2_with fail
  refine cT.mono ?_
  rintro e w2 ⟨rfl, hb2⟩
  have HB : Hid (Bl w w2) := hb2
  cases b1 with
  | false =>
    have HM' : Hid (∀ a : Nat, (∀ ts, σ = .ok ts → a = (hd en ts).a) → nmS en σ = fl 3 a σ) := fun a ha => by rw [HM.out a ha, if_pos (Or.inl rfl)]
    clear cN cC hO HM cT hb2
    go_wp2_with fail
    refine (cI _).mono ?_
    rintro e w3 ⟨rfl, rfl⟩
    go_wp2_with fail
    refine (cP _ HB.out).mono ?_
    rintro e w4 ⟨⟨a, rfl, ha⟩, rfl⟩
    have HA : Hid (nmS en σ = _) := HM'.out a ha
    go_wp2_with fail
    refine (cW _ 3 (by decide) a HB.out).mono ?_
    rintro e w5 ⟨rfl, hE, hg⟩
    have HE5 : Hid (Es w5 P en (fl 3 a σ) ∧ Gp P w w5) := ⟨hE, (Gp.bl HB.out).trans hg⟩
    have cS := tail 3 a w5 hE
    clear hE hg cW cP cI
    go_wp2_with fail
    refine cS.mono ?_
    rintro e w6 ⟨rfl, hb6⟩
    go_wp2
    go_ret
    exact ⟨rfl, by rw [HA.out]; exact HE5.out.1.bl hb6, HE5.out.2.trans (Gp.bl hb6)⟩
  | true =>
    cases b2 with
    | true =>
      have HM' : Hid (∀ a : Nat, (∀ ts, σ = .ok ts → a = (hd en ts).a) → nmS en σ = fl 3 a σ) := fun a ha => by rw [HM.out a ha, if_pos (Or.inr (Or.inl rfl))]
      clear cC hO HM cT hb2
      go_wp2_with fail
      refine (cI _).mono ?_
      rintro e w3 ⟨rfl, rfl⟩
      go_wp2_with fail
      refine (cN _ HB.out).mono ?_
      rintro e w3 ⟨rfl, rfl⟩
      go_wp2_with fail
      refine (cP _ HB.out).mono ?_
      rintro e w4 ⟨⟨a, rfl, ha⟩, rfl⟩
      have HA : Hid (nmS en σ = _) := HM'.out a ha
      go_wp2_with fail
      refine (cW _ 3 (by decide) a HB.out).mono ?_
      rintro e w5 ⟨rfl, hE, hg⟩
      have HE5 : Hid (Es w5 P en (fl 3 a σ) ∧ Gp P w w5) := ⟨hE, (Gp.bl HB.out).trans hg⟩
      have cS := tail 3 a w5 hE
      clear hE hg cW cP cI
      go_wp2_with fail
      refine cS.mono ?_
      rintro e w6 ⟨rfl, hb6⟩
      go_wp2
      go_ret
      exact ⟨rfl, by rw [HA.out]; exact HE5.out.1.bl hb6, HE5.out.2.trans (Gp.bl hb6)⟩
    | false =>
      cases b3 with
      | true =>
        have HM' : Hid (∀ a : Nat, (∀ ts, σ = .ok ts → a = (hd en ts).a) → nmS en σ = fl 3 a σ) := fun a ha => by rw [HM.out a ha, if_pos (Or.inr (Or.inr rfl))]
        clear HM cT hb2
        go_wp2_with fail
        refine (cI _).mono ?_
        rintro e w3 ⟨rfl, rfl⟩
        go_wp2_with fail
        refine (cN _ HB.out).mono ?_
        rintro e w3 ⟨rfl, rfl⟩
        go_wp2_with fail
        refine (cC _ HB.out _ (by decide)).mono ?_
        rintro e w3 ⟨he, rfl⟩
        have he : e = .returned (.bool true) := he.trans (congrArg (fun b => Ending.returned (.bool b)) hO)
        clear hO cC
        obtain rfl := he.symm
        go_wp2_with fail
        refine (cP _ HB.out).mono ?_
        rintro e w4 ⟨⟨a, rfl, ha⟩, rfl⟩
        have HA : Hid (nmS en σ = _) := HM'.out a ha
        go_wp2_with fail
        refine (cW _ 3 (by decide) a HB.out).mono ?_
        rintro e w5 ⟨rfl, hE, hg⟩
        have HE5 : Hid (Es w5 P en (fl 3 a σ) ∧ Gp P w w5) := ⟨hE, (Gp.bl HB.out).trans hg⟩
        have cS := tail 3 a w5 hE
        clear hE hg cW cP cI
        go_wp2_with fail
        refine cS.mono ?_
        rintro e w6 ⟨rfl, hb6⟩
        go_wp2
        go_ret
        exact ⟨rfl, by rw [HA.out]; exact HE5.out.1.bl hb6, HE5.out.2.trans (Gp.bl hb6)⟩
      | false =>
        by_cases h12 : 12 < n
        · have h12' : (12 : Int) < (S.size : Int) := by omega
          have HM' : Hid (∀ a : Nat, (∀ ts, σ = .ok ts → a = (hd en ts).a) → nmS en σ = fl 4 a σ) := fun a ha => by rw [HM.out a ha, if_neg (by simp), if_pos h12]
          clear HM cT hb2
          go_wp2_with fail
          refine (cI _).mono ?_
          rintro e w3 ⟨rfl, rfl⟩
          go_wp2_with fail
          refine (cN _ HB.out).mono ?_
          rintro e w3 ⟨rfl, rfl⟩
          go_wp2_with fail
          refine (cC _ HB.out _ (by decide)).mono ?_
          rintro e w3 ⟨he, rfl⟩
          have he : e = .returned (.bool false) := he.trans (congrArg (fun b => Ending.returned (.bool b)) hO)
          clear hO cC
          obtain rfl := he.symm
          go_wp2_with fail
          refine (cP _ HB.out).mono ?_
          rintro e w4 ⟨⟨a, rfl, ha⟩, rfl⟩
          have HA : Hid (nmS en σ = _) := HM'.out a ha
          go_wp2_with fail
          refine (cW _ 4 (by decide) a HB.out).mono ?_
          rintro e w5 ⟨rfl, hE, hg⟩
          have HE5 : Hid (Es w5 P en (fl 4 a σ) ∧ Gp P w w5) := ⟨hE, (Gp.bl HB.out).trans hg⟩
          have cS := tail 4 a w5 hE
          clear hE hg cW cP cI
          go_wp2_with fail
          refine cS.mono ?_
          rintro e w6 ⟨rfl, hb6⟩
          go_wp2
          go_ret
          exact ⟨rfl, by rw [HA.out]; exact HE5.out.1.bl hb6, HE5.out.2.trans (Gp.bl hb6)⟩
        · have h12' : ¬ (12 : Int) < (S.size : Int) := by omega
          have HM' : Hid (nmS en σ = ps en σ) := by
            show nmS en σ = ps en σ
            cases σ with
            | ok ts => exact (HM.out (hd en ts).a (fun us hu => by injection hu with hu; rw [hu])).trans (by rw [if_neg (by simp), if_neg h12])
            | error e => rfl
          clear HM cT hb2 cW cP tail
          have cS := stop_es _ P en σ (HE.out.bl HB.out)
          have cQ := fun wx (hb : Bl w wx) => pass_es wx P en σ (HE.out.bl hb)
          go_wp2_with fail
          refine (cI _).mono ?_
          rintro e w3 ⟨rfl, rfl⟩
          go_wp2_with fail
          refine (cN _ HB.out).mono ?_
          rintro e w3 ⟨rfl, rfl⟩
          go_wp2_with fail
          refine (cC _ HB.out _ (by decide)).mono ?_
          rintro e w3 ⟨he, rfl⟩
          have he : e = .returned (.bool false) := he.trans (congrArg (fun b => Ending.returned (.bool b)) hO)
          clear hO cC cI cN
          obtain rfl := he.symm
          go_wp2_with fail
          refine cS.mono ?_
          rintro e w6 ⟨rfl, hb6⟩
          have HB6 : Hid (Bl w w6) := HB.out.trans hb6
          clear hb6 cS
          cases σ with
          | error ek =>
            go_wp2
            go_ret
            exact ⟨rfl, by rw [HM'.out]; exact HE.out.bl HB6.out, Gp.bl HB6.out⟩
          | ok ts =>
            go_wp2_with fail
            refine (cQ _ HB6.out).mono ?_
            rintro e w7 ⟨rfl, hE, hg⟩
            go_wp2
            go_ret
            exact ⟨rfl, by rw [HM'.out]; exact hE, (Gp.bl HB6.out).trans hg⟩
/-- An expression, whatever stands behind it. -/
noncomputable def exR (en : Nat) (ts : List Tk) : Rs Ex := match row nb en (10 * ts.length + 10) 1 0 ts with
  | some q => q
  | none => .error (0, 0)
noncomputable def exS (en : Nat) (σ : Sg) : Sg := match σ with
  | .ok ts => (match exR en ts with | .ok (_, r) => .ok r | .error e => .error e)
  | .error e => .error e
theorem expr_es (w : World) (P en : Nat) (σ : Sg) (h : Es w P en σ) :
    Calls Tryz.prog 85 #[.pointer (some ⟨P, 0, none⟩), .int .i64 1, .int .i64 0] w fun e w' => (∃ o, e = .returned (.pointer o) ∧ ∀ ts x r, σ = .ok ts → exR en ts = .ok (x, r) → IsX w' (.pointer o) x) ∧ Es w' P en (exS en σ) ∧ Gp P w w' := by
  cases σ with
  | error cp =>
    obtain ⟨c, p⟩ := cp
    obtain ⟨hc, ts, hE⟩ := h
    refine (expr_off w P ts en c p 1 0 hE hc).mono ?_
    rintro e w' ⟨rfl, hb⟩
    exact ⟨⟨none, rfl, fun _ _ _ h => by cases h⟩, ⟨hc, ts, hE.step hb⟩, Gp.bl hb⟩
  | ok ts =>
    have hx : ∃ q, row nb en (10 * ts.length + 10) 1 0 ts = some q := by
      cases h : row nb en (10 * ts.length + 10) 1 0 ts with
      | none => exact absurd h ((some_all _).1 1 0 _ (by omega) (by omega))
      | some q => exact ⟨q, rfl⟩
    obtain ⟨q, hq⟩ := hx
    obtain ⟨g, hg⟩ := (both_ways _).1 1 0 _ q (by omega) (by omega) hq
    have hR : exR en ts = q := by unfold exR; rw [hq]
    refine (expr_at P en g 1 0 ts q w (by omega) (by omega) (by omega) h hg).mono ?_
    rintro e w' ⟨hgp, hans⟩
    unfold exS
    dsimp only
    rw [hR]
    cases q with
    | ok xr =>
      obtain ⟨x, r⟩ := xr
      obtain ⟨v, rfl, h1, h2, _⟩ := hans
      obtain ⟨b, rfl, _⟩ := h1.ptr
      refine ⟨⟨_, rfl, fun us y s hu hy => ?_⟩, h2, hgp⟩
      injection hu with hu
      subst hu
      rw [hR] at hy
      injection hy with hy
      injection hy with hy _
      rw [← hy]; exact h1
    | error cp =>
      obtain ⟨c, p⟩ := cp
      obtain ⟨o, ts', rfl, h1, _, h2⟩ := hans
      refine ⟨⟨o, rfl, fun us y s hu hy => ?_⟩, ⟨h2, ts', h1⟩, hgp⟩
      injection hu with hu
      subst hu
      rw [hR] at hy
      cases hy
/-- In brackets, whatever was seen. -/
noncomputable def brS (en : Nat) (σ : Sg) : Sg := match σ with
  | .ok ts => (match many nb en ts with | .ok (_, r) => .ok r | .error e => .error e)
  | .error e => .error e
theorem br_is (en : Nat) (σ : Sg) : mu en [93] (exS en (mu en [91] σ)) = brS en σ ∧ ∀ ts x r, σ = .ok ts → many nb en ts = .ok (x, r) → ∃ us r', mu en [91] σ = .ok us ∧ exR en us = .ok (x, r') := by
  cases σ with
  | error e => exact ⟨rfl, fun _ _ _ h => by cases h⟩
  | ok ts =>
    unfold brS mu exS many
    dsimp only
    cases h1 : want en [91] ts with
    | error e => exact ⟨rfl, fun _ _ _ h hm => by injection h with h; subst h; rw [h1] at hm; cases hm⟩
    | ok us =>
      dsimp only
      have e2 : rx nb en [93] us = match exR en us with | .ok (x, r) => (if (hd en r).t = [93] then .ok (x, r) else .error (3, (hd en r).a)) | .error e => .error e := by
        unfold rx exR
        cases row nb en (10 * us.length + 10) 1 0 us with
        | none => rfl
        | some q => cases q <;> rfl
      rw [e2]
      cases h2 : exR en us with
      | error e =>
        refine ⟨rfl, fun _ _ _ h hm => ?_⟩
        injection h with h; subst h; rw [h1] at hm; dsimp only at hm; rw [e2, h2] at hm; cases hm
      | ok xr =>
        obtain ⟨x, r⟩ := xr
        dsimp only
        refine ⟨?_, fun _ y s h hm => ⟨us, r, rfl, ?_⟩⟩
        · unfold want
          by_cases hc : (hd en r).t = [93]
          · rw [if_pos hc, if_pos hc]
          · rw [if_neg hc, if_neg hc]
        · injection h with h; subst h; rw [h1] at hm; dsimp only at hm; rw [e2, h2] at hm
          dsimp only at hm
          split at hm
          · rename_i h3
            split at h3
            · cases h3
            · cases hm
          · rename_i h3
            injection hm with hm
            injection hm with hm _
            split at h3
            · injection h3 with h3
              injection h3 with h3 _
              rw [h2, ← hm, ← h3]
            · cases h3
set_option maxRecDepth 10000 in
theorem bracket_es (w : World) (P en : Nat) (σ : Sg) (h : Es w P en σ) :
    Calls Tryz.prog 86 #[.pointer (some ⟨P, 0, none⟩)] w fun e w' => (∃ o, e = .returned (.pointer o) ∧ ∀ ts x r, σ = .ok ts → many nb en ts = .ok (x, r) → IsX w' (.pointer o) x) ∧ Es w' P en (brS en σ) ∧ Gp P w w' := by
  obtain ⟨q1, q2⟩ := br_is en σ
  have c1 := must_es w P en σ [91] (by simp) h
  have HQ : Hid (mu en [93] (exS en (mu en [91] σ)) = brS en σ ∧ ∀ ts x r, σ = .ok ts → many nb en ts = .ok (x, r) → ∃ us r', mu en [91] σ = .ok us ∧ exR en us = .ok (x, r')) := ⟨q1, q2⟩
  clear q1 q2 h
  go_enter Tryz.func86, Tryz.ntmps86
  go_wp2_with fail
  refine c1.mono ?_
  rintro e w2 ⟨rfl, hE2, hg2⟩
  have c2 := expr_es w2 P en _ hE2
  have HG2 : Hid (Gp P w w2) := hg2
  clear c1 hE2 hg2
  go_wp2_with fail
  refine c2.mono ?_
  rintro e w3 ⟨⟨o, rfl, ho⟩, hE3, hg3⟩
  have c3 := must_es w3 P en _ [93] (by simp) hE3
  have HG3 : Hid (Gp P w w3 ∧ ∀ ts x r, mu en [91] σ = .ok ts → exR en ts = .ok (x, r) → IsX w3 (.pointer o) x) := ⟨HG2.out.trans hg3, ho⟩
  have HE3 : Hid (Es w3 P en (exS en (mu en [91] σ))) := hE3
  clear c2 hE3 hg3 ho
  go_wp2_with fail
  refine c3.mono ?_
  rintro e w4 ⟨rfl, hE4, hg4⟩
  rw [HQ.out.1] at hE4
  have HR : Hid (Es w4 P en (brS en σ) ∧ Gp P w w4 ∧ ∀ ts x r, σ = .ok ts → many nb en ts = .ok (x, r) → IsX w4 (.pointer o) x) := ⟨hE4, HG3.out.1.trans hg4, fun ts x r hs hm => by
    obtain ⟨us, r', k1, k2⟩ := HQ.out.2 ts x r hs hm
    exact (HG3.out.2 us x r' k1 k2).keep (HE3.out.kx hg4)⟩
  clear c3 hE4 hg4
  go_wp2
  go_ret
  exact ⟨⟨o, rfl, HR.out.2.2⟩, HR.out.1, HR.out.2.1⟩
end Go.Proofs.YtpanodaecjlgaaaGreatDoor.tr
