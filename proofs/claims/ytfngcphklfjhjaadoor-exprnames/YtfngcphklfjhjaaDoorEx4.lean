/- Rows of things that are joined: row of package expr. -/
import Derived.Test.YtfngcphklfjhjaaDoorEx3
import Derived.Deep.RegionHeld3
namespace Go.Proofs.YtfngcphklfjhjaaDoor.ex
set_option linter.unusedVariables false
open Go.ChangeShapes Go.WideShapes Go.ChangeAt Go.RowKit
open mem lx

/-- How many tokens are left. -/
def lenAt (w : World) (P : Nat) : Nat := match w.cell? ⟨P, 0, none⟩ with | some (.slice _ n _) => n | _ => 0
theorem Rd.lenAt {w : World} {P : Nat} {ts : List Tk} {d en : Nat} (h : Rd w P ts d en) : lenAt w P = ts.length := by
  obtain ⟨p, c, h1, _⟩ := h.ex
  have : w.cell? ⟨P, 0, none⟩ = some (.slice p ts.length c) := by rw [cell_of h1]; rfl
  unfold ex.lenAt
  rw [this]
theorem lp_is {f m d en : Nat} {x : Ex} {ts : List Tk} {q : Res} (hm : 1 ≤ m) (h : lp nb en (f + 1) m d x ts = some q) :
    (¬ bd (hd en ts).t = m → q = .ok (x, ts)) ∧ (bd (hd en ts).t = m → ts = hd en ts :: ts.tail ∧ ∃ q1, row nb en f (m + 1) d ts.tail = some q1 ∧ (∀ e, q1 = .error e → q = .error e) ∧ (∀ y r, q1 = .ok (y, r) → lp nb en f m d (.bin (hd en ts).a (hd en ts).t x y) r = some q)) := by
  cases ts with
  | nil =>
    rw [lp] at h
    injection h with h
    refine ⟨fun _ => h.symm, fun hb => ?_⟩
    have : bd ([] : List UInt8) = m := hb
    have h0 : bd ([] : List UInt8) = 0 := by decide
    omega
  | cons t r =>
    rw [show hd en (t :: r) = t from rfl, show (t :: r).tail = r from rfl]
    rw [lp] at h
    refine ⟨fun hb => ?_, fun hb => ⟨rfl, ?_⟩⟩
    · rw [if_neg hb] at h
      injection h with h
      exact h.symm
    · rw [if_pos hb] at h
      split at h
      · cases h
      · rename_i e hr
        injection h with h
        exact ⟨_, hr, fun e' he => by injection he with he; rw [← he]; exact h.symm, fun y r hy => by cases hy⟩
      · rename_i y r' hr
        refine ⟨_, hr, ?_, ?_⟩
        · intro e he; cases he
        · intro y2 r2 hy
          injection hy with hy
          injection hy with hy1 hy2
          rw [← hy1, ← hy2]; exact h
/-- What is left was there. -/
theorem mem_all {en : Nat} (f : Nat) : (∀ m d ts x r, row nb en f m d ts = some (.ok (x, r)) → ∀ t ∈ r, t ∈ ts) ∧ (∀ m d y ts x r, lp nb en f m d y ts = some (.ok (x, r)) → ∀ t ∈ r, t ∈ ts) ∧ (∀ d ts x r, one nb en f d ts = some (.ok (x, r)) → ∀ t ∈ r, t ∈ ts) := by
  induction f with
  | zero => exact ⟨fun _ _ _ _ _ h => by simp [row] at h, fun _ _ _ _ _ _ h => by simp [lp] at h, fun _ _ _ _ h => by simp [one] at h⟩
  | succ f ih =>
    obtain ⟨i1, i2, i3⟩ := ih
    refine ⟨?_, ?_, ?_⟩
    · intro m d ts x r h
      by_cases hm : 3 < m
      · rw [row_top _ _ _ _ hm] at h
        exact i3 _ _ _ _ h
      · rw [row_low _ _ _ _ hm] at h
        split at h
        · cases h
        · cases h
        · rename_i y r' hr
          exact fun t ht => i1 _ _ _ _ _ hr t (i2 _ _ _ _ _ _ h t ht)
    · intro m d y ts x r h
      cases ts with
      | nil =>
        simp only [lp, Option.some.injEq, Except.ok.injEq, Prod.mk.injEq] at h
        rw [← h.2]
        exact fun t ht => ht
      | cons t ts =>
        rw [lp] at h
        split at h
        · split at h
          · cases h
          · cases h
          · rename_i z r' hr
            exact fun u hu => List.mem_cons_of_mem _ (i1 _ _ _ _ _ hr u (i2 _ _ _ _ _ _ h u hu))
        · simp only [Option.some.injEq, Except.ok.injEq, Prod.mk.injEq] at h
          rw [← h.2]
          exact fun t ht => ht
    · intro d ts x r h
      cases ts with
      | nil => simp [one] at h
      | cons t ts =>
        rw [one] at h
        split at h
        · split at h
          · simp at h
          · simp at h; rw [← h.2]; exact fun u hu => List.mem_cons_of_mem _ hu
        · split at h
          · split at h
            · simp at h; rw [← h.2]; exact fun u hu => List.mem_cons_of_mem _ hu
            · simp at h
          · split at h
            · split at h
              · simp at h
              · split at h
                · cases h
                · cases h
                · rename_i z r' hr
                  split at h
                  · simp at h; rw [← h.2]
                    exact fun u hu => List.mem_cons_of_mem _ (i1 _ _ _ _ _ hr u (List.mem_of_mem_tail hu))
                  · simp at h
            · simp at h
theorem run_text (S : ByteArray) (n : Int) (w : World) : (Instr.field 35 (.agg #[.string S, .int .i64 n]) 0).run Tryd.prog w = .ok (.string S) w := by kernel_rfl
theorem kept_tok {P N : Nat} {W w6 : World} {S : ByteArray} {a : Int} (h : W.heap[N]? = some (.cells #[.string S, .int .i64 a] 35 (0, 0))) (hne : N ≠ P) (hg : Gp P W.drew w6) : w6.cell? ⟨N, 0, none⟩ = some (.string S) ∧ w6.cell? ⟨N, 1, none⟩ = some (.int .i64 a) := by
  have h6 : w6.heap[N]? = some (.cells #[.string S, .int .i64 a] 35 (0, 0)) := (hg.block N (lt_of_heap h) hne).trans h
  exact ⟨by rw [cell_of h6]; rfl, by rw [cell_of h6]; rfl⟩
/-- Reading, at all. -/
def RowC (P en : Nat) (f : Nat) : Prop := ∀ (m d : Nat) (ts : List Tk) (q : Res) (w : World), 1 ≤ m → m ≤ 4 → d ≤ 8 → Rd w P ts d en → errs.Laid w → ts.length ≤ 3000 → (∀ t ∈ ts, t.t.length ≤ 3000) → row nb en f m d ts = some q →
  Calls Tryd.prog 35 #[.pointer (some ⟨P, 0, none⟩), .int .i64 (m : Int)] w fun e w' => Rans P en d w q e w'
theorem row_tops (P en f : Nat) (hGP : 0 < P) (ih : ∀ g, g < f + 1 → RowC P en g) (d : Nat) (ts : List Tk) (q : Res) (w : World) (h8 : d ≤ 8) (hR : Rd w P ts d en) (hL : errs.Laid w) (hl : ts.length ≤ 3000) (hz : ∀ t ∈ ts, t.t.length ≤ 3000) (hq : row nb en (f + 1) 4 d ts = some q) :
    Calls Tryd.prog 35 #[.pointer (some ⟨P, 0, none⟩), .int .i64 ((4 : Nat) : Int)] w fun e w' => Rans P en d w q e w' := by
  rw [row_top _ _ _ _ (by omega)] at hq
  cases f with
  | zero => simp [one] at hq
  | succ g =>
    have c1 := one_at g P en d ts q w hR hL hGP h8 hl hz hq (fun q1 d ts wx h1 h2 h3 h4 h5 h6 => ih g (by omega) 1 d ts q1 wx (by omega) (by omega) h3 h1 h2 h4 h5 h6)
    clear ih hq hz
    show Calls Tryd.prog _ #[.pointer (some ⟨P, 0, none⟩), .int .i64 4] w _
    go_enter Tryd.func35, Tryd.ntmps35
    go_wp2_with fail
    refine c1.mono ?_
    rintro e w4 ⟨hg4, hans⟩
    cases q with
    | error cp =>
      obtain ⟨c, p⟩ := cp
      obtain ⟨B, rfl, k1, k2⟩ := hans
      unfold thrown
      go_wp2
      exact ⟨rfl, hg4, B, rfl, k1, k2⟩
    | ok xr =>
      obtain ⟨x, r⟩ := xr
      obtain ⟨v, rfl, k1, k2⟩ := hans
      go_wp2
      go_ret
      exact ⟨hg4, v, rfl, k1, k2⟩
set_option maxRecDepth 10000 in
set_option maxHeartbeats 1000000 in
theorem row_lows (P en f : Nat) (hGP : 0 < P) (ih : ∀ g, g < f + 1 → RowC P en g) (m d : Nat) (ts : List Tk) (q : Res) (w : World) (h1 : 1 ≤ m) (h3 : m ≤ 3) (h8 : d ≤ 8) (hR : Rd w P ts d en) (hL : errs.Laid w) (hl : ts.length ≤ 3000) (hz : ∀ t ∈ ts, t.t.length ≤ 3000) (hq : row nb en (f + 1) m d ts = some q) :
    Calls Tryd.prog 35 #[.pointer (some ⟨P, 0, none⟩), .int .i64 (m : Int)] w fun e w' => Rans P en d w q e w' := by
  rw [row_low _ _ _ _ (by omega)] at hq
  obtain ⟨q1, hq1⟩ : ∃ q1, row nb en f (m + 1) d ts = some q1 := by
    cases h : row nb en f (m + 1) d ts with
    | none => rw [h] at hq; cases hq
    | some q1 => exact ⟨q1, rfl⟩
  have c1 := ih f (by omega) (m + 1) d ts q1 w (by omega) (by omega) h8 hR hL hl hz hq1
  have hmem1 : ∀ x r, q1 = .ok (x, r) → ∀ t ∈ r, t ∈ ts := fun x r h => by rw [h] at hq1; exact (mem_all f).1 _ _ _ _ _ hq1
  have hlen1 : ∀ x r, q1 = .ok (x, r) → r.length < ts.length := fun x r h => by rw [h] at hq1; exact (len_all f).1 _ _ _ _ _ hq1
  rw [hq1] at hq
  rw [show (((m + 1 : Nat) : Nat) : Int) = (m : Int) + 1 by omega] at c1
  have hm : ¬ (3 : Int) < (m : Int) := by omega
  have HI : Hid (∀ g, g < f + 1 → RowC P en g) := ih
  have HL : Hid (errs.Laid w ∧ Rd w P ts d en) := ⟨hL, hR⟩
  have HZ : Hid (∀ t ∈ ts, t.t.length ≤ 3000) := hz
  clear ih hz hL hR hq1
  go_enter Tryd.func35, Tryd.ntmps35
  go_wp2_with fail
  refine c1.mono ?_
  rintro e w1 ⟨hg1, hans⟩
  cases q1 with
  | error cp =>
    obtain ⟨c, p⟩ := cp
    obtain ⟨B, rfl, k1, k2⟩ := hans
    injection hq with hq
    subst hq
    unfold thrown
    go_wp2
    exact ⟨rfl, hg1, B, rfl, k1, k2⟩
  | ok xr =>
    obtain ⟨x, r⟩ := xr
    obtain ⟨v, rfl, k1, k2⟩ := hans
    have hlr := hlen1 x r rfl
    have hq' : lp nb en f m d x r = some q := hq
    have HS0 : Hid (IsX w1 v x ∧ Rd w1 P r d en ∧ Gp P w w1 ∧ (∀ t ∈ r, t.t.length ≤ 3000) ∧ r.length ≤ 3000 ∧ lp nb en f m d x r = some q) := by
      exact ⟨k1, k2, hg1, fun t ht => HZ.out t (hmem1 x r rfl t ht), by omega, hq'⟩
    clear hq hq' hlen1 hmem1 k1 k2 hg1 c1
    go_wp2
    go_loopw [5, 6] (fun v5 _ wr => ∃ (f' : Nat) (x : Ex) (r : List Tk), f' ≤ f ∧ Hid (IsX wr v5 x ∧ Rd wr P r d en ∧ Gp P w wr ∧ (∀ t ∈ r, t.t.length ≤ 3000) ∧ r.length ≤ 3000 ∧ lp nb en f' m d x r = some q)) (fun _ _ wr => ex.lenAt wr P)
    case atStart => exact ⟨f, x, r, Nat.le_refl _, HS0.out⟩
    case round =>
      clear HS0
      obtain ⟨f', x, r, hf, H⟩ := hrel
      obtain ⟨vb, hvb, _⟩ := H.out.1.ptr
      subst hvb
      cases f' with
      | zero => have := H.out.2.2.2.2.2; simp [lp] at this
      | succ g =>
        obtain ⟨l1, l2⟩ := lp_is h1 H.out.2.2.2.2.2
        have cN := next_at wr P r d en H.out.2.1 (by have := H.out.2.2.2.2.1; omega)
        have cT := fun wx (hb : Bl wr wx) => take_at wx P r d en (H.out.2.1.step hb) (by have := H.out.2.2.2.2.1; omega)
        obtain ⟨T, hT⟩ : ∃ T, T = hd en r := ⟨_, rfl⟩
        rw [← hT] at cN cT l1 l2
        have cB := binds_at T.t
        have hfd := run_text
        unfold tkV at cN cT
        obtain ⟨S, hS⟩ : ∃ S, S = tx T.t := ⟨_, rfl⟩
        rw [← hS] at cN cT cB
        have HS : Hid (S = tx T.t ∧ T = hd en r) := ⟨hS, hT⟩
        clear hS hT
        by_cases hb : bd T.t = m
        · obtain ⟨hr0, q1, hr1, hr2, hr3⟩ := l2 hb
          rw [hb] at cB
          have hbt : (((m : Nat) : Int) == (m : Int)) = true := by simp
          have hwr : IntKind.i64.wrap ((m : Int) + 1) = (m : Int) + 1 := by rw [IntKind.wrap_i64]; omega
          have hlt : r.tail.length < r.length := by rw [hr0]; simp
          have hgf : g + 1 ≤ f := hf
          have cR : ∀ wx, Rd wx P r.tail d en → errs.Laid wx → Calls Tryd.prog 35 #[.pointer (some ⟨P, 0, none⟩), .int .i64 ((m : Int) + 1)] wx fun e w' => Rans P en d wx q1 e w' := by
            intro wx hx hxl
            have := HI.out g (by omega) (m + 1) d r.tail q1 wx (by omega) (by omega) h8 hx hxl (by have := H.out.2.2.2.2.1; omega) (fun t ht => H.out.2.2.2.1 t (List.mem_of_mem_tail ht)) hr1
            rw [show (((m + 1 : Nat) : Nat) : Int) = (m : Int) + 1 by omega] at this
            exact this
          have HR0 : Hid (r = T :: r.tail ∧ row nb en g (m + 1) d r.tail = some q1 ∧ g + 1 ≤ f) := ⟨hr0, hr1, hgf⟩
          clear hr0 hr1 l1 l2 hb hgf
          go_wp2_with fail
          refine cN.mono ?_
          rintro e w3 ⟨rfl, hb3⟩
          go_wp2_with fail
          refine (cB _).mono ?_
          rintro e w4 ⟨rfl, rfl⟩
          go_wp2_with fail
          refine (cT _ hb3).mono ?_
          rintro e w5 ⟨rfl, hR5, hg5⟩
          go_upto_region 6 with fail
          obtain ⟨W, hW⟩ : ∃ W, W = w5.alloc (.cells #[.string S, .int .i64 (T.a : Int)] 35) := ⟨_, rfl⟩
          have hWb : Bl w5 W := by rw [hW]; exact (Bl.refl _).alloc _
          have hn := new_at w5 (.cells #[.string S, .int .i64 (T.a : Int)] 35)
          rw [← hW] at hn
          obtain ⟨N, hN⟩ : ∃ N, N = w5.heap.size := ⟨_, rfl⟩
          rw [← hN] at hn
          have g0 : W.cell? ⟨N, 0, none⟩ = some (.string S) := by rw [cell_of hn]; rfl
          have g1 : W.cell? ⟨N, 1, none⟩ = some (.int .i64 (T.a : Int)) := by rw [cell_of hn]; rfl
          have hgW : Gp P w W := ((H.out.2.2.1.trans (Gp.bl hb3)).trans hg5).trans (Gp.bl hWb)
          have hPN : N ≠ P := by have := hR5.lt; omega
          have hxW : IsX W (.pointer (some ⟨vb, 0, none⟩)) x := by
            obtain ⟨cs, hcs⟩ := (H.out.2.1.step hb3).is
            exact ((H.out.1.keep (Kx.bl hb3)).keep (hg5.kx hcs)).keep (Kx.bl hWb)
          have HW : Hid (Gp P w W ∧ Rd W P r.tail d en ∧ errs.Laid W ∧ IsX W (.pointer (some ⟨vb, 0, none⟩)) x ∧ W.heap[N]? = some (.cells #[.string S, .int .i64 (T.a : Int)] 35 (0, 0)) ∧ N ≠ P) := ⟨hgW, hR5.step hWb, Laid.gp HL.out.1 hgW hGP, hxW, hn, hPN⟩
          rw [← hW, ← hN]
          clear hW hWb hn hN hgW hxW hPN hR5 hg5 hb3 cN cT cB
          cases q1 with
          | error cp =>
            obtain ⟨c, p⟩ := cp
            have hqe := hr2 _ rfl
            subst hqe
            clear hr2 hr3
            refine wp_region_any (by kernel_rfl) ?_
            change wpAny _ _ _ _ _ _ _ (World.drew _)
            refine wpAny_take (i := 0) (v := ?_) rfl (by kernel_rfl) (by kernel_rfl) (by kernel_rfl) (fun _ _ _ h => h) (Or.inl ⟨by rfl, ?_⟩) ?_
            rotate_left
            · intro w
              go_simp
              rfl
            refine wpAny_take (i := 2) (v := ?_) rfl (by kernel_rfl) (by kernel_rfl) (by kernel_rfl) (fun _ _ _ h => h) (Or.inl ⟨by rfl, ?_⟩) ?_
            rotate_left
            · intro w
              go_simp
              rfl
            refine wpAny_take (i := 4) (v := ?_) rfl (by kernel_rfl) (by kernel_rfl) (by kernel_rfl) (fun _ _ _ h => h) (Or.inl ⟨by rfl, ?_⟩) ?_
            rotate_left
            · intro w
              go_simp
              rfl
            refine wpAny_take (i := 5) (v := ?_) rfl (by kernel_rfl) (by kernel_rfl) (by kernel_rfl) (fun _ _ _ h => h) (Or.inl ⟨by rfl, ?_⟩) ?_
            rotate_left
            · intro w
              go_simp
              rfl
            refine wpAny_take (i := 6) (v := ?_) rfl (by kernel_rfl) (by kernel_rfl) (by kernel_rfl) (fun _ _ _ h => h) (Or.inl ⟨by rfl, ?_⟩) ?_
            rotate_left
            · intro w
              go_simp
              rfl
            refine wpAny_take (i := 7) (v := ?_) rfl (by kernel_rfl) (by kernel_rfl) (by kernel_rfl) (fun _ _ _ h => h) (Or.inl ⟨by rfl, ?_⟩) ?_
            rotate_left
            · intro w
              go_simp
              rfl
            refine wpAny_ready (rs := [1, 3, 8]) (by kernel_rfl) (by simp) ?_
            refine AllReady.cons rfl (fun K hK => ?_) (AllReady.cons rfl (fun K hK => ?_) (AllReady.cons rfl (fun K hK => ?_) AllReady.nil))
            · go_simp
              refine hK _ _ ?_
              clear hK K
              refine wpAny_ready (rs := [3, 8]) (by kernel_rfl) (by simp) ?_
              refine AllReady.cons rfl (fun K hK => ?_) (AllReady.cons rfl (fun K hK => ?_) AllReady.nil)
              · go_simp
                refine hK _ _ ?_
                clear hK K
                refine wpAny_ready (rs := [8]) (by kernel_rfl) (by simp) ?_
                refine AllReady.cons rfl (fun K hK => ?_) AllReady.nil
                go_simp
                refine (cR _ (HW.out.2.1.step ((Bl.refl _).drew)) (HW.out.2.2.1.bl ((Bl.refl _).drew))).mono ?_
                rintro e w6 ⟨hg6, B, rfl, hs6, hat6⟩
                clear hK
                unfold thrown
                dsimp only
                clear K
                go_wp2
                exact ⟨rfl, (HW.out.1.trans (Gp.bl ((Bl.refl W).drew))).trans hg6, B, rfl, Nat.le_trans HW.out.1.size hs6, hat6⟩
              · go_simp
                refine (cR _ (HW.out.2.1.step ((Bl.refl _).drew)) (HW.out.2.2.1.bl ((Bl.refl _).drew))).mono ?_
                rintro e w6 ⟨hg6, B, rfl, hs6, hat6⟩
                clear hK
                unfold thrown
                dsimp only
                clear K
                go_wp2
                exact ⟨rfl, (HW.out.1.trans (Gp.bl ((Bl.refl W).drew))).trans hg6, B, rfl, Nat.le_trans HW.out.1.size hs6, hat6⟩
            · go_simp
              refine hK _ _ ?_
              clear hK K
              refine wpAny_ready (rs := [1, 8]) (by kernel_rfl) (by simp) ?_
              refine AllReady.cons rfl (fun K hK => ?_) (AllReady.cons rfl (fun K hK => ?_) AllReady.nil)
              · go_simp
                refine hK _ _ ?_
                clear hK K
                refine wpAny_ready (rs := [8]) (by kernel_rfl) (by simp) ?_
                refine AllReady.cons rfl (fun K hK => ?_) AllReady.nil
                go_simp
                refine (cR _ (HW.out.2.1.step ((Bl.refl _).drew)) (HW.out.2.2.1.bl ((Bl.refl _).drew))).mono ?_
                rintro e w6 ⟨hg6, B, rfl, hs6, hat6⟩
                clear hK
                unfold thrown
                dsimp only
                clear K
                go_wp2
                exact ⟨rfl, (HW.out.1.trans (Gp.bl ((Bl.refl W).drew))).trans hg6, B, rfl, Nat.le_trans HW.out.1.size hs6, hat6⟩
              · go_simp
                refine (cR _ (HW.out.2.1.step ((Bl.refl _).drew)) (HW.out.2.2.1.bl ((Bl.refl _).drew))).mono ?_
                rintro e w6 ⟨hg6, B, rfl, hs6, hat6⟩
                clear hK
                unfold thrown
                dsimp only
                clear K
                go_wp2
                exact ⟨rfl, (HW.out.1.trans (Gp.bl ((Bl.refl W).drew))).trans hg6, B, rfl, Nat.le_trans HW.out.1.size hs6, hat6⟩
            · go_simp
              refine (cR _ (HW.out.2.1.step ((Bl.refl _).drew)) (HW.out.2.2.1.bl ((Bl.refl _).drew))).mono ?_
              rintro e w6 ⟨hg6, B, rfl, hs6, hat6⟩
              clear hK
              unfold thrown
              dsimp only
              clear K
              go_wp2
              exact ⟨rfl, (HW.out.1.trans (Gp.bl ((Bl.refl W).drew))).trans hg6, B, rfl, Nat.le_trans HW.out.1.size hs6, hat6⟩
          | ok yr =>
            obtain ⟨y, r3⟩ := yr
            have hq3 := hr3 y r3 rfl
            clear hr2 hr3
            go_region_held3 (fun w' => w'.cell? ⟨N, 0, none⟩ = some (.string S) ∧ w'.cell? ⟨N, 1, none⟩ = some (.int .i64 (T.a : Int))) (refine ⟨?_, ?_⟩ <;> first | assumption | exact at_bl ((Bl.refl _).alloc _) (by assumption) | exact at_bl ((Bl.refl _).drew) (by assumption))
              (first
                | (go_at_call 35; refine (cR _ (HW.out.2.1.step ((Bl.refl _).drew)) (HW.out.2.2.1.bl ((Bl.refl _).drew))).mono ?_; rintro e w6 ⟨hg6, v6, rfl, hy6, hR6⟩
                   obtain ⟨vb6, hvb6, _⟩ := hy6.ptr; subst hvb6; have HN6 := kept_tok HW.out.2.2.2.2.1 HW.out.2.2.2.2.2 hg6; have q0 := HN6.1; have q1 := HN6.2; have H6 : Hid (Gp P W w6 ∧ IsX w6 (.pointer (some ⟨vb6, 0, none⟩)) y ∧ Rd w6 P r3 d en) := ⟨(Gp.bl ((Bl.refl W).drew)).trans hg6, hy6, hR6⟩; clear hg6 hy6 hR6 HN6))
            obtain ⟨W9, hW9⟩ : ∃ W9, W9 = w6.alloc (.cells #[.int .i64 3, .int .i64 (T.a : Int), .int .i64 0, .string ⟨#[]⟩, .string S, .pointer (some ⟨vb, 0, none⟩), .pointer (some ⟨vb6, 0, none⟩)] 89) := ⟨_, rfl⟩
            have hb9 : Bl w6 W9 := by rw [hW9]; exact (Bl.refl _).alloc _
            have hn9 := new_at w6 (.cells #[.int .i64 3, .int .i64 (T.a : Int), .int .i64 0, .string ⟨#[]⟩, .string S, .pointer (some ⟨vb, 0, none⟩), .pointer (some ⟨vb6, 0, none⟩)] 89)
            rw [← hW9] at hn9
            have H9 : Hid (IsX W9 (.pointer (some ⟨w6.heap.size, 0, none⟩)) (.bin T.a T.t x y) ∧ Rd W9 P r3 d en ∧ Gp P w W9 ∧ (∀ t ∈ r3, t.t.length ≤ 3000) ∧ r3.length ≤ 3000 ∧ lp nb en g m d (.bin T.a T.t x y) r3 = some q) := by
              obtain ⟨cs, hcs⟩ := HW.out.2.1.is
              have hx6 : IsX w6 (.pointer (some ⟨vb, 0, none⟩)) x := HW.out.2.2.2.1.keep (H6.out.1.kx hcs)
              have hl3 := (len_all g).1 _ _ _ _ _ HR0.out.2.1
              refine ⟨⟨_, _, _, rfl, ?_, hx6.keep (Kx.bl hb9), H6.out.2.1.keep (Kx.bl hb9)⟩, H6.out.2.2.step hb9, (HW.out.1.trans H6.out.1).trans (Gp.bl hb9), fun t ht => H.out.2.2.2.1 t (List.mem_of_mem_tail ((mem_all g).1 _ _ _ _ _ HR0.out.2.1 t ht)), by have := H.out.2.2.2.2.1; omega, hq3⟩
              rw [hn9, HS.out.1]
              rfl
            have hm1 : ex.lenAt wr P = r.length := H.out.2.1.lenAt
            have hm2 : ex.lenAt W9 P = r3.length := H9.out.2.1.lenAt
            have hl3 := (len_all g).1 _ _ _ _ _ HR0.out.2.1
            rw [← hW9]
            obtain ⟨Z, hZ⟩ : ∃ Z, Z = w6.heap.size := ⟨_, rfl⟩
            rw [← hZ] at H9 ⊢
            clear hW9 hb9 hn9 hZ q0 q1 g0 g1
            go_wp2
            go_roundw
            case rel => exact ⟨g, _, r3, by have := HR0.out.2.2; omega, H9.out⟩
            case measure => rw [hm1, hm2]; omega
        · have hq' := l1 hb
          subst hq'
          have hbf : (((bd T.t : Nat) : Int) == (m : Int)) = false := by rw [beq_eq_false_iff_ne]; omega
          obtain ⟨k, hk⟩ : ∃ k : Nat, k = bd T.t := ⟨_, rfl⟩
          rw [← hk] at cB hbf
          clear l1 l2 cT hb hk
          go_wp2_with fail
          refine cN.mono ?_
          rintro e w3 ⟨rfl, hb3⟩
          go_wp2_with fail
          refine (cB _).mono ?_
          rintro e w4 ⟨rfl, rfl⟩
          go_wp2
          go_ret
          exact ⟨H.out.2.2.1.trans (Gp.bl hb3), _, rfl, H.out.1.keep (Kx.bl hb3), H.out.2.1.step hb3⟩
theorem row_at (P en : Nat) (hGP : 0 < P) : ∀ f, RowC P en f := by
  intro f
  induction f using Nat.strongRecOn with
  | _ f ih =>
    intro m d ts q w h1 h4 h8 hR hL hl hz hq
    cases f with
    | zero => simp [row] at hq
    | succ f =>
      by_cases hm : m = 4
      · subst hm
        exact row_tops P en f hGP ih d ts q w h8 hR hL hl hz hq
      · exact row_lows P en f hGP ih m d ts q w h1 (by omega) h8 hR hL hl hz hq
end Go.Proofs.YtfngcphklfjhjaaDoor.ex
