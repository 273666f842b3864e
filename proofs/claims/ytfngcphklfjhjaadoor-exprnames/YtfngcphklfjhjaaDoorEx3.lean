/- A number, a name, or what stands in brackets: one of package expr. -/
import Derived.Test.YtfngcphklfjhjaaDoorEx2
import Derived.Deep.Cut
import Derived.RegionCalls
namespace Go.Proofs.YtfngcphklfjhjaaDoor.ex
set_option linter.unusedVariables false
open Go.ChangeShapes Go.WideShapes Go.ChangeAt Go.RowKit
open mem lx

theorem isN_nmb (t : List UInt8) : nmb t = isN t := rfl
theorem two_new (w : World) (o o2 : Obj) : ((w.alloc o).alloc o2).heap[w.heap.size + 1]? = some o2 := by
  have h := new_at (w.alloc o) o2
  have hs : (w.alloc o).heap.size = w.heap.size + 1 := by simp
  rw [hs] at h
  exact h
theorem one_is {f d en : Nat} {ts : List Tk} {q : Res} (hq : one nb en (f + 1) d ts = some q) :
    (isN (hd en ts).t = true → q = if 12 < (hd en ts).t.length then .error (4, (hd en ts).a) else .ok (.nam (hd en ts).a (hd en ts).t, ts.tail)) ∧
    (isN (hd en ts).t = false → isU (hd en ts).t = true → q = if (nb (hd en ts).t).2 = 0 then .ok (.num (hd en ts).a (nb (hd en ts).t).1, ts.tail) else .error ((nb (hd en ts).t).2, (hd en ts).a)) ∧
    (isN (hd en ts).t = false → isU (hd en ts).t = false → (hd en ts).t = [40] → ∃ q1, (d = 8 ∨ row nb en f 1 (d + 1) ts.tail = some q1) ∧ q = brk en (hd en ts).a d q1) ∧
    (isN (hd en ts).t = false → isU (hd en ts).t = false → ¬ (hd en ts).t = [40] → q = .error (3, (hd en ts).a)) := by
  cases ts with
  | nil =>
    rw [one] at hq
    injection hq with hq
    refine ⟨fun h => ?_, fun _ h => ?_, fun _ _ h => ?_, fun _ _ _ => hq.symm⟩
    · exact absurd h (by show ¬ isN [] = true; decide)
    · exact absurd h (by show ¬ isU [] = true; decide)
    · exact absurd h (by show ¬ ([] : List UInt8) = [40]; decide)
  | cons t r =>
    rw [show hd en (t :: r) = t from rfl, show (t :: r).tail = r from rfl]
    rw [one] at hq
    refine ⟨fun h1 => ?_, fun h1 h2 => ?_, fun h1 h2 h3 => ?_, fun h1 h2 h3 => ?_⟩
    · rw [if_pos h1] at hq
      split at hq
      · rename_i h; rw [if_pos h]; injection hq with hq; exact hq.symm
      · rename_i h; rw [if_neg h]; injection hq with hq; exact hq.symm
    · rw [if_neg (by rw [h1]; decide), if_pos h2] at hq
      split at hq
      · rename_i h; rw [if_pos h]; injection hq with hq; exact hq.symm
      · rename_i h; rw [if_neg h]; injection hq with hq; exact hq.symm
    · rw [if_neg (by rw [h1]; decide), if_neg (by rw [h2]; decide), if_pos h3] at hq
      split at hq
      · rename_i h8
        injection hq with hq
        exact ⟨.error (0, 0), Or.inl h8, by unfold brk; rw [if_pos h8]; exact hq.symm⟩
      · rename_i h8
        split at hq
        · cases hq
        · rename_i e hr
          injection hq with hq
          exact ⟨_, Or.inr hr, by rw [brk_err h8]; exact hq.symm⟩
        · rename_i x r' hr
          split at hq
          · rename_i h5
            injection hq with hq
            exact ⟨_, Or.inr hr, by rw [brk_yes h8 h5]; exact hq.symm⟩
          · rename_i h5
            injection hq with hq
            exact ⟨_, Or.inr hr, by rw [brk_no h8 h5]; exact hq.symm⟩
    · rw [if_neg (by rw [h1]; decide), if_neg (by rw [h2]; decide), if_neg h3] at hq
      injection hq with hq
      exact hq.symm
set_option maxRecDepth 10000 in
set_option maxHeartbeats 1000000 in
theorem one_at (f P en : Nat) (d : Nat) (ts : List Tk) (q : Res) (w : World) (hR : Rd w P ts d en) (hL : errs.Laid w) (hGP : 0 < P) (h8 : d ≤ 8) (hl : ts.length ≤ 3000) (hz : ∀ t ∈ ts, t.t.length ≤ 3000)
    (hq : one nb en (f + 1) d ts = some q)
    (cR : ∀ (q1 : Res) (d : Nat) (ts : List Tk) wx, Rd wx P ts d en → errs.Laid wx → d ≤ 8 → ts.length ≤ 3000 → (∀ t ∈ ts, t.t.length ≤ 3000) → row nb en f 1 d ts = some q1 → Calls Tryd.prog 35 #[.pointer (some ⟨P, 0, none⟩), .int .i64 1] wx fun e w' => Rans P en d wx q1 e w') :
    Calls Tryd.prog 48 #[.pointer (some ⟨P, 0, none⟩)] w fun e w' => Rans P en d w q e w' := by
  have cT := take_at w P ts d en hR (by omega)
  have HR : Hid (Rd w P ts d en ∧ errs.Laid w) := ⟨hR, hL⟩
  clear hR hL
  obtain ⟨T, hT⟩ : ∃ T, T = hd en ts := ⟨_, rfl⟩
  rw [← hT] at cT
  have hTz : T.t.length ≤ 3000 := by
    rw [hT]
    cases ts with
    | nil => exact Nat.zero_le _
    | cons t r => exact hz t (by simp)
  have cN := Name_at (tx T.t)
  rw [L_tx, isN_nmb] at cN
  have cU := number_yes T.t
  have cA := at_at T
  unfold tkV at cT cA
  have htl := tl_tx T.t
  have hsz : (tx T.t).size = T.t.length := tx_size _
  have hone := one_is hq
  rw [← hT] at hone
  obtain ⟨o1, o2, o3, o4⟩ := hone
  clear hT
  have HNB := nb_is T.t
  obtain ⟨S, hS⟩ : ∃ S, S = tx T.t := ⟨_, rfl⟩
  rw [← hS] at cT cN cU cA htl hsz HNB
  have HS : Hid (S = tx T.t) := hS
  clear hS
  have new : ∀ (w3 : World) (o : Obj), Gp P w w3 → Rd w3 P ts.tail d en → Gp P w (w3.alloc o) ∧ Rd (w3.alloc o) P ts.tail d en := fun w3 o h1 h2 => ⟨h1.alloc o, h2.step ((Bl.refl _).alloc _)⟩
  go_enter Tryd.func48, Tryd.ntmps48
  go_wp2_with fail
  refine cT.mono ?_
  rintro e w2 ⟨rfl, hR2, hg2⟩
  have HR2 : Hid (Rd w2 P ts.tail d en ∧ Gp P w w2) := ⟨hR2, hg2⟩
  clear cT hR2 hg2
  by_cases h1 : isN T.t = true
  · have hq' := o1 h1
    rw [h1] at cN
    clear o1 o2 o3 o4 cR cU hq hz
    by_cases h12 : 12 < T.t.length
    · rw [if_pos h12] at hq'
      subst hq'
      rw [← hsz] at h12
      have h12' : (12 : Int) < ((S).size : Int) := by omega
      go_wp2_with fail
      refine (cN _).mono ?_
      rintro e w3 ⟨rfl, rfl⟩
      go_wp2_with fail
      refine (cA 4 _).mono ?_
      rintro e w4 ⟨B, rfl, hthr⟩
      obtain ⟨k1, k2, k3⟩ := AtX.of hthr
      have hb4 : Bl w2 w4 := ((Bl.refl _).alloc _).trans k3
      have hs4 : w2.heap.size ≤ B := Nat.le_trans (((Bl.refl w2).alloc (.cells #[.string (S), .int .i64 (T.a : Int)] 35)).size) k1
      go_wp2
      exact ⟨rfl, HR2.out.2.trans (Gp.bl hb4), B, rfl, Nat.le_trans HR2.out.2.size hs4, k2⟩
    · rw [if_neg h12] at hq'
      subst hq'
      rw [← hsz] at h12
      have h12' : ¬ (12 : Int) < ((S).size : Int) := by omega
      go_wp2_with fail
      refine (cN _).mono ?_
      rintro e w3 ⟨rfl, rfl⟩
      clear hsz
      go_wp2
      go_ret
      refine ⟨(HR2.out.2.alloc _).alloc _, _, rfl, ⟨_, rfl, ?_⟩, (HR2.out.1.step ((Bl.refl _).alloc _)).step ((Bl.refl _).alloc _)⟩
      rw [HS.out]
      exact two_new w2 _ _
  · rw [Bool.not_eq_true] at h1
    rw [h1] at cN
    by_cases h2 : isU T.t = true
    · have hq' := o2 h1 h2
      rw [h2] at cU
      have cM := fun w => digs.number_at S (nb T.t).1 (nb T.t).2 w (by omega) HNB
      clear o1 o2 o3 o4 cR hq hz hsz HNB
      by_cases h0 : (nb T.t).2 = 0
      · rw [if_pos h0] at hq'
        subst hq'
        have ei : digs.errI (nb T.t).2 = .nilIface := if_pos h0
        rw [ei] at cM
        obtain ⟨k, hk⟩ : ∃ k, k = (nb T.t).1 := ⟨_, rfl⟩
        rw [← hk] at cM
        have HK : Hid (k = (nb T.t).1) := hk
        clear hk ei h0
        go_wp2_with fail
        refine (cN _).mono ?_
        rintro e w3 ⟨rfl, rfl⟩
        go_wp2_with fail
        refine (cU _).mono ?_
        rintro e w3 ⟨rfl, rfl⟩
        go_wp2_with fail
        refine (cM _).mono ?_
        rintro e w3 ⟨rfl, rfl⟩
        go_wp2
        go_ret
        refine ⟨(HR2.out.2.alloc _).alloc _, _, rfl, ⟨_, rfl, ?_⟩, (HR2.out.1.step ((Bl.refl _).alloc _)).step ((Bl.refl _).alloc _)⟩
        rw [← HK.out]
        exact two_new w2 _ _
      · rw [if_neg h0] at hq'
        subst hq'
        have ei : digs.errI (nb T.t).2 = .iface 24 (.int .i64 (nb T.t).2) := if_neg h0
        rw [ei] at cM
        obtain ⟨k, hk⟩ : ∃ k, k = (nb T.t).2 := ⟨_, rfl⟩
        rw [← hk] at cM
        have HK : Hid (k = (nb T.t).2) := hk
        clear hk ei h0
        have cL := fun wx => errs.tell_errno k wx
        go_wp2_with fail
        refine (cN _).mono ?_
        rintro e w3 ⟨rfl, rfl⟩
        go_wp2_with fail
        refine (cU _).mono ?_
        rintro e w3 ⟨rfl, rfl⟩
        go_wp2_with fail
        refine (cM _).mono ?_
        rintro e w3 ⟨rfl, rfl⟩
        go_upto_region 9 with fail
        obtain ⟨W, hW⟩ : ∃ W, W = w2.alloc (.cells #[.string S, .int .i64 (T.a : Int)] 35) := ⟨_, rfl⟩
        have hWb : Bl w2 W := by rw [hW]; exact (Bl.refl _).alloc _
        have hn := new_at w2 (.cells #[.string S, .int .i64 (T.a : Int)] 35)
        rw [← hW] at hn
        have g0 : W.cell? ⟨w2.heap.size, 0, none⟩ = some (.string S) := by rw [cell_of hn]; rfl
        have g1 : W.cell? ⟨w2.heap.size, 1, none⟩ = some (.int .i64 (T.a : Int)) := by rw [cell_of hn]; rfl
        have HWL : Hid (errs.Laid W ∧ Bl w2 W) := ⟨(Laid.gp HR.out.2 HR2.out.2 hGP).bl hWb, hWb⟩
        have cL' : ∀ wx, Bl W wx → Calls Tryd.prog 21 #[.iface 24 (.int .i64 k)] wx fun e w' => e = .returned (.int .i64 k) ∧ Bl wx w' := fun wx hb => (errs.tell_errno k wx (HWL.out.1.bl hb)).mono (fun e w' h => ⟨h.1, h.2.bl⟩)
        obtain ⟨N, hN⟩ : ∃ N, N = w2.heap.size := ⟨_, rfl⟩
        rw [← hN] at g0 g1
        rw [← hW, ← hN]
        have HNW : Hid (N = w2.heap.size) := hN
        clear hW hn hWb hN cL cM cN cU
        refine wp_region_any (by kernel_rfl) ?_
        change wpAny _ _ _ _ _ _ _ (World.drew _)
        refine wpAny_take (i := 1) (v := ?_) rfl (by kernel_rfl) (by kernel_rfl) (by kernel_rfl) (fun _ _ _ h => h) (Or.inl ⟨by rfl, ?_⟩) ?_
        rotate_left
        · intro w
          go_simp
          rfl
        refine wpAny_ready (rs := [0, 2]) (by kernel_rfl) (by simp) ?_
        refine AllReady.cons rfl (fun K hK => ?_) (AllReady.cons rfl (fun K hK => ?_) AllReady.nil)
        · go_simp
          refine hK _ _ ?_
          clear hK K
          refine wpAny_ready (rs := [2]) (by kernel_rfl) (by simp) ?_
          refine AllReady.cons rfl (fun K hK => ?_) AllReady.nil
          go_simp
          refine (cL' _ (by first | exact Bl.refl _ | exact (Bl.refl _).drew)).mono ?_
          rintro e w4 ⟨rfl, hb4⟩
          have q0 := at_bl hb4 g0
          have q1 := at_bl hb4 g1
          have HB4 : Hid (Bl W w4) := ((Bl.refl W).drew).trans hb4
          clear hb4
          refine hK _ _ ?_
          clear hK K
          refine wpAny_ready (rs := [3]) (by kernel_rfl) (by simp) ?_
          refine AllReady.cons rfl (fun K hK => ?_) AllReady.nil
          go_simp
          refine (cA k _).mono ?_
          rintro e w5 ⟨B, rfl, hthr⟩
          obtain ⟨k1, k2, k3⟩ := AtX.of hthr
          refine hK _ _ ?_
          clear hK K
          refine wpAny_ready (rs := [4]) (by kernel_rfl) (by simp) ?_
          refine AllReady.cons rfl (fun K hK => ?_) AllReady.nil
          go_simp
          refine hK _ _ ?_
          clear hK K
          refine wpAny_ready (rs := [5]) (by kernel_rfl) (by simp) ?_
          refine AllReady.cons rfl (fun K hK => ?_) AllReady.nil
          go_simp
          clear hK K
          have hg5 : Gp P w w5 := ((HR2.out.2.trans (Gp.bl HWL.out.2)).trans (Gp.bl HB4.out)).trans (Gp.bl k3)
          have hs5 : w.heap.size ≤ B := Nat.le_trans ((HR2.out.2.trans (Gp.bl HWL.out.2)).trans (Gp.bl HB4.out)).size k1
          go_wp2
          refine ⟨rfl, hg5, B, rfl, hs5, ?_⟩
          rw [← HK.out]
          exact k2
        · go_simp
          refine (cL' _ (by first | exact Bl.refl _ | exact (Bl.refl _).drew)).mono ?_
          rintro e w4 ⟨rfl, hb4⟩
          have q0 := at_bl hb4 g0
          have q1 := at_bl hb4 g1
          have HB4 : Hid (Bl W w4) := ((Bl.refl W).drew).trans hb4
          clear hb4
          refine hK _ _ ?_
          clear hK K
          refine wpAny_ready (rs := [0]) (by kernel_rfl) (by simp) ?_
          refine AllReady.cons rfl (fun K hK => ?_) AllReady.nil
          go_simp
          refine hK _ _ ?_
          clear hK K
          refine wpAny_ready (rs := [3]) (by kernel_rfl) (by simp) ?_
          refine AllReady.cons rfl (fun K hK => ?_) AllReady.nil
          go_simp
          refine (cA k _).mono ?_
          rintro e w5 ⟨B, rfl, hthr⟩
          obtain ⟨k1, k2, k3⟩ := AtX.of hthr
          refine hK _ _ ?_
          clear hK K
          refine wpAny_ready (rs := [4]) (by kernel_rfl) (by simp) ?_
          refine AllReady.cons rfl (fun K hK => ?_) AllReady.nil
          go_simp
          refine hK _ _ ?_
          clear hK K
          refine wpAny_ready (rs := [5]) (by kernel_rfl) (by simp) ?_
          refine AllReady.cons rfl (fun K hK => ?_) AllReady.nil
          go_simp
          clear hK K
          have hg5 : Gp P w w5 := ((HR2.out.2.trans (Gp.bl HWL.out.2)).trans (Gp.bl HB4.out)).trans (Gp.bl k3)
          have hs5 : w.heap.size ≤ B := Nat.le_trans ((HR2.out.2.trans (Gp.bl HWL.out.2)).trans (Gp.bl HB4.out)).size k1
          go_wp2
          refine ⟨rfl, hg5, B, rfl, hs5, ?_⟩
          rw [← HK.out]
          exact k2
    · rw [Bool.not_eq_true] at h2
      rw [h2] at cU
      by_cases h40 : T.t = [40]
      · obtain ⟨q1, hr1, hq'⟩ := o3 h1 h2 h40
        subst hq'
        rw [h40] at htl
        have cI : ∀ wx, Rd wx P ts.tail d en → errs.Laid wx → Calls Tryd.prog 65 #[.pointer (some ⟨P, 0, none⟩), .agg #[.string S, .int .i64 (T.a : Int)]] wx fun e w' => Rans P en d wx (brk en T.a d q1) e w' := by
          intro wx hx hxl
          have := inner_at P en T d ts.tail q1 wx hx hxl hGP h8 (by rw [List.length_tail]; omega) (fun hne x r hxr => by
            rcases hr1 with h | h
            · exact absurd h hne
            · rw [hxr] at h
              have := (len_all f).1 _ _ _ _ _ h
              rw [List.length_tail] at this
              omega) (fun hne wy hy hyl => by
            rcases hr1 with h | h
            · exact absurd h hne
            · exact cR q1 (d + 1) ts.tail wy hy hyl (by omega) (by rw [List.length_tail]; omega) (fun t ht => hz t (List.mem_of_mem_tail ht)) h)
          unfold tkV at this
          rw [← HS.out] at this
          exact this
        clear hr1 cR hq hz
        clear o1 o2 o3 o4 hsz HNB
        go_wp2_with fail
        refine (cN _).mono ?_
        rintro e w3 ⟨rfl, rfl⟩
        go_wp2_with fail
        refine (cU _).mono ?_
        rintro e w3 ⟨rfl, rfl⟩
        go_wp2_with fail
        have hb3 : Bl w2 (w2.alloc (.cells #[.string S, .int .i64 (T.a : Int)] 35)) := (Bl.refl _).alloc _
        refine (cI _ (HR2.out.1.step hb3) ((Laid.gp HR.out.2 HR2.out.2 hGP).bl hb3)).mono ?_
        rintro e w4 ⟨hg4, hans⟩
        have hg04 : Gp P w w4 := (HR2.out.2.trans (Gp.bl hb3)).trans hg4
        cases hB : brk en T.a d q1 with
        | error cp =>
          obtain ⟨c, p⟩ := cp
          rw [hB] at hans
          obtain ⟨B, rfl, k1, k2⟩ := hans
          unfold thrown
          go_wp2
          refine ⟨rfl, ?_⟩
          rw [hB]
          exact ⟨hg04, B, rfl, Nat.le_trans HR2.out.2.size (Nat.le_trans hb3.size k1), k2⟩
        | ok xr =>
          obtain ⟨x, r⟩ := xr
          rw [hB] at hans
          obtain ⟨v, rfl, k1, k2⟩ := hans
          go_wp2
          go_ret
          rw [hB]
          exact ⟨hg04, v, rfl, k1, k2⟩
      · have hq' := o4 h1 h2 h40
        subst hq'
        have hb : (T.t == [40]) = false := by rw [beq_eq_false_iff_ne]; exact h40
        clear o1 o2 o3 o4 hsz HNB h40 cR hq hz
        go_wp2_with fail
        refine (cN _).mono ?_
        rintro e w3 ⟨rfl, rfl⟩
        go_wp2_with fail
        refine (cU _).mono ?_
        rintro e w3 ⟨rfl, rfl⟩
        go_wp2_with fail
        refine (cA 3 _).mono ?_
        rintro e w4 ⟨B, rfl, hthr⟩
        obtain ⟨k1, k2, k3⟩ := AtX.of hthr
        have hb4 : Bl w2 w4 := ((Bl.refl _).alloc _).trans k3
        have hs4 : w2.heap.size ≤ B := Nat.le_trans (((Bl.refl w2).alloc (.cells #[.string S, .int .i64 (T.a : Int)] 35)).size) k1
        go_wp2
        exact ⟨rfl, HR2.out.2.trans (Gp.bl hb4), B, rfl, Nat.le_trans HR2.out.2.size hs4, k2⟩
end Go.Proofs.YtfngcphklfjhjaaDoor.ex
