/- What put of package xxd answers, where a line can be read: the walk. -/
import Derived.Test.YtmchpmfogjhpoabDoorXl2
namespace Go.Proofs.YtmchpmfogjhpoabDoor.xl
set_option linter.unusedVariables false
open Go.ChangeShapes Go.WideShapes Go.ChangeAt Go.RowKit Go.Shelf
open mem rows bld
open dig (dv)

theorem BOwn.set {w : World} {base : Nat} {v : Value} {l : List Int} (h : BOwn w base v l) {j : Nat} (hj : j < l.length) (z : Int) : ∃ g c, v = .slice (some ⟨g, 0, none⟩) l.length c ∧ (∃ y, w.cell? ⟨g, j, none⟩ = some (.int .u8 y)) ∧ w.frozen? ⟨g, j, none⟩ = false ∧ base ≤ g ∧ BOwn (w.setCell ⟨g, j, none⟩ (.int .u8 z)) base v (l.set j z) := by
  obtain ⟨g, c, hv, hc, hf⟩ := h.cells hj
  refine ⟨g, c, hv, ⟨_, hc⟩, hf, (h.block g (by rw [hv]; rfl)).1, ?_⟩
  rcases h.2 with ⟨_, h0⟩ | ⟨g', cap, cur, h1, h2, h3, h4, h5, h6, h7⟩
  · omega
  · have e : g' = g ∧ cap = c := by
      rw [hv] at h1
      injection h1 with a1 a2 a3
      injection a1 with a1
      injection a1 with a1
      exact ⟨a1.symm, a3.symm⟩
    obtain ⟨rfl, rfl⟩ := e
    refine ⟨by simp, Or.inr ⟨g', cap, cur.setIfInBounds j (.int .u8 z), by rw [h1, List.length_set], h2, ?_, by rw [List.length_set]; exact h4, h5, by rw [Array.size_setIfInBounds]; exact h6, ?_⟩⟩
    · simp [World.setCell, Array.getElem?_modify, h3]
    · rw [List.length_set, Array.toList_setIfInBounds, List.take_set, h7, List.map_set]
/-- What is no row of bytes stays as it was. -/
structure Kr (w w' : World) : Prop where
  size : w.heap.size ≤ w'.heap.size
  same : ∀ (k : Nat) (o : Obj), w.heap[k]? = some o → (∀ c fz, o ≠ .cells c 5 fz) → w'.heap[k]? = some o
theorem Kr.refl (w : World) : Kr w w := ⟨Nat.le_refl _, fun _ _ h _ => h⟩
theorem Kr.trans {x y z : World} (h : Kr x y) (k : Kr y z) : Kr x z := ⟨Nat.le_trans h.size k.size, fun i o h1 h3 => k.same i o (h.same i o h1 h3) h3⟩
theorem Kr.bl {w w' : World} (h : Bl w w') : Kr w w' := ⟨h.size, fun k o hk _ => by rw [Below.block h k (lt_of_some hk)]; exact hk⟩
theorem Kr.grown {w w' : World} {base : Nat} {v : Value} {l : List Int} (h : BOwn w base v l) (hg : w.grownBy w' v.ownBlock) : Kr w w' := by
  refine ⟨hg.size, fun k o hk ho => ?_⟩
  rw [hg.block k (lt_of_some hk) (fun e => ?_)]
  · exact hk
  · obtain ⟨c, hc⟩ := h.typed e.symm
    rw [hk] at hc
    exact ho _ _ (Option.some.inj hc)
theorem Kr.set {w : World} {base g j : Nat} {v x : Value} {l : List Int} (h : BOwn w base v l) (hv : v.ownBlock = some g) : Kr w (w.setCell ⟨g, j, none⟩ x) := by
  refine ⟨by simp [World.setCell], fun k o hk ho => ?_⟩
  have hne : ¬ g = k := fun e => by
    obtain ⟨c, hc⟩ := h.typed hv
    rw [e, hk] at hc
    exact ho _ _ (Option.some.inj hc)
  simp [World.setCell, Array.getElem?_modify, hne, hk]
set_option maxHeartbeats 4000000 in
set_option maxRecDepth 100000 in
theorem put_at (x : ByteArray) (zs : List Nat) (v : Value) (t : List Int) (k : Nat) (p : Int) (w0 w : World) (hrd : Rd x 0 zs) (hk : k + zs.length ≤ 4000) (ht : t.length ≤ 4000) (hx : x.size ≤ 5000) (hb : Bl w0 w) (ho : BOwn w w0.heap.size v t) :
    Calls Tryd.prog 26 #[v, .int .i64 (k : Int), .string x, .int .i64 p] w fun e w' => ∃ v', e = .returned (.tuple #[v', .nilIface]) ∧ BOwn w' w0.heap.size v' (putL t k zs) ∧ Bl w0 w' ∧ Kr w w' := by
  obtain ⟨base, hbase⟩ : ∃ b, b = w0.heap.size := ⟨_, rfl⟩
  rw [← hbase] at ho ⊢
  obtain ⟨T, hT⟩ : ∃ T, T = putL t k zs := ⟨_, rfl⟩
  rw [← hT]
  have H0 : Hid (BOwn w base v t ∧ (Bl w0 w ∧ Kr w w) ∧ Rd x 0 zs ∧ putL t k zs = T) := ⟨ho, ⟨hb, Kr.refl _⟩, hrd, hT.symm⟩
  have HBA : Hid (base = w0.heap.size) := hbase
  clear hbase hT ho hb hrd
  go_enter Tryd.func26, Tryd.ntmps26
  go_wp2
  go_loopw [0, 1, 10, 11] (fun vv kv iv _ wr => ∃ (k i : Nat) (t : List Int) (zs : List Nat), kv = .int .i64 (k : Int) ∧ iv = .int .i64 (i : Int) ∧ i ≤ x.size + 1 ∧ k + zs.length ≤ 4000 ∧ t.length ≤ 4000 ∧ Hid (BOwn wr base vv t ∧ (Bl w0 wr ∧ Kr w wr) ∧ Rd x i zs ∧ putL t k zs = T)) (fun _ _ iv _ _ => x.size + 2 - (intOf iv).toNat)
  case atStart => exact ⟨k, 0, t, zs, rfl, rfl, Nat.zero_le _, hk, ht, H0⟩
  case round =>
    clear H0 hk ht k t zs v
    obtain ⟨k, i, t, zs, rfl, rfl, hi, hk, ht, H⟩ := hrel
    have HO : Hid (BOwn wr base u0 t ∧ (Bl w0 wr ∧ Kr w wr) ∧ putL t k zs = T) := ⟨H.out.1, H.out.2.1, H.out.2.2.2⟩
    have hrd := H.out.2.2.1
    clear H
    cases hrd with
    | fin _ h =>
      have hz : ¬ (i : Int) < x.size := by omega
      have HF : Hid (BOwn wr base u0 T ∧ Bl w0 wr ∧ Kr w wr) := ⟨by
        have := HO.out.2.2
        rw [putL] at this
        rw [← this]
        exact HO.out.1, HO.out.2.1⟩
      clear HO
      go_wp2
      go_ret2
      exact ⟨_, rfl, HF.out⟩
    | two _ h0 h1 h2 h3 =>
      have hz : (i : Int) < x.size := by omega
      have hlt : i < x.size := by omega
      have e1 : (((x[i]'hlt).toNat : Nat) : Int) = 32 := by rw [← sb_get x i hlt]; exact h2
      have hz0 : (0 : Int) < (i : Int) := by omega
      have hz0d : decide ((0 : Int) < (i : Int)) = true := decide_eq_true hz0
      have cP := fun w => prefix_at (x.extract i x.size) w (by rw [ByteArray.size_extract]; omega) (by rw [sb_tail x i 0 (by omega)]; exact h2)
      rw [decide_eq_true ⟨by rw [ByteArray.size_extract]; omega, by rw [sb_tail x i 1 h1]; exact h3⟩] at cP
      have HF : Hid (BOwn wr base u0 T ∧ Bl w0 wr ∧ Kr w wr) := ⟨by
        have := HO.out.2.2
        rw [putL] at this
        rw [← this]
        exact HO.out.1, HO.out.2.1⟩
      have g1 : (i : Int) ≤ (x.size : Int) := by omega
      clear HO h2 h3
      go_wp2_with (go_at_call 43; refine (cP _).mono ?_; rintro e w1 ⟨rfl, rfl⟩)
      go_ret2
      exact ⟨_, rfl, HF.out⟩
    | one _ _ h0 h1 h2 h3 =>
      have hz : (i : Int) < x.size := by omega
      have e1 : (((x[i]'h0).toNat : Nat) : Int) = 32 := by rw [← sb_get x i h0]; exact h1
      have HR : Hid (Rd x (i + 1) zs) := h3
      by_cases h4 : i = 0
      · subst h4
        clear h1 h2 h3
        go_wp2
        go_roundw
        case rel => exact ⟨k, 1, t, zs, rfl, by go_num, by omega, hk, ht, ⟨HO.out.1, HO.out.2.1, HR.out, HO.out.2.2⟩⟩
        case measure => simp [intOf]
      · have h5 : ¬ (i + 1 < x.size ∧ sb x (i + 1) = 32) := by
          rcases h2 with h | h
          · exact absurd h h4
          · exact h
        have hz0 : (0 : Int) < (i : Int) := by omega
        have hz0d : decide ((0 : Int) < (i : Int)) = true := decide_eq_true hz0
        have cP := fun w => prefix_at (x.extract i x.size) w (by rw [ByteArray.size_extract]; omega) (by rw [sb_tail x i 0 (by omega)]; exact h1)
        rw [decide_eq_false (fun h => h5 (by
          have h6 : i + 1 < x.size := by have := h.1; rw [ByteArray.size_extract] at this; omega
          refine ⟨h6, ?_⟩
          rw [← sb_tail x i 1 h6]
          exact h.2))] at cP
        have g1 : (i : Int) ≤ (x.size : Int) := by omega
        clear h1 h2 h3 h5
        go_wp2_with (go_at_call 43; refine (cP _).mono ?_; rintro e w1 ⟨rfl, rfl⟩)
        go_roundw
        case rel => exact ⟨k, i + 1, t, zs, rfl, by go_num, by omega, hk, ht, ⟨HO.out.1, HO.out.2.1, HR.out, HO.out.2.2⟩⟩
        case measure => simp [intOf]; omega
    | byte _ h l zs' h0 h1 h2 h3 h4 =>
      have hz : (i : Int) < x.size := by omega
      have hlt : i < x.size := by omega
      have e1 : (((x[i]'hlt).toNat : Nat) : Int) = sb x i := (sb_get x i hlt).symm
      have e2 : (sb x i == 32) = false := by rw [beq_eq_false_iff_ne]; exact h1
      have hh := dv_bd (sb x i)
      have hl := dv_bd (sb x (i + 1))
      have cP := fun w => pair_at (x.extract i x.size) h l w (by rw [ByteArray.size_extract]; omega) (by rw [ByteArray.size_extract]; omega) (by rw [sb_tail x i 0 (by omega)]; exact h2) (by rw [sb_tail x i 1 h0]; exact h3)
      obtain ⟨z, hze⟩ : ∃ z, z = h * 16 + l := ⟨_, rfl⟩
      rw [← hze] at cP
      have hzb : z < 256 := by omega
      have hz0 : ¬ (z : Int) < 0 := by omega
      have hk0 : k < 4000 := by simp only [List.length_cons] at hk; omega
      have hkz : ¬ (4000 : Int) ≤ (k : Int) := by omega
      have HR : Hid (Rd x (i + 2) zs' ∧ putL ((padL t k).set k (z : Int)) (k + 1) zs' = T ∧ k + 1 + zs'.length ≤ 4000) := ⟨h4, by
        have := HO.out.2.2
        rw [putL, ← hze] at this
        exact this, by simp only [List.length_cons] at hk; omega⟩
      have g1 : (i : Int) ≤ (x.size : Int) := by omega
      have hzm : (z : Int) % 256 = (z : Int) := by omega
      clear h1 h2 h3 h4 hh hl hze hk
      generalize sb x i = y at *
      go_wp2_with fail
      refine (cP _).mono ?_
      rintro e w1 ⟨rfl, hd1⟩
      have HO1 : Hid (BOwn w1 base u0 t ∧ (Bl w0 w1 ∧ Kr w w1)) := ⟨HO.out.1.step hd1.bl, HO.out.2.1.1.trans hd1.bl, HO.out.2.1.2.trans (Kr.bl hd1.bl)⟩
      clear cP hd1 HO
      go_wp2
      go_loopw [0] (fun vv wr => ∃ m : Nat, t.length + m ≤ max t.length (k + 1) ∧ Hid (BOwn wr base vv (t ++ List.replicate m 0) ∧ (Bl w0 wr ∧ Kr w wr))) (fun vv _ => k + 1 - (match vv with | .slice _ n _ => n | _ => 0))
      case atStart => exact ⟨0, by omega, ⟨by rw [List.replicate_zero, List.append_nil]; exact HO1.out.1, HO1.out.2⟩⟩
      case round =>
        clear HO1
        obtain ⟨m, hm, HM⟩ := hrel
        have hml : (t ++ List.replicate m (0 : Int)).length = t.length + m := by rw [List.length_append, List.length_replicate]
        obtain ⟨q, cp, hv⟩ := HM.out.1.slice
        obtain ⟨n, hn⟩ : ∃ n, n = t.length + m := ⟨_, rfl⟩
        rw [hml, ← hn] at hv
        subst hv
        by_cases hnk : n ≤ k
        · have hnz : (n : Int) ≤ (k : Int) := by omega
          obtain ⟨v', w', hr, ho', hg'⟩ := app_lit wr base (.slice q n cp) (t ++ List.replicate m 0) [0] HM.out.1 (by rw [hml]; simp; omega) (by rw [HBA.out]; exact HM.out.2.1.size)
          have hrep : t ++ List.replicate m (0 : Int) ++ [0] = t ++ List.replicate (m + 1) 0 := by rw [List.replicate_succ', List.append_assoc]
          rw [hrep] at ho'
          obtain ⟨q', cp', hv'⟩ := ho'.slice
          have hml' : (t ++ List.replicate (m + 1) (0 : Int)).length = n + 1 := by rw [List.length_append, List.length_replicate]; omega
          rw [hml'] at hv'
          subst hv'
          have HF : Hid (BOwn w' base (.slice q' (n + 1) cp') (t ++ List.replicate (m + 1) 0) ∧ (Bl w0 w' ∧ Kr w w')) := ⟨ho', bl_grown (HM.out.2.1.trans ((Bl.refl _).alloc _)) hg' (fun j e => by rw [← HBA.out]; exact (HM.out.1.block j e).1), (HM.out.2.2.trans (Kr.bl ((Bl.refl _).alloc _))).trans (Kr.grown (HM.out.1.step ((Bl.refl _).alloc _)) hg')⟩
          have HR1 : Hid _ := hr
          have HN : Hid (n = t.length + m) := hn
          clear hr ho' hg' hrep hml hml' hn HM
          go_wp2_with (at_builtin; refine Lib.wpList_append_run _ rfl (.tmp 49) (.tmp 50) _ _ rfl _ _ rfl rfl _ _ HR1.out ?_)
          go_roundw
          case rel => exact ⟨m + 1, by have := HN.out; omega, HF⟩
          case measure => show k + 1 - (n + 1) < k + 1 - n; omega
        · have hnz : ¬ (n : Int) ≤ (k : Int) := by omega
          have hpad : t ++ List.replicate m (0 : Int) = padL t k := by
            unfold padL
            rw [show m = k + 1 - t.length by omega]
          obtain ⟨g, c, hv, ⟨y0, hc0⟩, hf0, hbg, hset⟩ := BOwn.set HM.out.1 (j := k) (by rw [hml]; omega) (z : Int)
          rw [hml, ← hn] at hv
          injection hv with hq _ hcc
          subst hq
          subst hcc
          rw [hpad] at hset
          have HF : Hid (BOwn (wr.setCell ⟨g, k, none⟩ (.int .u8 (z : Int))) base (.slice (some ⟨g, 0, none⟩) n cp) ((padL t k).set k (z : Int)) ∧ (Bl w0 (wr.setCell ⟨g, k, none⟩ (.int .u8 (z : Int))) ∧ Kr w (wr.setCell ⟨g, k, none⟩ (.int .u8 (z : Int))))) := ⟨hset, HM.out.2.1.setCell (by rw [← HBA.out]; exact hbg) _, HM.out.2.2.trans (Kr.set HM.out.1 rfl)⟩
          have hkn : (k : Int) < (n : Int) := by omega
          have hpl := padL_len t k
          have HPL : Hid (((padL t k).set k (z : Int)).length ≤ 4000) := by unfold Hid; rw [List.length_set]; omega
          clear hset hpad hml hn HM hpl
          go_wp2
          go_roundw
          case rel => exact ⟨k + 1, i + 2, _, zs', by go_num, by go_num, by omega, HR.out.2.2, HPL.out, ⟨HF.out.1, HF.out.2, HR.out.1, HR.out.2.1⟩⟩
          case measure => simp [intOf]; omega
/-- A world's first blocks alone. -/
def cutW (w : World) (n : Nat) : World := { w with heap := w.heap.extract 0 n }
theorem cutW_size (w : World) (n : Nat) (h : n ≤ w.heap.size) : (cutW w n).heap.size = n := by
  show (w.heap.extract 0 n).size = n
  rw [Array.size_extract]
  omega
theorem cutW_bl (w : World) (n : Nat) (h : n ≤ w.heap.size) : Bl (cutW w n) w := by
  refine ⟨rfl, rfl, rfl, by rw [cutW_size w n h]; exact h, fun k hk => ?_⟩
  rw [cutW_size w n h] at hk
  show w.heap[k]? = (w.heap.extract 0 n)[k]?
  rw [Array.getElem?_extract]
  simp [hk, h]
theorem cutW_below {w w' : World} {n : Nat} (h : n ≤ w.heap.size) (hb : Bl (cutW w n) w') (hz : w.heap.size ≤ w'.heap.size) : Below n w w' := by
  have hs := cutW_size w n h
  have h0 := cutW_bl w n h
  refine ⟨hb.os, hb.tape, hb.output, hz, fun k hk => ?_⟩
  have h1 := hb.block k (by rw [hs]; exact hk)
  have h2 := h0.block k (by rw [hs]; exact hk)
  rw [h1, h2]
theorem put_base (x : ByteArray) (zs : List Nat) (v : Value) (t : List Int) (k : Nat) (p : Int) (base : Nat) (w : World) (hrd : Rd x 0 zs) (hk : k + zs.length ≤ 4000) (ht : t.length ≤ 4000) (hx : x.size ≤ 5000) (hb : base ≤ w.heap.size) (ho : BOwn w base v t) :
    Calls Tryd.prog 26 #[v, .int .i64 (k : Int), .string x, .int .i64 p] w fun e w' => ∃ v', e = .returned (.tuple #[v', .nilIface]) ∧ BOwn w' base v' (putL t k zs) ∧ Below base w w' ∧ Kr w w' := by
  have hs := cutW_size w base hb
  refine (put_at x zs v t k p (cutW w base) w hrd hk ht hx (cutW_bl w base hb) (by rw [hs]; exact ho)).mono ?_
  rintro e w' ⟨v', rfl, h1, h2, h3⟩
  rw [hs] at h1
  exact ⟨v', rfl, h1, cutW_below hb h2 h3.size, h3⟩
end Go.Proofs.YtmchpmfogjhpoabDoor.xl
