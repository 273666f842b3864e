/- What treeOf of package find answers. -/
import Derived.Test.YtehmjffbfgnijabDoorFg5
import Derived.Test.YtehmjffbfgnijabDoorFd4
import Derived.Deep.RegionHeld3
namespace Go.Proofs.YtehmjffbfgnijabDoor.tree
set_option linter.unusedVariables false
open Go.ChangeShapes Go.WideShapes Go.ChangeAt Go.RowKit Go.Maps
open mem rows fd

/-- To which beginning each pattern has come. -/
def rowC (C : Nat → Nat) (K : Nat) : List Int := (List.range K).map fun q => ((C q : Nat) : Int)
theorem rowC_len (C : Nat → Nat) (K : Nat) : (rowC C K).length = K := by simp [rowC]
theorem rowC_at (C : Nat → Nat) (K k : Nat) (h : k < K) : (rowC C K).getD k 0 = ((C k : Nat) : Int) := by simp [rowC, h]
theorem rowC_set (C : Nat → Nat) (K k j : Nat) (h : k < K) : (rowC C K).set k (j : Int) = rowC (fun q => if q = k then j else C q) K := by
  apply List.ext_getElem
  · simp [rowC]
  · intro i h1 h2
    have hi : i < K := by simpa [rowC] using h2
    rw [List.getElem_set]
    by_cases e : k = i
    · subst e; simp [rowC]
    · rw [if_neg e]
      have : ¬ i = k := fun h => e h.symm
      simp [rowC, this]
theorem rowC_zero (K : Nat) : rowC (fun _ => 0) K = List.replicate K 0 := by
  apply List.ext_getElem
  · simp [rowC]
  · intro i h1 h2
    simp [rowC]
theorem row_fr {w w' : World} {B base : Nat} {l : List Int} (h : RowI w B l) (hf : Fr w w' base) : RowI w' B l := by
  have := h.lt
  unfold RowI at h ⊢
  rw [hf.block B this (Or.inr ⟨_, _, h⟩)]
  exact h
theorem TR.setInt {w : World} {base m n Bc k : Nat} {v x : Value} {tx : Nat → List Int} {E W : Nat → Nat} {lv : Nat → Value} {l : List Int} (h : TR w base v m tx E W lv n) (hr : RowI w Bc l) : TR (w.setCell ⟨Bc, k, none⟩ x) base v m tx E W lv n := by
  have hg := setCell_grown w Bc k x
  refine ⟨h.tr, h.row.kept hg (fun q e1 e2 => ?_), fun i hi => (h.leads i hi).kept hg (fun b hb e => ?_), h.apart⟩
  · injection e2 with e2
    subst e2
    obtain ⟨g, cap, rfl, _⟩ := h.row.shape h.tr.pos
    have : g = Bc := by simpa [Value.ownBlock] using e1
    subst this
    exact h.row.not_int _ _ hr
  · injection e with e
    subst e
    rcases h.leads i hi with ⟨h1, _⟩ | ⟨b', h1, _, h3⟩
    · rw [h1] at hb; cases hb
    · rw [h1] at hb
      injection hb with hb
      injection hb with hb
      subst hb
      exact h3.not_cells _ _ _ hr
/-- The number of a beginning is written. -/
theorem TR.setWhole {w : World} {base m n g cap j z : Nat} {tx : Nat → List Int} {E W : Nat → Nat} {lv : Nat → Value} (h : TR w base (.slice (some ⟨g, 0, none⟩) m cap) m tx E W lv n) (hj : j < m) :
    TR (w.setCell ⟨g, j * 3 + 2, none⟩ (.int .u64 (z : Int))) base (.slice (some ⟨g, 0, none⟩) m cap) m tx E (fun i => if i = j then z else W i) lv n := by
  have hg := setCell_grown w g (j * 3 + 2) (.int .u64 (z : Int))
  refine ⟨h.tr, OwnT.set h.row _ _ (by omega) (rowT_set2 lv E W m j z hj), fun i hi => (h.leads i hi).kept hg (fun b hb e => ?_), h.apart⟩
  injection e with e
  subst e
  rcases h.leads i hi with ⟨h1, _⟩ | ⟨b', h1, _, h3⟩
  · rw [h1] at hb; cases hb
  · rw [h1] at hb
    injection hb with hb
    injection hb with hb
    subst hb
    obtain ⟨g', cap', hsl, _, _, ⟨cur, hcur⟩, _⟩ := h.row.shape h.tr.pos
    injection hsl with e1
    injection e1 with e1
    injection e1 with e1
    subst e1
    exact h3.not_cells _ _ _ hcur
theorem row_other {w : World} {B g k : Nat} {l : List Int} {v : Value} (h : RowI w B l) (hne : g ≠ B) : RowI (w.setCell ⟨g, k, none⟩ v) B l := by
  unfold RowI at h ⊢
  simp [World.setCell, Array.getElem?_modify, hne, h]
/-- The tree that there is at first. -/
theorem TR.one (w : World) (o : Nat) : TR (w.alloc (.cells #[.map none, .int .i64 0, .int .u64 0] 54)) w.heap.size (.slice (some ⟨w.heap.size, 0, none⟩) 1 1) 1 (fun _ => []) (fun _ => 0) (fun _ => 0) (fun _ => .map none) o := by
  refine ⟨Tr.one, ?_, fun i hi => Or.inl ⟨rfl, fun c _ => ?_⟩, fun i j b _ _ h _ => by cases h⟩
  · exact World.ownsRow_lit w #[.map none, .int .i64 0, .int .u64 0] 1 (Nat.le_refl _) (by unfold maxLen; decide) rfl
  · show ix (fun _ => []) 1 ([] ++ [c]) = none
    cases h : ix (fun _ => ([] : List Int)) 1 ([] ++ [c]) with
    | none => rfl
    | some j => have := (ix_some h).2; simp at this
/-- What treeOf answers. -/
def TreeAns (ps : List ByteArray) (w w' : World) (e : Ending) : Prop := ∃ v m tx E W lv, e = .returned v ∧ TR w' w.heap.size v m tx E W lv m ∧ m ≤ 2000 ∧ Bl w w' ∧
      (∀ k, k < ps.length → ∃ j, j < m ∧ tx j = pt (ps.getD k .empty)) ∧ (∀ j, j < m → W j < 18446744073709551616 ∧ ∀ k, (W j).testBit k = true ↔ k < ps.length ∧ pt (ps.getD k .empty) <:+ tx j)
set_option maxRecDepth 20000 in
set_option maxHeartbeats 4000000 in
theorem treeOf_at (q : Option Addr) (cp : Nat) (ps : List ByteArray) (w : World) (hin : InT w q ps) (hK : ps.length ≤ 60) (hp : ∀ k, k < ps.length → 0 < (ps.getD k .empty).size ∧ (ps.getD k .empty).size ≤ 30) :
    Calls Tryd.prog 16 #[.slice q ps.length cp] w fun e w' => TreeAns ps w w' e := by
  obtain ⟨P, hP⟩ : ∃ P : Nat → List Int, P = fun k => pt (ps.getD k .empty) := ⟨_, rfl⟩
  obtain ⟨K, hKe⟩ : ∃ K, K = ps.length := ⟨_, rfl⟩
  have HIN : Hid (InT w q ps) := hin
  have HP : Hid _ := hP
  have HS : Hid (∀ k, k < K → 0 < (ps.getD k .empty).size ∧ (ps.getD k .empty).size ≤ 30) := by rw [hKe]; exact hp
  have HK : Hid (K = ps.length) := hKe
  rw [← hKe] at hK ⊢
  clear hin hp hP hKe
  have HPL : Hid (∀ k, (P k).length = (ps.getD k .empty).size) := fun k => by rw [HP.out]; exact pt_len _
  have hmk := fun w => run_make_row' (P := Tryd.prog) 32 3 (.int .i64 0) 8 Tryd.underlying32 infoI rfl .i64 .i64 K (by omega) (by omega) w
  have hT0 := TR.one w 1
  obtain ⟨w1, hw1⟩ : ∃ w1, w1 = w.alloc (.cells #[.map none, .int .i64 0, .int .u64 0] 54) := ⟨_, rfl⟩
  have hr0 := RowI.made w1 K
  have hb1 : Bl w w1 := by rw [hw1]; exact (Bl.refl w).alloc _
  have hsz1 : w1.heap.size = w.heap.size + 1 := by rw [hw1]; simp
  rw [← rowC_zero] at hr0
  rw [← hw1] at hT0
  rw [hsz1] at hr0
  have hT1 := hT0.step ((Bl.refl w1).alloc (.cells (madeCells #[.int .i64 0] K) 3))
  have hb2 : Bl w (w1.alloc (.cells (madeCells #[.int .i64 0] K) 3)) := hb1.alloc _
  have HR0 : Hid (RowI (w1.alloc (.cells (madeCells #[.int .i64 0] K) 3)) (w.heap.size + 1) (rowC (fun _ => 0) K)) := hr0
  have HT1 : Hid _ := hT1
  have HB2 : Hid (Bl w (w1.alloc (.cells (madeCells #[.int .i64 0] K) 3))) := hb2
  have HW1 : Hid _ := hw1
  clear hr0 hT0 hT1 hb1 hb2 hsz1 hw1
  go_enter Tryd.func16, Tryd.ntmps16
  go_wp2
  rw [← HW1.out]
  generalize w1.alloc (.cells (madeCells #[.int .i64 0] K) 3) = w2 at *
  clear HW1 hmk
  go_loop [5, 18] (fun lg iv => ∃ k L : Nat, k ≤ K ∧ iv = .int .i64 (k : Int) ∧ lg = .int .i64 (L : Int) ∧ L ≤ 30 ∧ Hid (∀ q, q < k → (ps.getD q .empty).size ≤ L)) (fun _ iv => K - (intOf iv).toNat)
  case atStart => exact ⟨0, 0, Nat.zero_le _, rfl, rfl, by omega, fun q hq => absurd hq (Nat.not_lt_zero _)⟩
  case round =>
    obtain ⟨k, L, hk, rfl, rfl, hL, HQ⟩ := hrel
    by_cases hlt : k < K
    · have hlz : (k : Int) < (K : Int) := by omega
      obtain ⟨x, rfl, hcx⟩ := (HIN.out.step HB2.out).at k (by rw [← HK.out]; exact hlt)
      have hsk := (HS.out k hlt).2
      have HQ2 : Hid (∀ q, q < k + 1 → (ps.getD q .empty).size ≤ max L (ps.getD k .empty).size) := fun j hj => by
        rcases Nat.lt_or_ge j k with h | h
        · have := HQ.out j h; omega
        · obtain rfl : j = k := by omega
          omega
      generalize ps.getD k .empty = pk at hcx hsk HQ2
      obtain ⟨L2, hL2⟩ : ∃ L2, L2 = max L pk.size := ⟨_, rfl⟩
      rw [← hL2] at HQ2
      have hmax : (if L < pk.size then (pk.size : Int) else (L : Int)) = (L2 : Int) := by split <;> omega
      have hL3 : L2 ≤ 30 := by omega
      clear hL2 HQ
      go_wp2
      go_round
      case rel => exact ⟨k + 1, L2, by omega, by go_num, rfl, hL3, HQ2⟩
      case measure => simp [intOf]; omega
    · have hnl : ¬ ((k : Int) < (K : Int)) := by omega
      have HQ2 : Hid (∀ q, q < K → (ps.getD q .empty).size ≤ L) := fun j hj => HQ.out j (by omega)
      clear HQ
      have HU0 : Hid (Up P K 0 0 1 (fun _ => []) (fun _ => 0) (fun _ => 0)) := Up.start P K (fun q hq => by rw [HPL.out]; exact (HS.out q hq).1)
      obtain ⟨B, hB⟩ : ∃ B, B = w.heap.size := ⟨_, rfl⟩
      rw [← hB] at HR0 HT1 ⊢
      have HB : Hid (B = w.heap.size) := hB
      clear hB
      go_wp2
      go_loopw [3, 28] (fun tv iv wr => ∃ (i m : Nat) (tx : Nat → List Int) (E W : Nat → Nat) (lv : Nat → Value) (C : Nat → Nat), i ≤ L ∧ iv = .int .i64 (i : Int) ∧ Hid (TR wr B tv m tx E W lv m) ∧ Hid (Up P K i 0 m tx W C) ∧ m ≤ 1 + i * 60 ∧ Hid (RowI wr (B + 1) (rowC C K)) ∧ Bl w wr) (fun _ iv _ => L - (intOf iv).toNat)
      case atStart => exact ⟨0, 1, _, _, _, _, _, Nat.zero_le _, rfl, HT1, HU0, by omega, HR0, HB2.out⟩
      case round =>
        clear HR0 HT1 HU0
        obtain ⟨i, m, tx, E, W, lv, C, hi, rfl, HT, HU, hm, HR, hbl⟩ := hrel
        by_cases hli : i < L
        · have hlz : (i : Int) < (L : Int) := by omega
          rename World => wq
          go_wp2
          go_loopw [3, 33] (fun tv kv wr => ∃ (k m : Nat) (tx : Nat → List Int) (E W : Nat → Nat) (lv : Nat → Value) (C : Nat → Nat), k ≤ K ∧ kv = .int .i64 (k : Int) ∧ Hid (TR wr B tv m tx E W lv m) ∧ Hid (Up P K i k m tx W C) ∧ m ≤ 1 + i * 60 + k ∧ Hid (RowI wr (B + 1) (rowC C K)) ∧ Bl w wr) (fun _ kv _ => K - (intOf kv).toNat)
          case atStart => exact ⟨0, m, tx, E, W, lv, C, Nat.zero_le _, rfl, HT, HU, by omega, HR, hbl⟩
          case round =>
            clear HT HU HR hbl hm
            obtain ⟨k, m, tx, E, W, lv, C, hk, rfl, HT, HU, hm, HR, hbl⟩ := hrel
            by_cases hlk : k < K
            · have hkz : (k : Int) < (K : Int) := by omega
              obtain ⟨x, rfl, hcx⟩ := (HIN.out.step hbl).at k (by rw [← HK.out]; exact hlk)
              have hsk := HS.out k hlk
              obtain ⟨pk, hpk⟩ : ∃ pk, pk = ps.getD k .empty := ⟨_, rfl⟩
              rw [← hpk] at hcx hsk
              have hPk : P k = pt pk := by rw [HP.out, hpk]
              have HPK : Hid (P k = pt pk) := hPk
              clear hpk hPk
              by_cases hil : pk.size ≤ i
              · have hiz : (pk.size : Int) ≤ (i : Int) := by omega
                have HU2 : Hid (Up P K i (k + 1) m tx W C) := HU.out.skip (by rw [HPK.out, pt_len]; exact hil)
                go_wp2
                go_roundw
                case rel => exact ⟨k + 1, m, tx, E, W, lv, C, by omega, by go_num, HT, HU2, by omega, HR, hbl⟩
                case measure => simp [intOf]; omega
              · have hiz : ¬ (pk.size : Int) ≤ (i : Int) := by omega
                have hip : i < pk.size := by omega
                have hgk : (((pk[i]'hip).toNat : Nat) : Int) = sb pk i := (sb_get pk i hip).symm
                have hbd := sb_bd pk i
                have hlen := rowC_len C K
                have hcome := HU.out.come k hlk
                rw [if_neg (Nat.lt_irrefl k), HPK.out] at hcome
                have htk : tx (C k) ++ [sb pk i] = (P k).take (i + 1) := by rw [HPK.out, pt_next pk i hip, hcome.2]
                have HTK : Hid _ := htk
                have htl : (tx (C k)).length = i := by rw [hcome.2, List.length_take, pt_len]; omega
                have HTL : Hid _ := htl
                have hc0 := HR.out.cell (j := k) (by rw [hlen]; exact hlk)
                rw [rowC_at C K k hlk] at hc0
                have hf0 := HR.out.frozen k
                have hck := hcome.1
                obtain ⟨c, hc⟩ : ∃ c, c = sb pk i := ⟨_, rfl⟩
                rw [← hc] at hgk hbd HTK
                clear htk htl hlen hcome hc
                cases hix : ix tx m (tx (C k) ++ [c]) with
                | some j =>
                  have HIX : Hid _ := hix
                  have cW := with_old u3 m tx E W lv m B (C k) j c wr.drew (HT.out.step (Bl.drew (Bl.refl wr))) hck hbd (by omega) hix
                  obtain ⟨Ck, hCk⟩ : ∃ Ck, Ck = C k := ⟨_, rfl⟩
                  rw [← hCk] at cW hc0
                  clear hCk hix
                  go_wp2
                  go_region_with (go_at_call 28; refine cW.mono ?_; rintro e w3 ⟨rfl, rfl⟩)
                  all_goals (
                    obtain ⟨WW, hWW⟩ : ∃ WW, WW = (wr.setCell ⟨B + 1, k, none⟩ (.int .i64 (j : Int))).drew := ⟨_, rfl⟩
                    have HT3 : Hid (TR WW B u3 m tx E W lv m) := by rw [hWW]; exact TR.step (HT.out.setInt HR.out) (Bl.drew (Bl.refl _))
                    have HR3 : Hid (RowI WW (B + 1) (rowC (fun q => if q = k then j else C q) K)) := by rw [hWW]; exact (by have h := HR.out.set k (j : Int); rw [rowC_set C K k j hlk] at h; exact h)
                    have HM3 : Hid (Mid P K i k m tx W (fun q => if q = k then j else C q)) := HU.out.mid_old (ix_some HIX.out).1 (by rw [(ix_some HIX.out).2, HTK.out])
                    have hbl3 : Bl w WW := by rw [hWW]; exact (hbl.setCell (by show w.heap.size ≤ B + 1; rw [HB.out]; exact Nat.le_succ _) _).drew
                    have hm3 : m ≤ 1 + i * 60 + (k + 1) := by omega
                    rw [← hWW]
                    clear hWW
                    by_cases hend : i + 1 = pk.size
                    · have hz1 : ((i : Int) == (pk.size : Int) - 1) = true := by rw [beq_iff_eq]; omega
                      obtain ⟨g, cap, hsl, hBg, hgl, ⟨cur, hcur⟩, hcs⟩ := HT3.out.row.shape HT3.out.tr.pos
                      have hJ := (HM3.out.come k hlk).1
                      rw [if_pos rfl] at hJ
                      have r0 := HR3.out.cell (j := k) (by rw [rowC_len]; exact hlk)
                      rw [rowC_at _ K k hlk, if_pos rfl] at r0
                      have r2 := (hcs j hJ).2.2
                      have hgB : g ≠ B + 1 := fun h => by
                        have h1 := HR3.out
                        unfold RowI at h1
                        rw [← h, hcur] at h1
                        injection h1 with h1
                        injection h1 with _ h2
                        revert h2
                        decide
                      have HU3 : Hid (Up P K i (k + 1) m tx (fun q => if q = j then W j ||| 2 ^ k else W q) (fun q => if q = k then j else C q)) := by
                        have h := HM3.out.whole HT3.out.tr hlk (by omega) (by rw [HPK.out, pt_len]; exact hend)
                        rw [if_pos rfl] at h
                        have e : (fun q => if q = j then W j ||| 2 ^ k else W q) = fun q => if q = j then W q ||| 2 ^ k else W q := by
                          funext q
                          by_cases hq : q = j
                          · rw [if_pos hq, if_pos hq, hq]
                          · rw [if_neg hq, if_neg hq]
                        rw [Hid, e]
                        exact h
                      have hWl := HM3.out.lt j hJ
                      have hor := find.or_k (W j) k hWl (by omega)
                      have hjz : 0 ≤ ((j : Nat) : Int) ∧ ((j : Nat) : Int) < ((m : Nat) : Int) := by omega
                      have HBG : Hid (B ≤ g) := hBg
                      rw [hsl] at HT3
                      have hfz := HT3.out.row.frozen (j * 3 + 2)
                      have HT4 : Hid _ := HT3.out.setWhole (z := W j ||| 2 ^ k) hJ
                      have HR4 : Hid _ := row_other (k := j * 3 + 2) (v := .int .u64 ((W j ||| 2 ^ k : Nat) : Int)) HR3.out hgB
                      generalize W j ||| 2 ^ k = Z at *
                      generalize hwz : W j = Y at r2 hor hWl
                      clear hwz HT3 HR3 HM3 hcs hcur hgl hBg hend
                      subst hsl
                      go_wp2
                      go_region
                      all_goals (
                        go_wp2
                        go_roundw
                        case rel => exact ⟨k + 1, m, tx, E, (fun q => if q = j then Z else W q), lv, _, by omega, by go_num, HT4.out.step (Bl.drew (Bl.refl _)), HU3, hm3, HR4, (hbl3.setCell (by show w.heap.size ≤ _; rw [← HB.out]; exact HBG.out) _).drew⟩
                        case measure => simp [intOf]; omega)
                    · have hz1 : ((i : Int) == (pk.size : Int) - 1) = false := by rw [beq_eq_false_iff_ne]; omega
                      have HU3 : Hid (Up P K i (k + 1) m tx W (fun q => if q = k then j else C q)) := HM3.out.on (by rw [HPK.out, pt_len]; omega)
                      go_wp2
                      go_roundw
                      case rel => exact ⟨k + 1, m, tx, E, W, lv, _, by omega, by go_num, HT3, HU3, hm3, HR3, hbl3⟩
                      case measure => simp [intOf]; omega)
                | none =>
                  have HIX : Hid _ := hix
                  have cW := with_new u3 m tx E W lv m B (C k) c wr.drew (HT.out.step (Bl.drew (Bl.refl wr))) hck hbd (by omega) (by omega) hix (fun q hq => by have := HU.out.lens q hq; rw [HTL.out]; exact this) (by rw [HB.out]; exact hbl.size)
                  have HTN : Hid (tx (C k) ++ [c] = (P k).take (i + 1)) := HTK.out
                  have HTN2 : Hid ((tx (C k) ++ [c]).length = i + 1) := by rw [Hid, List.length_append, HTL.out]; rfl
                  have HNO : Hid (∀ j, j < m → tx j ≠ tx (C k) ++ [c]) := ix_none HIX.out
                  obtain ⟨tn, htn⟩ : ∃ tn, tn = tx (C k) ++ [c] := ⟨_, rfl⟩
                  unfold WithAns at cW
                  rw [← htn] at cW HTN HTN2 HNO
                  obtain ⟨Ck, hCk⟩ : ∃ Ck, Ck = C k := ⟨_, rfl⟩
                  rw [← hCk] at cW hc0
                  clear hCk hix htn HIX HTK
                  go_wp2
                  go_region_with (go_at_call 28; refine cW.mono ?_; rintro e w3 ⟨v', en, lv', rfl, hls, hT3, hfr⟩; have HR3 : Hid (RowI w3 (B + 1) (rowC C K)) := row_fr (w := wr.drew) HR.out hfr; have hc3 := HR3.out.cell (j := k) (by rw [rowC_len]; exact hlk); have hf3 := HR3.out.frozen k; have HT3 : Hid _ := hT3; have HFR : Hid _ := hfr; have HLS : Hid _ := hls; clear hT3 hfr hls)
                  all_goals (
                    have HMN : Hid _ := HU.out.mid_new HTN.out HTN2.out HNO.out HLS.out
                    obtain ⟨tx2, htx2⟩ : ∃ tx2, tx2 = fun j => if j = m then tn else tx j := ⟨_, rfl⟩
                    obtain ⟨E2, hE2⟩ : ∃ E2, E2 = fun j => if j = m then en else E j := ⟨_, rfl⟩
                    obtain ⟨W2, hW2⟩ : ∃ W2, W2 = fun j => if j = m then W en else W j := ⟨_, rfl⟩
                    obtain ⟨M2, hM2⟩ : ∃ M2, M2 = m + 1 := ⟨_, rfl⟩
                    rw [← htx2, ← hE2, ← hW2, ← hM2] at HT3
                    rw [← htx2, ← hW2, ← hM2] at HMN
                    clear htx2 hE2 hW2 HLS HNO HTN HTN2 hc0 hf0 HT HR HU
                    obtain ⟨WW, hWW⟩ : ∃ WW, WW = w3.setCell ⟨B + 1, k, none⟩ (.int .i64 (m : Int)) := ⟨_, rfl⟩
                    have HT5 : Hid (TR WW B v' M2 tx2 E2 W2 lv' M2) := by rw [hWW]; exact HT3.out.setInt HR3.out
                    have HR5 : Hid (RowI WW (B + 1) (rowC (fun q => if q = k then m else C q) K)) := by rw [hWW]; exact (by have h := HR3.out.set k (m : Int); rw [rowC_set C K k m hlk] at h; exact h)
                    have HM3 : Hid (Mid P K i k M2 tx2 W2 (fun q => if q = k then m else C q)) := HMN
                    have hbl3 : Bl w WW := by rw [hWW]; exact (Bl.setCell (Fr.from (hbl.drew) HFR.out (by rw [HB.out]; exact Nat.le_refl _)) (by show w.heap.size ≤ B + 1; rw [HB.out]; exact Nat.le_succ _) _)
                    have hm3 : M2 ≤ 1 + i * 60 + (k + 1) := by omega
                    rw [← hWW]
                    clear hWW
                    by_cases hend : i + 1 = pk.size
                    · have hz1 : ((i : Int) == (pk.size : Int) - 1) = true := by rw [beq_iff_eq]; omega
                      obtain ⟨g, cap, hsl, hBg, hgl, ⟨cur, hcur⟩, hcs⟩ := HT5.out.row.shape HT5.out.tr.pos
                      have hJ := (HM3.out.come k hlk).1
                      rw [if_pos rfl] at hJ
                      have r0 := HR5.out.cell (j := k) (by rw [rowC_len]; exact hlk)
                      rw [rowC_at _ K k hlk, if_pos rfl] at r0
                      have r2 := (hcs m hJ).2.2
                      have hgB : g ≠ B + 1 := fun h => by
                        have h1 := HR5.out
                        unfold RowI at h1
                        rw [← h, hcur] at h1
                        injection h1 with h1
                        injection h1 with _ h2
                        revert h2
                        decide
                      have HU3 : Hid (Up P K i (k + 1) M2 tx2 (fun q => if q = m then W2 m ||| 2 ^ k else W2 q) (fun q => if q = k then m else C q)) := by
                        have h := HM3.out.whole HT5.out.tr hlk (by omega) (by rw [HPK.out, pt_len]; exact hend)
                        rw [if_pos rfl] at h
                        have e : (fun q => if q = m then W2 m ||| 2 ^ k else W2 q) = fun q => if q = m then W2 q ||| 2 ^ k else W2 q := by
                          funext q
                          by_cases hq : q = m
                          · rw [if_pos hq, if_pos hq, hq]
                          · rw [if_neg hq, if_neg hq]
                        rw [Hid, e]
                        exact h
                      have hWl := HM3.out.lt m hJ
                      have hor := find.or_k (W2 m) k hWl (by omega)
                      have hjz : 0 ≤ ((m : Nat) : Int) ∧ ((m : Nat) : Int) < ((M2 : Nat) : Int) := by omega
                      have HBG : Hid (B ≤ g) := hBg
                      rw [hsl] at HT5
                      have hfz := HT5.out.row.frozen (m * 3 + 2)
                      have HT4 : Hid _ := HT5.out.setWhole (z := W2 m ||| 2 ^ k) hJ
                      have HR4 : Hid _ := row_other (k := m * 3 + 2) (v := .int .u64 ((W2 m ||| 2 ^ k : Nat) : Int)) HR5.out hgB
                      generalize W2 m ||| 2 ^ k = Z at *
                      generalize hwz : W2 m = Y at r2 hor hWl
                      clear hwz HT5 HR5 HM3 hcs hcur hgl hBg hend
                      subst hsl
                      go_wp2
                      go_region
                      all_goals (
                        go_wp2
                        go_roundw
                        case rel => exact ⟨k + 1, M2, tx2, E2, (fun q => if q = m then Z else W2 q), lv', _, by omega, by go_num, HT4.out.step (Bl.drew (Bl.refl _)), HU3, hm3, HR4, (hbl3.setCell (by show w.heap.size ≤ _; rw [← HB.out]; exact HBG.out) _).drew⟩
                        case measure => simp [intOf]; omega)
                    · have hz1 : ((i : Int) == (pk.size : Int) - 1) = false := by rw [beq_eq_false_iff_ne]; omega
                      have HU3 : Hid (Up P K i (k + 1) M2 tx2 W2 (fun q => if q = k then m else C q)) := HM3.out.on (by rw [HPK.out, pt_len]; omega)
                      go_wp2
                      go_roundw
                      case rel => exact ⟨k + 1, M2, tx2, E2, W2, lv', _, by omega, by go_num, HT5, HU3, hm3, HR5, hbl3⟩
                      case measure => simp [intOf]; omega)
            · have hkz : ¬ ((k : Int) < (K : Int)) := by omega
              have hkK : k = K := by omega
              have HU2 : Hid (Up P K (i + 1) 0 m tx W C) := by have h := HU.out; rw [hkK] at h; exact h.round
              have hm2 : m ≤ 1 + (i + 1) * 60 := by omega
              clear hkK
              go_wp2
              go_roundw
              case rel => exact ⟨i + 1, m, tx, E, W, lv, C, by omega, by go_num, HT, HU2, hm2, HR, hbl⟩
              case measure => simp [intOf]; omega
        · have hlz : ¬ ((i : Int) < (L : Int)) := by omega
          have hiL : i = L := by omega
          have HALL : Hid (∀ q, q < K → Dn (fun x => (P x).length) i 0 q) := fun q hq => Or.inl (by show (P q).length ≤ i; rw [HPL.out, hiL]; exact HQ2.out q hq)
          clear hiL
          go_wp2
          go_ret
          refine ⟨_, m, tx, E, W, lv, rfl, by rw [← HB.out]; exact HT.out, by omega, hbl, fun k hk => ?_, fun j hj => ⟨HU.out.lt j hj, fun k => ?_⟩⟩
          · obtain ⟨h1, h2⟩ := HU.out.there k (by rw [HK.out]; exact hk) (HALL.out k (by rw [HK.out]; exact hk))
            exact ⟨_, h1, by rw [h2, HP.out]⟩
          · rw [HU.out.bit j hj k, ← HK.out]
            constructor
            · rintro ⟨h1, _, h3⟩
              rw [HP.out] at h3
              exact ⟨h1, h3⟩
            · rintro ⟨h1, h3⟩
              exact ⟨h1, HALL.out k h1, by rw [HP.out]; exact h3⟩
end Go.Proofs.YtehmjffbfgnijabDoor.tree
