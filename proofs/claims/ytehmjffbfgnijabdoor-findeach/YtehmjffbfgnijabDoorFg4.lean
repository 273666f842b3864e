/- What with of package find answers: a tree of beginnings with one more, and which one that is. -/
import Derived.Test.YtehmjffbfgnijabDoorFg3
import Derived.Deep.Cut
namespace Go.Proofs.YtehmjffbfgnijabDoor.tree
set_option linter.unusedVariables false
open Go.ChangeShapes Go.WideShapes Go.ChangeAt Go.RowKit Go.Maps
open mem rows fd

/-- An append of one beginning, as a step of a walk. -/
theorem wpL_appT {ops : Array Oper} {rest : List Oper} {o : Oper} {a : Act} {Q : Exit → Act → World → Prop} {w : World} (hgd : o.guard = none) (s x : Operand)
    (ho : o.op = .call { callee := .builtin .append, args := #[s, x], argTypes := #[48, 48] }) (hty : o.type = 48) (v : Value) (m : Nat) (lv : Nat → Value) (E W : Nat → Nat) (e z X : Nat) (hs : a.eval s = v) (hx : a.eval x = .slice (some ⟨X, 0, none⟩) 1 1)
    (base : Nat) (hown : OwnT w base v m lv E W) (hX : w.cell? ⟨X, 0, none⟩ = some (.map none)) (hX1 : w.cell? ⟨X, 1, none⟩ = some (.int .i64 (e : Int))) (hX2 : w.cell? ⟨X, 2, none⟩ = some (.int .u64 (z : Int))) (hn : m ≤ 5000) (hb : base ≤ w.heap.size)
    (h : ∀ v' w', OwnT w' base v' (m + 1) (fun j => if j = m then .map none else lv j) (fun j => if j = m then e else E j) (fun j => if j = m then z else W j) → w.grownBy w' v.ownBlock → wpList Tryd.prog ops Q rest (a.put o.dst v') w') : wpList Tryd.prog ops Q (o :: rest) a w := by
  obtain ⟨v', w', hr, h1, h2⟩ := appT_one w base m v lv E W e z X hown hX hX1 hX2 hn hb
  exact Lib.wpList_append_run w hgd s x _ _ ho v _ hs hx v' w' (by rw [hty]; exact hr) (h v' w' h1 h2)
theorem eq_nil (w : World) : (binOp .eql 51 (.map none) (.map none)).run Tryd.prog w = .ok (.bool true) w := by kernel_rfl
theorem eq_some (b : Nat) (w : World) : (binOp .eql 51 (.map (some b)) (.map none)).run Tryd.prog w = .ok (.bool false) w := by kernel_rfl
theorem setCell_alloc (w : World) (g k : Nat) (v : Value) (o : Obj) (h : g < w.heap.size) : (w.alloc o).setCell ⟨g, k, none⟩ v = (w.setCell ⟨g, k, none⟩ v).alloc o := by
  unfold World.setCell World.alloc
  congr 1
  apply Array.ext
  · simp
  · intro i h1 h2
    by_cases hi : i < w.heap.size
    · simp [Array.getElem_modify, Array.getElem_push, hi]
    · have : ¬ g = i := by omega
      simp [Array.getElem_modify, Array.getElem_push, hi, this]
theorem setCell_grown (w : World) (g k : Nat) (v : Value) : w.grownBy (w.setCell ⟨g, k, none⟩ v) (some g) := by
  refine ⟨rfl, rfl, rfl, by simp [World.setCell], fun j hj hne => ?_⟩
  have : ¬ g = j := fun e => hne (by rw [e])
  simp [World.setCell, Array.getElem?_modify, this]
/-- What with answers. -/
def WithAns (w w' : World) (base m a : Nat) (tx : Nat → List Int) (E W : Nat → Nat) (n : Nat) (c : Int) (e' : Ending) : Prop :=
  ∃ v' e lv', e' = .returned (.tuple #[v', .int .i64 (m : Int)]) ∧ LS tx m ((tx a ++ [c]).drop 1) e ∧
    TR w' base v' (m + 1) (fun j => if j = m then tx a ++ [c] else tx j) (fun j => if j = m then e else E j) (fun j => if j = m then W e else W j) lv' (n + 1) ∧ Fr w w' base
theorem with_old (v : Value) (m : Nat) (tx : Nat → List Int) (E W : Nat → Nat) (lv : Nat → Value) (n base a j : Nat) (c : Int) (w : World) (hT : TR w base v m tx E W lv n) (ha : a < m) (hc : 0 ≤ c ∧ c < 256) (hm : m ≤ 5000) (hix : ix tx m (tx a ++ [c]) = some j) :
    Calls Tryd.prog 28 #[v, .int .i64 a, .int .u8 c] w fun e w' => e = .returned (.tuple #[v, .int .i64 (j : Int)]) ∧ w' = w := by
  obtain ⟨g, cap, rfl, hBg, hgl, _, hcells⟩ := hT.row.shape hT.tr.pos
  obtain ⟨c0, c1, c2⟩ := hcells a ha
  have hlk := (hT.leads a ha).look c hc
  rw [hix] at hlk
  have hz : 0 ≤ (a : Int) ∧ (a : Int) < (m : Int) := by omega
  generalize lv a = la at c0 hlk
  clear hcells hT hix
  go_enter Tryd.func28, Tryd.ntmps28
  go_wp2
  go_ret2
  exact ⟨rfl, rfl⟩
set_option maxRecDepth 20000 in
set_option maxHeartbeats 2000000 in
theorem with_new (v : Value) (m : Nat) (tx : Nat → List Int) (E W : Nat → Nat) (lv : Nat → Value) (n base a : Nat) (c : Int) (w : World) (hT : TR w base v m tx E W lv n) (ha : a < m) (hc : 0 ≤ c ∧ c < 256) (hm : m ≤ 4000) (hn5 : n ≤ 4000) (hix : ix tx m (tx a ++ [c]) = none)
    (hl : ∀ i, i < m → (tx i).length ≤ (tx a).length + 1) (hbase : base ≤ w.heap.size) :
    Calls Tryd.prog 28 #[v, .int .i64 a, .int .u8 c] w fun e w' => WithAns w w' base m a tx E W n c e := by
  obtain ⟨g, cap, rfl, hBg, hgl, ⟨cur, hcur⟩, hcells⟩ := hT.row.shape hT.tr.pos
  obtain ⟨c0, c1, c2⟩ := hcells a ha
  have hlk := (hT.leads a ha).look c hc
  rw [hix] at hlk
  have hz : 0 ≤ (a : Int) ∧ (a : Int) < (m : Int) := by omega
  have HC : Hid _ := hcells
  have HT : Hid (TR w base (.slice (some ⟨g, 0, none⟩) m cap) m tx E W lv n) := hT
  have HIX : Hid _ := hix
  have HL : Hid _ := hl
  clear hcells hT hix hl
  have hroot : a ≠ 0 → tx a ≠ [] := fun h e => h (HT.out.tr.inj a 0 ha HT.out.tr.pos (by rw [e, HT.out.tr.root]))
  have hend0 : a = 0 → LS tx m ((tx a ++ [c]).drop 1) 0 := fun h0 => by
    rw [h0, HT.out.tr.root]
    exact ⟨HT.out.tr.pos, by rw [HT.out.tr.root]; exact List.nil_suffix, fun i hi hs => by
      have := hs.length_le
      simp at this
      rw [this]; exact Nat.zero_le _⟩
  have hdrop : a ≠ 0 → (tx a).drop 1 ++ [c] = (tx a ++ [c]).drop 1 := fun h0 => by
    rw [List.drop_append]
    have hlen : 0 < (tx a).length := List.length_pos_iff.2 (hroot h0)
    rw [show 1 - (tx a).length = 0 by omega]
    rfl
  have hmm := @run_makeMap Tryd.prog
  have hq0 := eq_nil
  have hq1 := eq_some
  rcases HT.out.leads a ha with ⟨hva, hnone⟩ | ⟨b, hva, hbb, hmp⟩
  · skip
    rw [hva] at c0 hlk
    obtain ⟨wB, hwB⟩ : ∃ wB, wB = (w.alloc (.map #[] 0)).setCell ⟨g, a * 3, none⟩ (.map (some w.heap.size)) := ⟨_, rfl⟩
    obtain ⟨bb, hbbe⟩ : ∃ bb, bb = w.heap.size := ⟨_, rfl⟩
    have hfz := HT.out.row.frozen (a * 3)
    have k0 := at_bl ((Bl.refl w).alloc (.map #[] 0)) c0
    have k1 := (HT.out.row.step ((Bl.refl w).alloc (.map #[] 0))).frozen (a * 3)
    have hgset : (w.alloc (.map #[] 0)).grownBy wB (some g) := by rw [hwB]; exact setCell_grown _ _ _ _
    have hmpB : Mp wB bb (fun d => ix tx m (tx a ++ [d])) 0 := by
      rw [hbbe]
      exact ((Mp.made w).kept hgset (by simp; omega)).congr hnone
    have hrowB : OwnT wB base (.slice (some ⟨g, 0, none⟩) m cap) m (fun j => if j = a then .map (some bb) else lv j) E W := by
      rw [hwB, ← hbbe]
      exact OwnT.set (HT.out.row.step ((Bl.refl w).alloc _)) (a * 3) _ (by omega) (rowT_set0 lv E W m a _ ha)
    have hldB : ∀ i, i < m → i ≠ a → Ld wB base ((fun j => if j = a then .map (some bb) else lv j) i) (fun d => ix tx m (tx i ++ [d])) n := fun i hi hia => by
      show Ld wB base (if i = a then _ else lv i) _ n
      rw [if_neg hia]
      refine ((HT.out.leads i hi).kept (World.grownBy_alloc w _ none) (fun _ _ h => by cases h)).kept hgset (fun k hk e => ?_)
      injection e with e
      subst e
      rcases HT.out.leads i hi with ⟨h1, _⟩ | ⟨b', h1, _, h3⟩
      · rw [h1] at hk; cases hk
      · rw [h1] at hk
        injection hk with hk
        injection hk with hk
        subst hk
        exact h3.not_cells _ _ _ hcur
    have hvaB : (fun j => if j = a then Value.map (some bb) else lv j) a = .map (some bb) := if_pos rfl
    have hbB : base ≤ bb := by omega
    have hapB : ∀ i j b, i < m → j < m → (fun j => if j = a then Value.map (some bb) else lv j) i = .map (some b) → (fun j => if j = a then Value.map (some bb) else lv j) j = .map (some b) → i = j := fun i j b hi hj h1 h2 => by
      dsimp only at h1 h2
      by_cases hia : i = a
      · by_cases hja : j = a
        · omega
        · rw [if_pos hia] at h1
          rw [if_neg hja] at h2
          injection h1 with h1
          injection h1 with h1
          subst h1
          rcases HT.out.leads j hj with ⟨h3, _⟩ | ⟨b', h3, _, h4⟩
          · rw [h3] at h2; cases h2
          · rw [h3] at h2
            injection h2 with h2
            injection h2 with h2
            have := h4.lt
            omega
      · rw [if_neg hia] at h1
        by_cases hja : j = a
        · rw [if_pos hja] at h2
          injection h2 with h2
          injection h2 with h2
          subst h2
          rcases HT.out.leads i hi with ⟨h3, _⟩ | ⟨b', h3, _, h4⟩
          · rw [h3] at h1; cases h1
          · rw [h3] at h1
            injection h1 with h1
            injection h1 with h1
            have := h4.lt
            omega
        · rw [if_neg hja] at h2
          exact HT.out.apart i j b hi hj h1 h2
    have FB : Fr w wB base := (Fr.of_bl ((Bl.refl w).alloc _)).trans (Fr.of_grown hgset hBg (fun cur' fr h => by
      have h2 := (HT.out.row.step ((Bl.refl w).alloc (.map #[] 0))).not_int cur' fr
      exact h2 h))
    have hcB : wB.cell? ⟨g, a * 3, none⟩ = some (.map (some bb)) := by
      have := (hrowB.shape HT.out.tr.pos)
      obtain ⟨g', cap', hsl, _, _, _, hq⟩ := this
      injection hsl with e1 e2 e3
      injection e1 with e1
      injection e1 with e1
      subst e1
      have := (hq a ha).1
      rwa [if_pos rfl] at this
    have hsB : w.heap.size ≤ wB.heap.size := FB.size
    have HLD : Hid _ := hldB
    have HAP : Hid _ := hapB
    have hwB2 : wB = (w.setCell ⟨g, a * 3, none⟩ (.map (some w.heap.size))).alloc (.map #[] 0) := by
      rw [hwB]
      exact setCell_alloc w g (a * 3) _ _ hgl
    have HWB : Hid _ := hwB2
    clear hwB2
    have HBB : Hid _ := hbbe
    have HFB : Hid _ := FB
    clear hldB hapB hvaB hwB hbbe FB hgset hnone hva
    by_cases h0 : a = 0
    · have hls := hend0 h0
      have z0 : ((a : Int) != 0) = false := by rw [h0]; rfl
      clear h0 hdrop hend0 hroot
      go_enter Tryd.func28, Tryd.ntmps28
      go_upto_region 9 with fail
      rw [← HWB.out, ← HBB.out]
      have hmpB : Mp wB bb (fun d => ix tx m (tx a ++ [d])) n := hmpB.mono (Nat.zero_le _)
      clear c0 c1 c2 hlk hq0 hq1 hmm k0 k1 hfz hcur
      obtain ⟨w1, hput, hmp1, hg1⟩ := hmpB.put c m hc (by omega) (by omega)
      have hrow1 := hrowB.kept hg1 (fun k e1 e2 => by
        have q1 : g = k := by simpa [Value.ownBlock] using e1
        have q2 : bb = k := by simpa using e2
        rw [← q1] at q2
        rw [q2] at hmpB
        rcases hrowB.2 with ⟨q3, _⟩ | ⟨g', cap', cur', q3, _, q4, _⟩
        · cases q3
        · injection q3 with e3
          injection e3 with e3
          injection e3 with e3
          subst e3
          exact hmpB.not_cells _ _ _ q4)
      obtain ⟨g', cap', hsl, _, _, _, hcells1⟩ := hrow1.shape HT.out.tr.pos
      injection hsl with e1 e2 e3
      injection e1 with e1
      injection e1 with e1
      subst e1 e3
      have d2 := (hcells1 0 hls.lt).2.2
      have hze : 0 ≤ ((0 : Nat) : Int) ∧ ((0 : Nat) : Int) < (m : Int) := by have := hls.lt; omega
      have HLS : Hid _ := hls
      have hs1 := hg1.size
      clear hcells1 hls e2
      go_wp2_with (at_builtin; refine wpL_appT rfl (.tmp 53) (.tmp 61) rfl rfl _ m (fun j => if j = a then .map (some bb) else lv j) E W 0 (W 0) w1.heap.size rfl rfl base (hrow1.step ((Bl.refl _).alloc _)) (by go_simp) (by go_simp) (by go_simp) (by omega) (by simp; omega) ?_; intro v' w3 ho3 hg3)
      go_ret2
      obtain ⟨k1, k2⟩ := TR.grown (o := .cells #[.map none, .int .i64 ((0 : Nat) : Int), .int .u64 (W 0 : Int)] 54) HT.out.tr ha hc HIX.out HL.out HLS.out hrowB HLD.out (if_pos rfl) hbB HAP.out hmpB hg1 hmp1 ho3 hg3 hBg
      exact ⟨v', 0, _, rfl, HLS.out, k1, HFB.out.trans k2⟩
    · have cO := on_at (.slice (some ⟨g, 0, none⟩) m cap) m tx E W lv n base (E a) ((tx a).drop 1) c w HT.out (HT.out.tr.ends a ha) hc (by omega)
      rw [hdrop h0] at cO
      have z0 : ((a : Int) != 0) = true := by rw [bne_iff_ne]; omega
      clear h0 hdrop hend0 hroot
      go_enter Tryd.func28, Tryd.ntmps28
      go_wp2_with (fail)
      refine cO.mono ?_
      rintro y w2 ⟨e, rfl, hls, hw⟩
      obtain rfl : w = w2 := hw.symm
      clear cO hw
      go_upto_region 9 with fail
      rw [← HWB.out, ← HBB.out]
      have hmpB : Mp wB bb (fun d => ix tx m (tx a ++ [d])) n := hmpB.mono (Nat.zero_le _)
      clear c0 c1 c2 hlk hq0 hq1 hmm k0 k1 hfz hcur
      obtain ⟨w1, hput, hmp1, hg1⟩ := hmpB.put c m hc (by omega) (by omega)
      have hrow1 := hrowB.kept hg1 (fun k e1 e2 => by
        have q1 : g = k := by simpa [Value.ownBlock] using e1
        have q2 : bb = k := by simpa using e2
        rw [← q1] at q2
        rw [q2] at hmpB
        rcases hrowB.2 with ⟨q3, _⟩ | ⟨g', cap', cur', q3, _, q4, _⟩
        · cases q3
        · injection q3 with e3
          injection e3 with e3
          injection e3 with e3
          subst e3
          exact hmpB.not_cells _ _ _ q4)
      obtain ⟨g', cap', hsl, _, _, _, hcells1⟩ := hrow1.shape HT.out.tr.pos
      injection hsl with e1 e2 e3
      injection e1 with e1
      injection e1 with e1
      subst e1 e3
      have d2 := (hcells1 e hls.lt).2.2
      have hze : 0 ≤ (e : Int) ∧ (e : Int) < (m : Int) := by have := hls.lt; omega
      have HLS : Hid _ := hls
      have hs1 := hg1.size
      clear hcells1 hls e2
      go_wp2_with (at_builtin; refine wpL_appT rfl (.tmp 53) (.tmp 61) rfl rfl _ m (fun j => if j = a then .map (some bb) else lv j) E W e (W e) w1.heap.size rfl rfl base (hrow1.step ((Bl.refl _).alloc _)) (by go_simp) (by go_simp) (by go_simp) (by omega) (by simp; omega) ?_; intro v' w3 ho3 hg3)
      go_ret2
      obtain ⟨k1, k2⟩ := TR.grown (o := .cells #[.map none, .int .i64 (e : Int), .int .u64 (W e : Int)] 54) HT.out.tr ha hc HIX.out HL.out HLS.out hrowB HLD.out (if_pos rfl) hbB HAP.out hmpB hg1 hmp1 ho3 hg3 hBg
      exact ⟨v', e, _, rfl, HLS.out, k1, HFB.out.trans k2⟩
  · skip
    rw [hva] at c0 hlk
    obtain ⟨bb, hbbe⟩ : ∃ bb, bb = b := ⟨_, rfl⟩
    rw [← hbbe] at c0 hlk hva hbb hmp
    clear hbbe
    have hmpB : Mp w bb (fun d => ix tx m (tx a ++ [d])) n := hmp
    have hrowB := HT.out.row
    have HLD : Hid (∀ i, i < m → i ≠ a → Ld w base (lv i) (fun d => ix tx m (tx i ++ [d])) n) := fun i hi _ => HT.out.leads i hi
    have HAP : Hid (∀ i j b, i < m → j < m → lv i = .map (some b) → lv j = .map (some b) → i = j) := HT.out.apart
    have HVA : Hid (lv a = .map (some bb)) := hva
    have HFB : Hid (Fr w w base) := Fr.refl w base
    have hbB : base ≤ bb := hbb
    have hsB : w.heap.size ≤ w.heap.size := Nat.le_refl _
    clear hva hmp hbb
    by_cases h0 : a = 0
    · have hls := hend0 h0
      have z0 : ((a : Int) != 0) = false := by rw [h0]; rfl
      clear h0 hdrop hend0 hroot
      go_enter Tryd.func28, Tryd.ntmps28
      go_upto_region 9 with fail
      clear c1 c2 hlk hq0 hq1 hmm hcur
      obtain ⟨w1, hput, hmp1, hg1⟩ := hmpB.put c m hc (by omega) (by omega)
      have hrow1 := hrowB.kept hg1 (fun k e1 e2 => by
        have q1 : g = k := by simpa [Value.ownBlock] using e1
        have q2 : bb = k := by simpa using e2
        rw [← q1] at q2
        rw [q2] at hmpB
        rcases hrowB.2 with ⟨q3, _⟩ | ⟨g', cap', cur', q3, _, q4, _⟩
        · cases q3
        · injection q3 with e3
          injection e3 with e3
          injection e3 with e3
          subst e3
          exact hmpB.not_cells _ _ _ q4)
      obtain ⟨g', cap', hsl, _, _, _, hcells1⟩ := hrow1.shape HT.out.tr.pos
      injection hsl with e1 e2 e3
      injection e1 with e1
      injection e1 with e1
      subst e1 e3
      have d2 := (hcells1 0 hls.lt).2.2
      have hze : 0 ≤ ((0 : Nat) : Int) ∧ ((0 : Nat) : Int) < (m : Int) := by have := hls.lt; omega
      have HLS : Hid _ := hls
      have hs1 := hg1.size
      clear hcells1 hls e2
      go_wp2_with (at_builtin; refine wpL_appT rfl (.tmp 53) (.tmp 61) rfl rfl _ m lv E W 0 (W 0) w1.heap.size rfl rfl base (hrow1.step ((Bl.refl _).alloc _)) (by go_simp) (by go_simp) (by go_simp) (by omega) (by simp; omega) ?_; intro v' w3 ho3 hg3)
      go_ret2
      obtain ⟨k1, k2⟩ := TR.grown (o := .cells #[.map none, .int .i64 ((0 : Nat) : Int), .int .u64 (W 0 : Int)] 54) HT.out.tr ha hc HIX.out HL.out HLS.out hrowB HLD.out HVA.out hbB HAP.out hmpB hg1 hmp1 ho3 hg3 hBg
      exact ⟨v', 0, _, rfl, HLS.out, k1, HFB.out.trans k2⟩
    · have cO := on_at (.slice (some ⟨g, 0, none⟩) m cap) m tx E W lv n base (E a) ((tx a).drop 1) c w HT.out (HT.out.tr.ends a ha) hc (by omega)
      rw [hdrop h0] at cO
      have z0 : ((a : Int) != 0) = true := by rw [bne_iff_ne]; omega
      clear h0 hdrop hend0 hroot
      go_enter Tryd.func28, Tryd.ntmps28
      go_wp2_with (fail)
      refine cO.mono ?_
      rintro y w2 ⟨e, rfl, hls, hw⟩
      obtain rfl : w = w2 := hw.symm
      clear cO hw
      go_upto_region 9 with fail
      clear c1 c2 hlk hq0 hq1 hmm hcur
      obtain ⟨w1, hput, hmp1, hg1⟩ := hmpB.put c m hc (by omega) (by omega)
      have hrow1 := hrowB.kept hg1 (fun k e1 e2 => by
        have q1 : g = k := by simpa [Value.ownBlock] using e1
        have q2 : bb = k := by simpa using e2
        rw [← q1] at q2
        rw [q2] at hmpB
        rcases hrowB.2 with ⟨q3, _⟩ | ⟨g', cap', cur', q3, _, q4, _⟩
        · cases q3
        · injection q3 with e3
          injection e3 with e3
          injection e3 with e3
          subst e3
          exact hmpB.not_cells _ _ _ q4)
      obtain ⟨g', cap', hsl, _, _, _, hcells1⟩ := hrow1.shape HT.out.tr.pos
      injection hsl with e1 e2 e3
      injection e1 with e1
      injection e1 with e1
      subst e1 e3
      have d2 := (hcells1 e hls.lt).2.2
      have hze : 0 ≤ (e : Int) ∧ (e : Int) < (m : Int) := by have := hls.lt; omega
      have HLS : Hid _ := hls
      have hs1 := hg1.size
      clear hcells1 hls e2
      go_wp2_with (at_builtin; refine wpL_appT rfl (.tmp 53) (.tmp 61) rfl rfl _ m lv E W e (W e) w1.heap.size rfl rfl base (hrow1.step ((Bl.refl _).alloc _)) (by go_simp) (by go_simp) (by go_simp) (by omega) (by simp; omega) ?_; intro v' w3 ho3 hg3)
      go_ret2
      obtain ⟨k1, k2⟩ := TR.grown (o := .cells #[.map none, .int .i64 (e : Int), .int .u64 (W e : Int)] 54) HT.out.tr ha hc HIX.out HL.out HLS.out hrowB HLD.out HVA.out hbB HAP.out hmpB hg1 hmp1 ho3 hg3 hBg
      exact ⟨v', e, _, rfl, HLS.out, k1, HFB.out.trans k2⟩
end Go.Proofs.YtehmjffbfgnijabDoor.tree
