/- The document's own: one number of 34 words less another one. -/
import Derived.Test.YtnhekkahiphlgaaDoorUnits
namespace Go.Proofs.YtnhekkahiphlgaaDoor.rl
open Go.RowKit
open mem flt
attribute [local go_sem] World.cell?_alloc_some
/-- The words of a, of which the first k are those of d already. -/
def mx (a d k j : Nat) : Nat := if j < k then wd d j else wd a j
theorem zeros34 : (#[.int .u64 0, .int .u64 0, .int .u64 0, .int .u64 0, .int .u64 0, .int .u64 0, .int .u64 0, .int .u64 0, .int .u64 0, .int .u64 0, .int .u64 0, .int .u64 0, .int .u64 0, .int .u64 0, .int .u64 0, .int .u64 0, .int .u64 0, .int .u64 0, .int .u64 0, .int .u64 0, .int .u64 0, .int .u64 0, .int .u64 0, .int .u64 0, .int .u64 0, .int .u64 0, .int .u64 0, .int .u64 0, .int .u64 0, .int .u64 0, .int .u64 0, .int .u64 0, .int .u64 0, .int .u64 0] : Array Value) = (ulf fun _ => 0).toArray := by rfl
theorem Un.set {w : World} {g : Nat} {f f' : Nat → Nat} (h : Un w g f) (k S : Nat) (hk : k < 34) (hf : f' k = S) (ho : ∀ j, j < 34 → j ≠ k → f' j = f j) : Un (w.setCell ⟨g, k, none⟩ (.int .u64 (S : Int))) g f' := fun j hj => by
  refine ⟨?_, ?_⟩
  · by_cases e : j = k
    · subst e
      rw [World.cell?_setCell_same _ _ _ (h j hj).1, hf]
    · rw [World.cell?_setCell_other _ _ _ _ (by intro h; exact e (by simpa using h.symm)), (h j hj).1, ho j hj e]
  · simpa using (h j hj).2
theorem Un.far {w : World} {g g' : Nat} {f : Nat → Nat} (h : Un w g f) (hg : g ≠ g') (k : Nat) (v : Value) : Un (w.setCell ⟨g', k, none⟩ v) g f := fun j hj => by
  refine ⟨?_, ?_⟩
  · rw [World.cell?_setCell_far _ _ _ _ hg.symm]; exact (h j hj).1
  · simpa using (h j hj).2
theorem results_cell {fn : Func} {p : Tmp} {ty : TypeId} (h : fn.results = #[.cell p ty]) (tmps : Array Value) (P : Program) (w : World) :
    (results fn tmps).run P w = ((asAddr (tmps.getD p undef)).run P w).andThen fun a w₁ => (loadVar ty a).run P w₁ := by
  simp only [results, h]
  simp [Sem.run_bind, Result.andThen]
theorem gb_setCells {w : World} {b : Nat} (h : w.heap.size ≤ b) : ∀ (vs : List Value) (o : Nat) (w' : World), Gb w w' → Gb w (w'.setCells b o vs)
  | [], _, _, g => g
  | _ :: vs, o, _, g => gb_setCells h vs (o + 1) _ (g.setCell h _)
set_option maxHeartbeats 1000000 in
theorem less_at (a b : Nat) (w : World) (hab : b ≤ a) :
    Calls Tryd.prog 42 #[.agg (ul a), .agg (ul b)] w fun e w' => e = .returned (.agg (ul (a - b))) ∧ Gb w w' := by
  obtain ⟨d, hd⟩ : ∃ d, a - b = d := ⟨_, rfl⟩
  rw [hd]
  have HD := hide hd
  have HL := hide hab
  clear hd hab
  unfold ul
  go_enter Tryd.func42, Tryd.ntmps42
  go_upto_region 2 with fail
  rw [zeros34]
  have u1 : Un (((w.alloc (Obj.cells (ulf (wd a)).toArray 73)).alloc (Obj.cells (ulf (wd b)).toArray 73)).alloc (Obj.cells (ulf fun _ => 0).toArray 73)) w.heap.size (wd a) := ((Un.new w _ _).alloc _ _).alloc _ _
  have u2 : Un (((w.alloc (Obj.cells (ulf (wd a)).toArray 73)).alloc (Obj.cells (ulf (wd b)).toArray 73)).alloc (Obj.cells (ulf fun _ => 0).toArray 73)) (w.heap.size + 1) (wd b) := by
    have := (Un.new (w.alloc (Obj.cells (ulf (wd a)).toArray 73)) (wd b) 73).alloc (ulf fun _ => 0).toArray 73
    simpa using this
  have u3 : Un (((w.alloc (Obj.cells (ulf (wd a)).toArray 73)).alloc (Obj.cells (ulf (wd b)).toArray 73)).alloc (Obj.cells (ulf fun _ => 0).toArray 73)) (w.heap.size + 1 + 1) (fun _ => 0) := by
    have := Un.new ((w.alloc (Obj.cells (ulf (wd a)).toArray 73)).alloc (Obj.cells (ulf (wd b)).toArray 73)) (fun _ => 0) 73
    simpa using this
  have k3 : Gb w (((w.alloc (Obj.cells (ulf (wd a)).toArray 73)).alloc (Obj.cells (ulf (wd b)).toArray 73)).alloc (Obj.cells (ulf fun _ => 0).toArray 73)) := (((Gb.refl w).alloc _ _).alloc _ _).alloc _ _
  generalize (((w.alloc (Obj.cells (ulf (wd a)).toArray 73)).alloc (Obj.cells (ulf (wd b)).toArray 73)).alloc (Obj.cells (ulf fun _ => 0).toArray 73)) = w1 at *
  obtain ⟨g, hg⟩ : ∃ g, w.heap.size = g := ⟨_, rfl⟩
  rw [hg] at u1 u2 u3
  rw [hg]
  go_wp2
  go_loopw [5, 7] (fun br i wr => ∃ k B : Nat, k ≤ 34 ∧ i = .int .i64 (k : Int) ∧ br = .int .u64 (B : Int) ∧ Hid (B = bor a b k) ∧ Un wr g (mx a d k) ∧ Un wr (g + 1) (wd b) ∧ Un wr (g + 1 + 1) (fun _ => 0) ∧ Gb w wr) (fun _ i _ => 34 - (intOf i).toNat)
  case atStart => exact ⟨0, 0, by omega, rfl, rfl, (bor_zero a b).symm, u1, u2, u3, k3⟩
  case round =>
    clear u1 u2 u3 k3 w1
    obtain ⟨k, B, hk, rfl, rfl, HB, v1, v2, v3, gw⟩ := hrel
    by_cases hlt : k < 34
    · have c1 := (v1 k hlt).1
      have f1 := (v1 k hlt).2
      have c2 := (v2 k hlt).1
      rw [show mx a d k k = wd a k from if_neg (by omega)] at c1
      have hS := wd_sub a b k HL.out
      rw [HD.out, ← HB.out] at hS
      have hC := bor_step a b k
      rw [← HB.out] at hC
      have hB : B ≤ 1 := by have := bor_le a b k; have := HB.out; omega
      obtain ⟨S, hS'⟩ : ∃ S, wd d k = S := ⟨_, rfl⟩
      obtain ⟨C, hC'⟩ : ∃ C, bor a b (k + 1) = C := ⟨_, rfl⟩
      rw [hS'] at hS
      rw [hC'] at hC
      have HS := hide hS'
      have HC := hide hC'
      clear hS' hC'
      generalize wd a k = x at *
      generalize wd b k = y at *
      have hr := sub64_run x y B S C hB hS hC
      clear hS hC hB
      have hlt' : (k : Int) < 34 := by omega
      have hik : (0 : Int) ≤ (k : Int) := by omega
      go_upto_region 5 with fail
      go_region
      have hkw : IntKind.i64.wrap ((k : Int) + 1) = (k : Int) + 1 := wrap_i64 _ (by omega) (by omega)
      go_wp2
      go_roundw
      case rel =>
        refine ⟨k + 1, C, by omega, by go_num, rfl, HC.out.symm, ?_, ?_, ?_, ?_⟩
        · refine Un.drew (v1.set k S hlt ?_ ?_)
          · rw [← HS.out]; exact if_pos (by omega)
          · intro j hj hne
            unfold mx
            by_cases h : j < k
            · rw [if_pos h, if_pos (by omega)]
            · rw [if_neg h, if_neg (by omega)]
        · exact (v2.far (by omega) _ _).drew
        · exact (v3.far (by omega) _ _).drew
        · exact (gw.setCell (a := ⟨g, k, none⟩) (by rw [hg]; exact Nat.le_refl _) _).drew
      case measure => simp [intOf]; omega
    · obtain rfl : k = 34 := by omega
      have e1 : ulf (mx a d 34) = ulf (wd d) := ulf_congr fun j hj => if_pos hj
      have r1 := v1.range
      rw [e1] at r1
      have t3 := v3.there
      have k3 := gw
      clear v1 v2 HB
      go_upto_region 7 with fail
      refine wp_region_lit ?_
      refine wpList_load_mid rfl 73 _ rfl g 0 rfl (ulf (wd d)) _ r1 Tryd.underlying73 rfl (by rw [ulf_len]; exact info34) ?_
      refine wpList_store_mid rfl 73 _ _ rfl (g + 1 + 1) 0 (ulf (wd d)).toArray rfl rfl (by simpa [ulf_len] using t3) (by simpa [ulf_len] using info34) (ulf_one _) ?_
      have rz := World.rangeAt_setCells_same wr (g + 1 + 1) 0 (ulf (wd d)) (by simpa [ulf_len] using t3)
      have gz : Gb w (wr.setCells (g + 1 + 1) 0 (ulf (wd d))) := gb_setCells (by omega) _ _ _ k3
      change wpList _ _ _ [] _ (wr.setCells (g + 1 + 1) 0 (ulf (wd d)))
      generalize wr.setCells (g + 1 + 1) 0 (ulf (wd d)) = wz at *
      have hld : (loadVar 73 ⟨g + 1 + 1, 0, none⟩).run Tryd.prog wz = .ok (.agg (ulf (wd d)).toArray) wz := run_loadVar_mid wz (g + 1 + 1) 0 73 (ulf (wd d)) _ rz Tryd.underlying73 rfl (by rw [ulf_len]; exact info34)
      clear rz r1 t3 v3 gw k3
      go_wp2
      refine bodyPost_ret (v := .agg (ulf (wd d)).toArray) ?_ rfl ⟨rfl, gz⟩
      rw [results_cell rfl]
      show ((asAddr (.pointer (some ⟨g + 1 + 1, 0, none⟩))).run Tryd.prog wz).andThen _ = _
      simp [asAddr, Result.andThen, hld]
end Go.Proofs.YtnhekkahiphlgaaDoor.rl
