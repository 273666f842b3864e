/- Texts laid together: HY, Ly6, LyC, Ly7, Ly8. -/
import Derived.Test.YtococaecjecjgaaGreatDoorXLayoutReads14
import Derived.Test.YtococaecjecjgaaGreatDoorXLayoutReads9
import Derived.Shelf.SlMaps.Clone
import Derived.MapKept
namespace Go.Proofs.YtococaecjecjgaaGreatDoor.ly
set_option linter.unusedVariables false
open Go Go.RowKit
open mem tc

section
variable {P : Program} {md : Region.Mode} {ops : Array Oper} {Q : Exit → Act → World → Prop} {S : World → Prop} {z : Nat}
def wpY (z : Nat) (P : Program) (md : Region.Mode) (ops : Array Oper) (Q : Exit → Act → World → Prop) (S : World → Prop) : Nat → Array Bool → Act → World → Prop
  | 0, l, a, w => Region.ready md ops l = [] ∧ Q .normal a w
  | f + 1, l, a, w => (Region.ready md ops l = [] → Q .normal a w) ∧ ∀ i ∈ Region.ready md ops l, wpOp P ops Q i (fun a' w' => ((l.setIfInBounds i true).getD z true = false → S w') ∧ wpY z P md ops Q S f (l.setIfInBounds i true) a' w') a w
theorem wpAny_of_wpY : ∀ (f : Nat) (l : Array Bool) (a : Act) (w : World), wpY z P md ops Q S f l a w → wpAny P md ops Q f l a w
  | 0, _, _, _, h => h
  | f + 1, _, _, _, h => ⟨h.1, fun i hi => wpOp_mono (fun a' w' h' => wpAny_of_wpY f _ a' w' h'.2) (h.2 i hi)⟩
theorem wpY_of_wpAny : ∀ (f : Nat) (l : Array Bool) (a : Act) (w : World), l.getD z true = true → wpAny P md ops Q f l a w → wpY z P md ops Q S f l a w
  | 0, _, _, _, _, h => h
  | f + 1, l, _, _, hz, h => ⟨h.1, fun i hi => wpOp_mono (fun a' w' h' => by
      have hz' : (l.setIfInBounds i true).getD z true = true := by
        by_cases e : i = z
        · subst e
          rcases Nat.lt_or_ge i l.size with hl | hl
          · simp [hl]
          · simp [Array.getElem?_eq_none hl] at hz ⊢
        · rw [getD_set_ne true e]; exact hz
      exact ⟨fun hc => (by rw [hz'] at hc; cases hc), wpY_of_wpAny f _ a' w' hz' h'⟩) (h.2 i hi)⟩
theorem wpY_first {i : Nat} {oi : Oper} {v : Value} (hi : ops[i]? = some oi) (hsel : ∀ (j : Nat) (o : Oper) cs b, ops[j]? = some o → o.op ≠ .select cs b)
    (hQ : ∀ c a w, Q (.panic c) (a.put oi.dst v) w → Q (.panic c) a w) (hz : waitsFor md ops z i = true) : ∀ (f : Nat) (l : Array Bool) (a : Act) (w : World), l.getD z true = false →
      (∀ j oj, ops[j]? = some oj → j ≠ i → l.getD j true = false → (∀ e ∈ oj.after, Region.binds md e = true → e.on ≠ i) → oi.apart ops oj = true) →
      i ∈ Region.ready md ops l → YieldsIf P ops S oi v a → S w → wpY z P md ops Q S f (l.setIfInBounds i true) (a.put oi.dst v) w → wpY z P md ops Q S (f + 1) l a w := by
  have own : ∀ (f : Nat) (l : Array Bool) (a : Act) (w : World), YieldsIf P ops S oi v a → S w → wpY z P md ops Q S f (l.setIfInBounds i true) (a.put oi.dst v) w → wpOp P ops Q i (fun a' w' => ((l.setIfInBounds i true).getD z true = false → S w') ∧ wpY z P md ops Q S f (l.setIfInBounds i true) a' w') a w :=
    fun f l a w hy hS H => hy.wpOp hi hS ⟨fun _ => hS, H⟩
  intro f
  induction f with
  | zero =>
    intro l a w hzl hfree hr hy hS H
    refine ⟨fun h => (by rw [h] at hr; cases hr), fun j hj => ?_⟩
    rcases Nat.decEq j i with hji | hji
    · have := ready_mono hj hji
      rw [H.1] at this
      cases this
    · subst hji
      exact own _ _ _ _ hy hS H
  | succ f ih =>
    intro l a w hzl hfree hr hy hS H
    refine ⟨fun h => (by rw [h] at hr; cases hr), fun j hj => ?_⟩
    rcases Nat.decEq j i with hji | hji
    · have hun := (mem_ready.1 hr).1
      have hjz : j ≠ z := fun e => not_ready hz hun (by rw [← e]; exact hj)
      have hzl' : (l.setIfInBounds j true).getD z true = false := by rw [getD_set_ne true hjz]; exact hzl
      obtain ⟨hjun, oj, hoj, hall⟩ := mem_ready.1 hj
      have hno : ∀ e ∈ oj.after, Region.binds md e = true → e.on ≠ i := fun e he hb heq => by
        have h1 := hall e he hb
        rw [heq] at h1
        rcases Nat.lt_or_ge i l.size with h | h
        · simp [h] at hun h1
          rw [hun] at h1
          cases h1
        · simp [Array.getElem?_eq_none h] at h1
      refine wpOp_mono (fun a' w' h3 => ?_) (wpOp_putIf hoj (hfree j oj hoj hji hjun hno) (fun cs b => hsel i oi cs b hi) (fun cs b => hsel j oj cs b hoj) hQ hy (H.2 j (ready_mono hj hji)))
      have hzi : i ≠ z := fun e => by
        have h9 := (mem_ready.1 hr).2
        obtain ⟨o, ho, h8⟩ := h9
        unfold waitsFor at hz
        rw [← e, ho] at hz
        dsimp only at hz
        obtain ⟨k, hk, he⟩ := Array.any_eq_true.1 hz
        rw [Bool.and_eq_true, beq_iff_eq] at he
        have h1 := h8 _ (Array.getElem_mem hk) he.1
        rw [he.2] at h1
        rcases Nat.lt_or_ge i l.size with h | h
        · simp [h] at hun h1
          rw [hun] at h1
          cases h1
        · simp [Array.getElem?_eq_none h] at h1
      have hS' : S w' := h3.2.1 (by rw [Array.setIfInBounds_comm _ _ (Ne.symm hji), getD_set_ne true hzi]; exact hzl')
      refine ⟨fun _ => hS', ih _ a' w' hzl' (fun k ok hk hki hun' hno' => hfree k ok hk hki ?_ hno') (ready_mono hr (Ne.symm hji)) h3.1 hS' ?_⟩
      · rcases Nat.decEq j k with hjk | hjk
        · rw [getD_set_ne true hjk] at hun'; exact hun'
        · rw [← hjk]; exact hjun
      · rw [Array.setIfInBounds_comm _ _ hji]
        exact h3.2.2
    · subst hji
      exact own _ _ _ _ hy hS H
theorem wpY_take {i : Nat} {oi : Oper} {v : Value} {f : Nat} {l : Array Bool} {a : Act} {w : World} (hi : ops[i]? = some oi) (hs : Region.noSelect ops = true) (hf : Region.free md ops l i = true)
    (hr : (Region.ready md ops l).contains i = true) (hz : waitsFor md ops z i = true) (hzl : l.getD z true = false) (hQ : ∀ c a w, Q (.panic c) (a.put oi.dst v) w → Q (.panic c) a w) (hS : S w) (hy : YieldsIf P ops S oi v a)
    (h : wpY z P md ops Q S f (l.setIfInBounds i true) (a.put oi.dst v) w) : wpY z P md ops Q S (f + 1) l a w :=
  wpY_first hi (Region.noSelect_spec hs) hQ hz f l a w hzl (Region.free_spec hi hf) (by simpa using hr) hy hS h
theorem wpY_all {rs : List Nat} {f : Nat} {l : Array Bool} {a : Act} {w : World} (hr : Region.ready md ops l = rs) (hne : rs ≠ [])
    (h : ∀ i ∈ rs, ∀ o, ops[i]? = some o → ∀ K : Act → World → Prop, Hid (∀ a' w', ((l.setIfInBounds i true).getD z true = false → S w') → wpY z P md ops Q S f (l.setIfInBounds i true) a' w' → K a' w') → if Region.wanted o (yielded ops a.tmps) = true then Oper.wp P o a w K Q else K (a.put o.dst undef) w) (hall : ∀ i ∈ rs, (ops[i]?).isSome = true) : wpY z P md ops Q S (f + 1) l a w := by
  refine ⟨fun h0 => (by rw [hr] at h0; exact absurd h0 hne), fun k hk => ?_⟩
  rw [hr] at hk
  obtain ⟨o, ho⟩ := Option.isSome_iff_exists.1 (hall k hk)
  have h2 := h k hk o ho (fun a' w' => ((l.setIfInBounds k true).getD z true = false → S w') ∧ wpY z P md ops Q S f (l.setIfInBounds k true) a' w') (fun a' w' h1 h3 => ⟨h1, h3⟩)
  unfold wpOp
  rw [ho]
  dsimp only
  split
  · rename_i hw
    rw [if_pos hw] at h2
    exact Or.inl h2
  · rename_i hw
    rw [if_neg hw] at h2
    exact h2
theorem wpY_one {i : Nat} {o : Oper} {f : Nat} {l : Array Bool} {a : Act} {w : World} (hr : Region.ready md ops l = [i]) (hi : ops[i]? = some o)
    (h : ∀ K : Act → World → Prop, Hid (∀ a' w', ((l.setIfInBounds i true).getD z true = false → S w') → wpY z P md ops Q S f (l.setIfInBounds i true) a' w' → K a' w') → if Region.wanted o (yielded ops a.tmps) = true then Oper.wp P o a w K Q else K (a.put o.dst undef) w) : wpY z P md ops Q S (f + 1) l a w := by
  refine wpY_all hr (by simp) (fun j hj oj hoj => ?_) (fun j hj => ?_)
  · rw [List.mem_singleton] at hj
    subst hj
    rw [hi] at hoj
    obtain rfl := Option.some.inj hoj
    exact h
  · rw [List.mem_singleton] at hj
    subst hj
    rw [hi]; rfl
theorem wpY_two {i j : Nat} {o o' : Oper} {f : Nat} {l : Array Bool} {a : Act} {w : World} (hr : Region.ready md ops l = [i, j]) (hi : ops[i]? = some o) (hj : ops[j]? = some o')
    (h : ∀ K : Act → World → Prop, Hid (∀ a' w', ((l.setIfInBounds i true).getD z true = false → S w') → wpY z P md ops Q S f (l.setIfInBounds i true) a' w' → K a' w') → if Region.wanted o (yielded ops a.tmps) = true then Oper.wp P o a w K Q else K (a.put o.dst undef) w)
    (h' : ∀ K : Act → World → Prop, Hid (∀ a' w', ((l.setIfInBounds j true).getD z true = false → S w') → wpY z P md ops Q S f (l.setIfInBounds j true) a' w' → K a' w') → if Region.wanted o' (yielded ops a.tmps) = true then Oper.wp P o' a w K Q else K (a.put o'.dst undef) w) : wpY z P md ops Q S (f + 1) l a w := by
  refine wpY_all hr (by simp) (fun k hk ok hok => ?_) (fun k hk => ?_)
  · rw [List.mem_cons, List.mem_singleton] at hk
    rcases hk with rfl | rfl
    · rw [hi] at hok
      obtain rfl := Option.some.inj hok
      exact h
    · rw [hj] at hok
      obtain rfl := Option.some.inj hok
      exact h'
  · rw [List.mem_cons, List.mem_singleton] at hk
    rcases hk with rfl | rfl
    · rw [hi]; rfl
    · rw [hj]; rfl
theorem wpY_done {l : Array Bool} {a : Act} {w : World} (hr : Region.ready md ops l = []) (h : Q .normal a w) : ∀ f, wpY z P md ops Q S f l a w
  | 0 => ⟨hr, h⟩
  | _ + 1 => ⟨fun _ => h, fun i hi => by rw [hr] at hi; cases hi⟩
theorem wp_region_Y (z : Nat) (S : World → Prop) {id : Nat} {a : Act} {w : World} (hm : P.follows .mixedOrders = true)
    (h : wpY z P .any ops Q S ops.size (Array.replicate ops.size false) a w.drew) : (Code.region id ops true).wp P Q a w :=
  wp_region_any hm (wpAny_of_wpY _ _ _ _ h)
end
end Go.Proofs.YtococaecjecjgaaGreatDoor.ly
namespace Go.Proofs.YtococaecjecjgaaGreatDoor.ly
set_option linter.unusedVariables false
set_option linter.unusedSimpArgs false
open Go.ChangeShapes Go.WideShapes Go.ChangeAt Go.RowKit
open mem lx ex tm num

theorem wx_of {d : D} (h : WD d) (h2 : d.kd = 2 ∨ d.kd = 4 ∨ d.mn = true) : ∃ x, d.ct = some x ∧ WX x := by
  rcases h with h | h | h | h
  · exact h.2.1
  · exact h.2.2.1
  · rcases h.2.2.2.2.2.2.2.2.2 with g | g
    · exact g.2
    · rcases h2 with e | e | e
      · omega
      · omega
      · rw [g.1] at e; cases e
  · rcases h.2.2.2.2 with g | g
    · exact g.2.1
    · rcases h2 with e | e | e
      · omega
      · omega
      · rw [g.1] at e; cases e
theorem wx_okb {x : Ex} (h : WX x) : Okb x := h.1.okb
set_option maxRecDepth 10000 in
set_option maxHeartbeats 4000000 in
theorem clo_bytes (w : World) (X R S N P mb : Nat) (s : ByteArray) (l : List Ty) (a k : Nat) (c : C) (sub : Its) (m : Value) (rec : Its → Env → St → Except Er (Nds × St)) (en : Env) (h : Cv w X R S N P mb s l (a, k) c sub m ⟨c.d.nm, c.d.kd, a, 0, 0, []⟩) (hd : WD c.d) (h1 : c.d.kd = 2) (hm : IsM w m en) :
    Calls Tryz.prog 85 #[.pointer (some ⟨N, 0, none⟩), .pointer (some ⟨X, 0, none⟩), .pointer (some ⟨R, 0, none⟩), .pointer (some ⟨S, 0, none⟩)] w fun e w' => CloA w N P mb s l (body (L s) l rec c.d sub en a k) e w' := by
  obtain ⟨x, hct, hwx⟩ := wx_of hd (Or.inl h1)
  have hX : IsX w (.pointer c.pc) x := by have := h.it.1; rw [hct] at this; exact this
  have cC := fun wx (hb : Bl w wx) => count_at c m en x wx P mb s l (a, k) (h.rd.bl hb) hct (hX.keep (Kx.bl hb)) (wx_okb hwx) (hm.step hb)
  have cB := fun wx (hb : Bl w wx) n => bytes_at wx P mb s l (a, k) n (h.rd.bl hb)
  dsimp only at cC cB
  rw [itV_eq] at cC
  obtain ⟨q, hq⟩ : ∃ q, q = body (L s) l rec c.d sub en a k := ⟨_, rfl⟩
  have hqe : ∀ er, cnt c.d en a = .error er → q = .error er := fun er he => by rw [hq]; unfold body; rw [if_neg (by omega), if_pos h1, he]
  have hq1 : ∀ n, cnt c.d en a = .ok n → ¬ s.size - a < n → q = .ok (⟨c.d.nm, 2, a, n, 0, ((L s).drop a).take n⟩, .nil, (a + n, k)) := fun n he hA => by rw [hq]; unfold body; rw [if_neg (by omega), if_pos h1, he]; dsimp only; rw [if_neg (by rw [L_len]; exact hA)]
  have hq2 : ∀ n, cnt c.d en a = .ok n → s.size - a < n → q = .error (3, (a : Int)) := fun n he hA => by rw [hq]; unfold body; rw [if_neg (by omega), if_pos h1, he]; dsimp only; rw [if_pos (by rw [L_len]; exact hA)]
  rw [← hq]
  obtain ⟨r, hr⟩ : ∃ r, r = cnt c.d en a := ⟨_, rfl⟩
  rw [← hr] at cC hqe hq1 hq2
  have hk1 : ((c.d.kd : Int) == 1) = false := by rw [h1]; rfl
  have hk2 : ((c.d.kd : Int) == 2) = true := by rw [h1]; rfl
  have HC : Hid (Cv w X R S N P mb s l (a, k) c sub m ⟨c.d.nm, c.d.kd, a, 0, 0, []⟩ ∧ c.d.kd = 2) := ⟨h, h1⟩
  have HSD : Hid (CvS w.drew X R S P c m ∧ Bl w w.drew) := ⟨(h.bl (Bl.refl _).drew).S, (Bl.refl _).drew⟩
  have HL : Hid (X < N ∧ R < N ∧ S < N) := ⟨h.lt.2.2.2.1, h.lt.2.2.2.2.1, h.lt.2.2.2.2.2⟩
  obtain ⟨s1, s2, x0, x1, x2, x3, x4, x5, x6, x7, x8, x9, x10, x11, x12⟩ := h.S
  have n5 : w.cell? ⟨N, 5, none⟩ = some (.string (tx [])) := h.nv.cells.2.2.2.2.2.1
  have y5 := h.nv.fz.2.2.2.2.2.1
  have hXs := h.iv.lt
  have hRs := h.rr.lt
  have hSs := h.sv.lt
  have hNs := h.nv.lt
  clear hq h h1 hd hct hwx hX hm hr
  cases r with
  | error er =>
    have HQ : Hid (q = .error er) := hqe er rfl
    have cC' := fun wx (hb : Bl w wx) => (cC wx hb).mono (R' := fun e w' => (∃ v, e = thrL v ∧ ErV wx w' er v) ∧ Bl wx w') (fun e w' h => ⟨h.2, h.1⟩)
    clear hqe hq1 hq2 cC cB n5 y5
    go_enter Tryz.func85, Tryz.ntmps85
    go_upto_region 4 with fail
    refine wp_region_Y 9 (fun wS => wS.cell? ⟨R, 0, none⟩ = some (.pointer (some ⟨P, 0, none⟩)) ∧ wS.cell? ⟨S, 0, none⟩ = some (m) ∧ wS.cell? ⟨X, 0, none⟩ = some (.int .i64 (c.d.kd : Int)) ∧ wS.cell? ⟨X, 1, none⟩ = some (.int .i64 (c.d.at_ : Int)) ∧ wS.cell? ⟨X, 2, none⟩ = some (.string (tx c.d.nm)) ∧ wS.cell? ⟨X, 3, none⟩ = some (.string (tx c.d.ty)) ∧ wS.cell? ⟨X, 4, none⟩ = some (.int .i64 (c.d.wd : Int)) ∧ wS.cell? ⟨X, 5, none⟩ = some (.int .i64 (c.d.od : Int)) ∧ wS.cell? ⟨X, 6, none⟩ = some (.bool c.d.sg) ∧ wS.cell? ⟨X, 7, none⟩ = some (.bool c.d.mn) ∧ wS.cell? ⟨X, 8, none⟩ = some (.pointer c.pc) ∧ wS.cell? ⟨X, 9, none⟩ = some (.int .i64 (c.d.ru : Int)) ∧ wS.cell? ⟨X, 10, none⟩ = some (.string (tx c.d.f1)) ∧ wS.cell? ⟨X, 11, none⟩ = some (.string (tx c.d.l1)) ∧ wS.cell? ⟨X, 12, none⟩ = some (.slice c.p c.n c.c)) (by kernel_rfl) ?_
    refine wpY_take (i := 0) (oi := _) (v := (.pointer (some ⟨N, 0, none⟩))) rfl (by kernel_rfl) (by kernel_rfl) (by kernel_rfl) (by kernel_rfl) (by kernel_rfl) (fun _ _ _ h => h) (HSD.out.1) (Or.inl ⟨by rfl, fun wS hW => ?_⟩) ?_
    · dsimp only at hW
      obtain ⟨hW0, hW1, hW2, hW3, hW4, hW5, hW6, hW7, hW8, hW9, hW10, hW11, hW12, hW13, hW14⟩ := hW
      go_simp
    try simp only [Act.put, List.setIfInBounds_toArray, List.set_cons_zero, List.set_cons_succ]
    refine wpY_take (i := 1) (oi := _) (v := (.pointer (some ⟨P, 0, none⟩))) rfl (by kernel_rfl) (by kernel_rfl) (by kernel_rfl) (by kernel_rfl) (by kernel_rfl) (fun _ _ _ h => h) (HSD.out.1) (Or.inl ⟨by rfl, fun wS hW => ?_⟩) ?_
    · dsimp only at hW
      obtain ⟨hW0, hW1, hW2, hW3, hW4, hW5, hW6, hW7, hW8, hW9, hW10, hW11, hW12, hW13, hW14⟩ := hW
      go_simp
    try simp only [Act.put, List.setIfInBounds_toArray, List.set_cons_zero, List.set_cons_succ]
    refine wpY_take (i := 2) (oi := _) (v := (.pointer (some ⟨P, 0, none⟩))) rfl (by kernel_rfl) (by kernel_rfl) (by kernel_rfl) (by kernel_rfl) (by kernel_rfl) (fun _ _ _ h => h) (HSD.out.1) (Or.inl ⟨by rfl, fun wS hW => ?_⟩) ?_
    · dsimp only at hW
      obtain ⟨hW0, hW1, hW2, hW3, hW4, hW5, hW6, hW7, hW8, hW9, hW10, hW11, hW12, hW13, hW14⟩ := hW
      go_simp
    try simp only [Act.put, List.setIfInBounds_toArray, List.set_cons_zero, List.set_cons_succ]
    refine wpY_take (i := 3) (oi := _) (v := (.agg #[.int .i64 (c.d.kd : Int), .int .i64 (c.d.at_ : Int), .string (tx c.d.nm), .string (tx c.d.ty), .int .i64 (c.d.wd : Int), .int .i64 (c.d.od : Int), .bool c.d.sg, .bool c.d.mn, .pointer c.pc, .int .i64 (c.d.ru : Int), .string (tx c.d.f1), .string (tx c.d.l1), .slice c.p c.n c.c])) rfl (by kernel_rfl) (by kernel_rfl) (by kernel_rfl) (by kernel_rfl) (by kernel_rfl) (fun _ _ _ h => h) (HSD.out.1) (Or.inl ⟨by rfl, fun wS hW => ?_⟩) ?_
    · dsimp only at hW
      obtain ⟨hW0, hW1, hW2, hW3, hW4, hW5, hW6, hW7, hW8, hW9, hW10, hW11, hW12, hW13, hW14⟩ := hW
      go_simp
    try simp only [Act.put, List.setIfInBounds_toArray, List.set_cons_zero, List.set_cons_succ]
    refine wpY_take (i := 4) (oi := _) (v := m) rfl (by kernel_rfl) (by kernel_rfl) (by kernel_rfl) (by kernel_rfl) (by kernel_rfl) (fun _ _ _ h => h) (HSD.out.1) (Or.inl ⟨by rfl, fun wS hW => ?_⟩) ?_
    · dsimp only at hW
      obtain ⟨hW0, hW1, hW2, hW3, hW4, hW5, hW6, hW7, hW8, hW9, hW10, hW11, hW12, hW13, hW14⟩ := hW
      go_simp
    try simp only [Act.put, List.setIfInBounds_toArray, List.set_cons_zero, List.set_cons_succ]
    refine wpY_one (i := 5) (o := _) (by kernel_rfl) rfl (fun K hK => ?_)
    go_simp
    refine (cC' _ HSD.out.2).mono ?_
    rintro e w6 ⟨⟨v, rfl, hv6⟩, hb6⟩
    have hfin : CloA w N P mb s l q (thrL v) w6 := by rw [HQ.out]; exact ⟨Gq.gp (Gp.bl (HSD.out.2.trans hb6)), v, rfl, hv6.from HSD.out.2.size⟩
    unfold thrL at hfin ⊢
    dsimp only
    exact ⟨rfl, hfin⟩
  | ok n =>
    have cC' := fun wx (hb : Bl w wx) => (cC wx hb).mono (R' := fun e w' => e = .returned (.int .i64 (n : Int)) ∧ Bl wx w') (fun e w' h => ⟨h.2, h.1⟩)
    have cB' := fun wx (hb : Bl w wx) => cB wx hb n
    have hq1' := hq1 n rfl
    have hq2' := hq2 n rfl
    clear hqe hq1 hq2 cC cB
    go_enter Tryz.func85, Tryz.ntmps85
    go_upto_region 4 with fail
    refine wp_region_Y 9 (fun wS => wS.cell? ⟨R, 0, none⟩ = some (.pointer (some ⟨P, 0, none⟩)) ∧ wS.cell? ⟨S, 0, none⟩ = some (m) ∧ wS.cell? ⟨X, 0, none⟩ = some (.int .i64 (c.d.kd : Int)) ∧ wS.cell? ⟨X, 1, none⟩ = some (.int .i64 (c.d.at_ : Int)) ∧ wS.cell? ⟨X, 2, none⟩ = some (.string (tx c.d.nm)) ∧ wS.cell? ⟨X, 3, none⟩ = some (.string (tx c.d.ty)) ∧ wS.cell? ⟨X, 4, none⟩ = some (.int .i64 (c.d.wd : Int)) ∧ wS.cell? ⟨X, 5, none⟩ = some (.int .i64 (c.d.od : Int)) ∧ wS.cell? ⟨X, 6, none⟩ = some (.bool c.d.sg) ∧ wS.cell? ⟨X, 7, none⟩ = some (.bool c.d.mn) ∧ wS.cell? ⟨X, 8, none⟩ = some (.pointer c.pc) ∧ wS.cell? ⟨X, 9, none⟩ = some (.int .i64 (c.d.ru : Int)) ∧ wS.cell? ⟨X, 10, none⟩ = some (.string (tx c.d.f1)) ∧ wS.cell? ⟨X, 11, none⟩ = some (.string (tx c.d.l1)) ∧ wS.cell? ⟨X, 12, none⟩ = some (.slice c.p c.n c.c)) (by kernel_rfl) ?_
    refine wpY_take (i := 0) (oi := _) (v := (.pointer (some ⟨N, 0, none⟩))) rfl (by kernel_rfl) (by kernel_rfl) (by kernel_rfl) (by kernel_rfl) (by kernel_rfl) (fun _ _ _ h => h) (HSD.out.1) (Or.inl ⟨by rfl, fun wS hW => ?_⟩) ?_
    · dsimp only at hW
      obtain ⟨hW0, hW1, hW2, hW3, hW4, hW5, hW6, hW7, hW8, hW9, hW10, hW11, hW12, hW13, hW14⟩ := hW
      go_simp
    try simp only [Act.put, List.setIfInBounds_toArray, List.set_cons_zero, List.set_cons_succ]
    refine wpY_take (i := 1) (oi := _) (v := (.pointer (some ⟨P, 0, none⟩))) rfl (by kernel_rfl) (by kernel_rfl) (by kernel_rfl) (by kernel_rfl) (by kernel_rfl) (fun _ _ _ h => h) (HSD.out.1) (Or.inl ⟨by rfl, fun wS hW => ?_⟩) ?_
    · dsimp only at hW
      obtain ⟨hW0, hW1, hW2, hW3, hW4, hW5, hW6, hW7, hW8, hW9, hW10, hW11, hW12, hW13, hW14⟩ := hW
      go_simp
    try simp only [Act.put, List.setIfInBounds_toArray, List.set_cons_zero, List.set_cons_succ]
    refine wpY_take (i := 2) (oi := _) (v := (.pointer (some ⟨P, 0, none⟩))) rfl (by kernel_rfl) (by kernel_rfl) (by kernel_rfl) (by kernel_rfl) (by kernel_rfl) (fun _ _ _ h => h) (HSD.out.1) (Or.inl ⟨by rfl, fun wS hW => ?_⟩) ?_
    · dsimp only at hW
      obtain ⟨hW0, hW1, hW2, hW3, hW4, hW5, hW6, hW7, hW8, hW9, hW10, hW11, hW12, hW13, hW14⟩ := hW
      go_simp
    try simp only [Act.put, List.setIfInBounds_toArray, List.set_cons_zero, List.set_cons_succ]
    refine wpY_take (i := 3) (oi := _) (v := (.agg #[.int .i64 (c.d.kd : Int), .int .i64 (c.d.at_ : Int), .string (tx c.d.nm), .string (tx c.d.ty), .int .i64 (c.d.wd : Int), .int .i64 (c.d.od : Int), .bool c.d.sg, .bool c.d.mn, .pointer c.pc, .int .i64 (c.d.ru : Int), .string (tx c.d.f1), .string (tx c.d.l1), .slice c.p c.n c.c])) rfl (by kernel_rfl) (by kernel_rfl) (by kernel_rfl) (by kernel_rfl) (by kernel_rfl) (fun _ _ _ h => h) (HSD.out.1) (Or.inl ⟨by rfl, fun wS hW => ?_⟩) ?_
    · dsimp only at hW
      obtain ⟨hW0, hW1, hW2, hW3, hW4, hW5, hW6, hW7, hW8, hW9, hW10, hW11, hW12, hW13, hW14⟩ := hW
      go_simp
    try simp only [Act.put, List.setIfInBounds_toArray, List.set_cons_zero, List.set_cons_succ]
    refine wpY_take (i := 4) (oi := _) (v := m) rfl (by kernel_rfl) (by kernel_rfl) (by kernel_rfl) (by kernel_rfl) (by kernel_rfl) (fun _ _ _ h => h) (HSD.out.1) (Or.inl ⟨by rfl, fun wS hW => ?_⟩) ?_
    · dsimp only at hW
      obtain ⟨hW0, hW1, hW2, hW3, hW4, hW5, hW6, hW7, hW8, hW9, hW10, hW11, hW12, hW13, hW14⟩ := hW
      go_simp
    try simp only [Act.put, List.setIfInBounds_toArray, List.set_cons_zero, List.set_cons_succ]
    refine wpY_one (i := 5) (o := _) (by kernel_rfl) rfl (fun K hK => ?_)
    go_simp
    refine (cC' _ HSD.out.2).mono ?_
    rintro e w6 ⟨rfl, hb6⟩
    have H6 : Hid (CvS w6 X R S P c m ∧ Bl w w6) := ⟨((HC.out.1.bl HSD.out.2).bl hb6).S, HSD.out.2.trans hb6⟩
    dsimp only
    refine hK.out _ _ (fun _ => H6.out.1) ?_
    clear hK K
    try simp only [Act.put, List.setIfInBounds_toArray, List.set_cons_zero, List.set_cons_succ]
    refine wpY_one (i := 6) (o := _) (by kernel_rfl) rfl (fun K hK => ?_)
    go_simp
    refine (cB' _ H6.out.2).mono ?_
    rintro e w7 ⟨hg7, hans⟩
    dsimp only at hans
    rcases hans with ⟨hA, v, rfl, hv⟩ | ⟨hA, rfl, hr7⟩
    · have hfin : CloA w N P mb s l q (thrL v) w7 := by rw [hq2' hA]; exact ⟨Gq.gp ((Gp.bl H6.out.2).trans hg7), v, rfl, hv.from H6.out.2.size⟩
      unfold thrL at hfin ⊢
      dsimp only
      exact ⟨rfl, hfin⟩
    have H7 : Hid (Cv w7 X R S N P mb s l (a + n, k) c sub m ⟨c.d.nm, c.d.kd, a, 0, 0, []⟩ ∧ Gp P w w7) := ⟨(HC.out.1.bl H6.out.2).gp hg7 hr7, (Gp.bl H6.out.2).trans hg7⟩
    have hS7 := H7.out.1.S
    have HQ : Hid (q = .ok (⟨c.d.nm, 2, a, n, 0, ((L s).drop a).take n⟩, .nil, (a + n, k))) := hq1' hA
    generalize ((L s).drop a).take n = T at HQ ⊢
    have n5 : w7.cell? ⟨N, 5, none⟩ = some (.string (tx [])) := H7.out.1.nv.cells.2.2.2.2.2.1
    have y5 := H7.out.1.nv.fz.2.2.2.2.2.1
    have hN7 := H7.out.1.nv.lt
    clear hq1' hq2' cB' cC' hr7 hg7 s1 s2 x0 x1 x2 x3 x4 x5 x6 x7 x8 x9 x10 x11 x12
    dsimp only
    refine hK.out _ _ (fun _ => hS7) ?_
    clear hK K
    try simp only [Act.put, List.setIfInBounds_toArray, List.set_cons_zero, List.set_cons_succ]
    refine wpY_one (i := 7) (o := _) (by kernel_rfl) rfl (fun K hK => ?_)
    go_simp
    refine hK.out _ _ (fun _ => hS7) ?_
    clear hK K
    try simp only [Act.put, List.setIfInBounds_toArray, List.set_cons_zero, List.set_cons_succ]
    refine wpY_one (i := 8) (o := _) (by kernel_rfl) rfl (fun K hK => ?_)
    go_simp
    refine hK.out _ _ (fun _ => hS7) ?_
    clear hK K
    try simp only [Act.put, List.setIfInBounds_toArray, List.set_cons_zero, List.set_cons_succ]
    refine wpY_one (i := 9) (o := _) (by kernel_rfl) rfl (fun K hK => ?_)
    go_simp
    refine hK.out _ _ (fun h => absurd h (by decide)) ?_
    clear hK K
    try simp only [Act.put, List.setIfInBounds_toArray, List.set_cons_zero, List.set_cons_succ]
    refine wpY_done (by kernel_rfl) ?_ _
    have hfin : CloA w N P mb s l q (.returned (.tuple #[])) (w7.setCell ⟨N, 5, none⟩ (.string (tx T))) := by
      rw [HQ.out]
      refine ⟨(Gq.gp H7.out.2).trans (Gq.setQ _), rfl, none, 0, ?_, IsNs.none _ _, ?_⟩
      · have := H7.out.1.nv.setT T
        rw [HC.out.2] at this
        exact this
      · exact H7.out.1.rd.setN H7.out.1.nv (by have := H7.out.1.lt; omega)
    exact bodyPost_end (results_none rfl _ _ _) rfl hfin
end Go.Proofs.YtococaecjecjgaaGreatDoor.ly
namespace Go.Proofs.YtococaecjecjgaaGreatDoor.ex
set_option linter.unusedVariables false
open Go.ChangeShapes Go.WideShapes Go.ChangeAt Go.RowKit
open mem lx
open Go.Maps

theorem run_eql_nil (b : Nat) (w : World) : (binOp .eql 100 (.map (some b)) (.map none)).run Tryz.prog w = .ok (.bool false) w := run_eql_map_nil_sl w _ _ _ (some b) Tryz.underlying100
set_option maxRecDepth 10000 in
theorem Clone_at (b : Nat) (es : Array MapEntry) (clock : Nat) (w : World) (hb : w.heap[b]? = some (.map es clock)) :
    Calls Tryz.prog 91 #[.map (some b)] w fun e w' => e = .returned (.map (some w.heap.size)) ∧ w' = w.alloc (.map es clock) := by
  have hq := run_eql_nil b
  go_enter Tryz.func91, Tryz.ntmps91
  go_wp2
  rw [run_callFunc_extern Tryz.func120 (by kernel_rfl) (by kernel_rfl) (by kernel_rfl) (e := Extern.MapsClone.clone) (by kernel_rfl), run_maps_clone_sl w 100 hb]
  simp only [Result.andThen]
  rw [Oper.upon_value]
  go_wp2
  rw [run_typeAssert_map_sl _ 100 20 _ _ _ Tryz.underlying100]
  simp only [Result.andThen]
  rw [Oper.upon_value]
  go_wp2
  go_ret
  exact ⟨rfl, rfl⟩
theorem Om.clone {w : World} {b c : Nat} {f : List UInt8 → Option Int} {es : Array MapEntry} {clock : Nat} (h : Om w b f c) (hb : w.heap[b]? = some (.map es clock)) : Om (w.alloc (.map es clock)) w.heap.size f c := by
  obtain ⟨D, ⟨es', clock', h1, h2, h3, h4⟩, h5⟩ := h
  rw [hb] at h1
  injection h1 with h1
  injection h1 with h1 h1'
  subst h1
  subst h1'
  exact ⟨D, ⟨es, clock, (MapKept.heap_alloc w _).1, h2, h3, h4⟩, h5⟩
theorem Om.congr {w : World} {b c : Nat} {f g : List UInt8 → Option Int} (h : Om w b f c) (hg : ∀ x, x.length ≤ 5000 → g x = f x) : Om w b g c := by
  obtain ⟨D, h1, h2⟩ := h
  exact ⟨D, h1, fun x hx => by rw [hg x hx]; exact h2 x hx⟩
theorem Om.block {w : World} {b c : Nat} {f : List UInt8 → Option Int} (h : Om w b f c) : ∃ es clock, w.heap[b]? = some (.map es clock) := by
  obtain ⟨D, ⟨es', clock', h1, _⟩, _⟩ := h
  exact ⟨_, _, h1⟩
theorem Om.below {w w' : World} {b c : Nat} {f : List UInt8 → Option Int} (h : Om w b f c) (hb : Bl w w') : Om w' b f c :=
  h.step (⟨hb.os, hb.tape, hb.output, hb.size, fun k hk _ => Below.block hb k hk⟩ : w.grownBy w' none) (by simp)
end Go.Proofs.YtococaecjecjgaaGreatDoor.ex
namespace Go.Proofs.YtococaecjecjgaaGreatDoor.ly
set_option linter.unusedVariables false
set_option linter.unusedSimpArgs false
open Go.ChangeShapes Go.WideShapes Go.ChangeAt Go.RowKit
open mem lx ex tm num

def BlA (w : World) (P m2 mb : Nat) (s : ByteArray) (l : List Ty) (q : Except Er (Nds × St)) (e : Ending) (w' : World) : Prop :=
  Gq P m2 w w' ∧ match q with
  | .error er => ∃ v, e = thrL v ∧ ErV w w' er v
  | .ok (ks, st') => ∃ p c, e = .returned (.slice p ks.len c) ∧ IsNs w' (fun g => w.heap.size ≤ g) p ks.len c ks ∧ RdL w' P mb s l st'
def BlkC (s : ByteArray) (l : List Ty) (f : Nat) : Prop :=
  ∀ (w : World) (P mb m2 : Nat) (st : St) (i : Its) (p : Option Addr) (n c : Nat) (cs : List C) (en : Env) (k0 : Nat), RdL w P mb s l st → OKI i → ir.Lie w (fun g => g < mb) p n c cs → Rep w (fun g => g < mb) i cs → Om w m2 en k0 → k0 ≤ st.2 → P < m2 → 401 ≤ st.2 + f →
    Calls Tryz.prog 89 #[.pointer (some ⟨P, 0, none⟩), .slice p n c, .map (some m2)] w fun e w' => BlA w P m2 mb s l (rdB (L s) l f i en st) e w'
theorem Gq.below {P Q : Nat} {w0 w w' : World} (h0 : Gp P w0 w) (h : Gq P Q w w') (hQ : w0.heap.size ≤ Q) : Gp P w0 w' := h.fresh h0 hQ
def CvT (w : World) (X R S P mb : Nat) (c : C) (m : Value) : Prop := w.cell? ⟨R, 0, none⟩ = some (.pointer (some ⟨P, 0, none⟩)) ∧ w.cell? ⟨S, 0, none⟩ = some (m) ∧ w.cell? ⟨X, 0, none⟩ = some (.int .i64 (c.d.kd : Int)) ∧ w.cell? ⟨X, 1, none⟩ = some (.int .i64 (c.d.at_ : Int)) ∧ w.cell? ⟨X, 2, none⟩ = some (.string (tx c.d.nm)) ∧ w.cell? ⟨X, 3, none⟩ = some (.string (tx c.d.ty)) ∧ w.cell? ⟨X, 4, none⟩ = some (.int .i64 (c.d.wd : Int)) ∧ w.cell? ⟨X, 5, none⟩ = some (.int .i64 (c.d.od : Int)) ∧ w.cell? ⟨X, 6, none⟩ = some (.bool c.d.sg) ∧ w.cell? ⟨X, 7, none⟩ = some (.bool c.d.mn) ∧ w.cell? ⟨X, 8, none⟩ = some (.pointer c.pc) ∧ w.cell? ⟨X, 9, none⟩ = some (.int .i64 (c.d.ru : Int)) ∧ w.cell? ⟨X, 10, none⟩ = some (.string (tx c.d.f1)) ∧ w.cell? ⟨X, 11, none⟩ = some (.string (tx c.d.l1)) ∧ w.cell? ⟨X, 12, none⟩ = some (.slice c.p c.n c.c) ∧ w.cell? ⟨P, 0, none⟩ = some (.map (some mb))
theorem CvT.of {w : World} {X R S P mb : Nat} {c : C} {m : Value} (h : CvS w X R S P c m) (hp : w.cell? ⟨P, 0, none⟩ = some (.map (some mb))) : CvT w X R S P mb c m := ⟨h.1, h.2.1, h.2.2.1, h.2.2.2.1, h.2.2.2.2.1, h.2.2.2.2.2.1, h.2.2.2.2.2.2.1, h.2.2.2.2.2.2.2.1, h.2.2.2.2.2.2.2.2.1, h.2.2.2.2.2.2.2.2.2.1, h.2.2.2.2.2.2.2.2.2.2.1, h.2.2.2.2.2.2.2.2.2.2.2.1, h.2.2.2.2.2.2.2.2.2.2.2.2.1, h.2.2.2.2.2.2.2.2.2.2.2.2.2.1, h.2.2.2.2.2.2.2.2.2.2.2.2.2.2, hp⟩
theorem CvT.bl {w w' : World} {X R S P mb : Nat} {c : C} {m : Value} (h : CvT w X R S P mb c m) (hb : Bl w w') : CvT w' X R S P mb c m := ⟨at_bl hb h.1, at_bl hb h.2.1, at_bl hb h.2.2.1, at_bl hb h.2.2.2.1, at_bl hb h.2.2.2.2.1, at_bl hb h.2.2.2.2.2.1, at_bl hb h.2.2.2.2.2.2.1, at_bl hb h.2.2.2.2.2.2.2.1, at_bl hb h.2.2.2.2.2.2.2.2.1, at_bl hb h.2.2.2.2.2.2.2.2.2.1, at_bl hb h.2.2.2.2.2.2.2.2.2.2.1, at_bl hb h.2.2.2.2.2.2.2.2.2.2.2.1, at_bl hb h.2.2.2.2.2.2.2.2.2.2.2.2.1, at_bl hb h.2.2.2.2.2.2.2.2.2.2.2.2.2.1, at_bl hb h.2.2.2.2.2.2.2.2.2.2.2.2.2.2.1, at_bl hb h.2.2.2.2.2.2.2.2.2.2.2.2.2.2.2⟩
set_option maxRecDepth 10000 in
set_option maxHeartbeats 4000000 in
theorem clo_struct (f : Nat) (w : World) (X R S N P mb : Nat) (s : ByteArray) (l : List Ty) (a k : Nat) (c : C) (sub : Its) (m : Value) (en : Env) (h : Cv w X R S N P mb s l (a, k) c sub m ⟨c.d.nm, c.d.kd, a, 0, 0, []⟩) (hty : c.d.ty.length ≤ maxLen) (h1 : c.d.kd = 3) (hl : OKT l) (hB : BlkC s l f) (hf : 401 ≤ k + f) :
    Calls Tryz.prog 85 #[.pointer (some ⟨N, 0, none⟩), .pointer (some ⟨X, 0, none⟩), .pointer (some ⟨R, 0, none⟩), .pointer (some ⟨S, 0, none⟩)] w fun e w' => CloA w N P mb s l (body (L s) l (rdB (L s) l f) c.d sub en a k) e w' := by
  have hmm : ∀ w, (Instr.makeMap 100 none).run Tryz.prog w = .ok (.map (some w.heap.size)) (w.alloc (.map #[] 0)) := fun w => by kernel_rfl
  have cI := fun wx (hb : Bl w wx) => items_at wx mb l c.d.ty (h.rd.bl hb).mp hty
  obtain ⟨q, hq⟩ : ∃ q, q = body (L s) l (rdB (L s) l f) c.d sub en a k := ⟨_, rfl⟩
  have hq1 : fnd l c.d.ty = none → q = .error (7, -1) := fun he => by rw [hq]; unfold body; rw [if_neg (by omega), if_neg (by omega), if_pos h1, he]
  have hq2 : ∀ i, fnd l c.d.ty = some i → (∀ er, rdB (L s) l f i noE (a, k) = .error er → q = .error er) ∧ ∀ ks st, rdB (L s) l f i noE (a, k) = .ok (ks, st) → q = .ok (⟨c.d.nm, 3, a, st.1 - a, 0, []⟩, ks, st) := fun i he => by
    rw [hq]; unfold body; rw [if_neg (by omega), if_neg (by omega), if_pos h1, he]
    dsimp only
    exact ⟨fun er h => by rw [h], fun ks st h => by rw [h]⟩
  have hok := fun i => hl.fnd (x := c.d.ty) (i := i)
  rw [← hq]
  obtain ⟨r, hr⟩ : ∃ r, r = fnd l c.d.ty := ⟨_, rfl⟩
  rw [← hr] at cI hq1 hq2
  rw [show fnd l c.d.ty = r from hr.symm] at hok
  have hk1 : ((c.d.kd : Int) == 1) = false := by rw [h1]; rfl
  have hk2 : ((c.d.kd : Int) == 2) = false := by rw [h1]; rfl
  have hk3 : ((c.d.kd : Int) == 3) = true := by rw [h1]; rfl
  have HC : Hid (Cv w X R S N P mb s l (a, k) c sub m ⟨c.d.nm, c.d.kd, a, 0, 0, []⟩ ∧ c.d.kd = 3) := ⟨h, h1⟩
  have HSD : Hid (CvT w.drew X R S P mb c m ∧ Bl w w.drew) := ⟨CvT.of (h.bl (Bl.refl _).drew).S h.rd.cells.1, (Bl.refl _).drew⟩
  have HBK : Hid (BlkC s l f ∧ 401 ≤ k + f) := ⟨hB, hf⟩
  have p0 := h.rd.cells.1
  obtain ⟨s1, s2, x0, x1, x2, x3, x4, x5, x6, x7, x8, x9, x10, x11, x12⟩ := h.S
  have hXs := h.iv.lt
  have hRs := h.rr.lt
  have hSs := h.sv.lt
  have hNs := h.nv.lt
  have hPs := h.rd.lt'
  clear hq h h1 hr hl hB hf hty
  cases r with
  | none =>
    have HQ : Hid (q = .error (7, -1)) := hq1 rfl
    have cI' := fun wx (hb : Bl w wx) => (cI wx hb).mono (R' := fun e w' => e = thrL (.iface 28 (.int .i64 7)) ∧ Bl wx w') (fun e w' h => ⟨h.2, h.1⟩)
    clear hq1 hq2 cI hok
    go_enter Tryz.func85, Tryz.ntmps85
    go_upto_region 6 with fail
    refine wp_region_Y 13 (fun wS => wS.cell? ⟨R, 0, none⟩ = some (.pointer (some ⟨P, 0, none⟩)) ∧ wS.cell? ⟨S, 0, none⟩ = some (m) ∧ wS.cell? ⟨X, 0, none⟩ = some (.int .i64 (c.d.kd : Int)) ∧ wS.cell? ⟨X, 1, none⟩ = some (.int .i64 (c.d.at_ : Int)) ∧ wS.cell? ⟨X, 2, none⟩ = some (.string (tx c.d.nm)) ∧ wS.cell? ⟨X, 3, none⟩ = some (.string (tx c.d.ty)) ∧ wS.cell? ⟨X, 4, none⟩ = some (.int .i64 (c.d.wd : Int)) ∧ wS.cell? ⟨X, 5, none⟩ = some (.int .i64 (c.d.od : Int)) ∧ wS.cell? ⟨X, 6, none⟩ = some (.bool c.d.sg) ∧ wS.cell? ⟨X, 7, none⟩ = some (.bool c.d.mn) ∧ wS.cell? ⟨X, 8, none⟩ = some (.pointer c.pc) ∧ wS.cell? ⟨X, 9, none⟩ = some (.int .i64 (c.d.ru : Int)) ∧ wS.cell? ⟨X, 10, none⟩ = some (.string (tx c.d.f1)) ∧ wS.cell? ⟨X, 11, none⟩ = some (.string (tx c.d.l1)) ∧ wS.cell? ⟨X, 12, none⟩ = some (.slice c.p c.n c.c) ∧ wS.cell? ⟨P, 0, none⟩ = some (.map (some mb))) (by kernel_rfl) ?_
    refine wpY_take (i := 0) (oi := _) (v := (.pointer (some ⟨N, 0, none⟩))) rfl (by kernel_rfl) (by kernel_rfl) (by kernel_rfl) (by kernel_rfl) (by kernel_rfl) (fun _ _ _ h => h) (HSD.out.1) (Or.inl ⟨by rfl, fun wS hW => ?_⟩) ?_
    · dsimp only at hW
      obtain ⟨hW0, hW1, hW2, hW3, hW4, hW5, hW6, hW7, hW8, hW9, hW10, hW11, hW12, hW13, hW14, hW15⟩ := hW
      go_simp
    try simp only [Act.put, List.setIfInBounds_toArray, List.set_cons_zero, List.set_cons_succ]
    refine wpY_take (i := 1) (oi := _) (v := (.pointer (some ⟨P, 0, none⟩))) rfl (by kernel_rfl) (by kernel_rfl) (by kernel_rfl) (by kernel_rfl) (by kernel_rfl) (fun _ _ _ h => h) (HSD.out.1) (Or.inl ⟨by rfl, fun wS hW => ?_⟩) ?_
    · dsimp only at hW
      obtain ⟨hW0, hW1, hW2, hW3, hW4, hW5, hW6, hW7, hW8, hW9, hW10, hW11, hW12, hW13, hW14, hW15⟩ := hW
      go_simp
    try simp only [Act.put, List.setIfInBounds_toArray, List.set_cons_zero, List.set_cons_succ]
    refine wpY_take (i := 2) (oi := _) (v := (.pointer (some ⟨P, 0, none⟩))) rfl (by kernel_rfl) (by kernel_rfl) (by kernel_rfl) (by kernel_rfl) (by kernel_rfl) (fun _ _ _ h => h) (HSD.out.1) (Or.inl ⟨by rfl, fun wS hW => ?_⟩) ?_
    · dsimp only at hW
      obtain ⟨hW0, hW1, hW2, hW3, hW4, hW5, hW6, hW7, hW8, hW9, hW10, hW11, hW12, hW13, hW14, hW15⟩ := hW
      go_simp
    try simp only [Act.put, List.setIfInBounds_toArray, List.set_cons_zero, List.set_cons_succ]
    refine wpY_take (i := 3) (oi := _) (v := (.pointer (some ⟨P, 0, none⟩))) rfl (by kernel_rfl) (by kernel_rfl) (by kernel_rfl) (by kernel_rfl) (by kernel_rfl) (fun _ _ _ h => h) (HSD.out.1) (Or.inl ⟨by rfl, fun wS hW => ?_⟩) ?_
    · dsimp only at hW
      obtain ⟨hW0, hW1, hW2, hW3, hW4, hW5, hW6, hW7, hW8, hW9, hW10, hW11, hW12, hW13, hW14, hW15⟩ := hW
      go_simp
    try simp only [Act.put, List.setIfInBounds_toArray, List.set_cons_zero, List.set_cons_succ]
    refine wpY_take (i := 4) (oi := _) (v := (.pointer (some ⟨P, 0, none⟩))) rfl (by kernel_rfl) (by kernel_rfl) (by kernel_rfl) (by kernel_rfl) (by kernel_rfl) (fun _ _ _ h => h) (HSD.out.1) (Or.inl ⟨by rfl, fun wS hW => ?_⟩) ?_
    · dsimp only at hW
      obtain ⟨hW0, hW1, hW2, hW3, hW4, hW5, hW6, hW7, hW8, hW9, hW10, hW11, hW12, hW13, hW14, hW15⟩ := hW
      go_simp
    try simp only [Act.put, List.setIfInBounds_toArray, List.set_cons_zero, List.set_cons_succ]
    refine wpY_take (i := 5) (oi := _) (v := (.map (some mb))) rfl (by kernel_rfl) (by kernel_rfl) (by kernel_rfl) (by kernel_rfl) (by kernel_rfl) (fun _ _ _ h => h) (HSD.out.1) (Or.inl ⟨by rfl, fun wS hW => ?_⟩) ?_
    · dsimp only at hW
      obtain ⟨hW0, hW1, hW2, hW3, hW4, hW5, hW6, hW7, hW8, hW9, hW10, hW11, hW12, hW13, hW14, hW15⟩ := hW
      go_simp
    try simp only [Act.put, List.setIfInBounds_toArray, List.set_cons_zero, List.set_cons_succ]
    refine wpY_take (i := 6) (oi := _) (v := (.pointer (some ⟨X, 3, none⟩))) rfl (by kernel_rfl) (by kernel_rfl) (by kernel_rfl) (by kernel_rfl) (by kernel_rfl) (fun _ _ _ h => h) (HSD.out.1) (Or.inl ⟨by rfl, fun wS hW => ?_⟩) ?_
    · dsimp only at hW
      obtain ⟨hW0, hW1, hW2, hW3, hW4, hW5, hW6, hW7, hW8, hW9, hW10, hW11, hW12, hW13, hW14, hW15⟩ := hW
      go_simp
    try simp only [Act.put, List.setIfInBounds_toArray, List.set_cons_zero, List.set_cons_succ]
    refine wpY_take (i := 7) (oi := _) (v := (.string (tx c.d.ty))) rfl (by kernel_rfl) (by kernel_rfl) (by kernel_rfl) (by kernel_rfl) (by kernel_rfl) (fun _ _ _ h => h) (HSD.out.1) (Or.inl ⟨by rfl, fun wS hW => ?_⟩) ?_
    · dsimp only at hW
      obtain ⟨hW0, hW1, hW2, hW3, hW4, hW5, hW6, hW7, hW8, hW9, hW10, hW11, hW12, hW13, hW14, hW15⟩ := hW
      go_simp
    try simp only [Act.put, List.setIfInBounds_toArray, List.set_cons_zero, List.set_cons_succ]
    refine wpY_two (i := 8) (j := 9) (o := _) (o' := _) (by kernel_rfl) rfl rfl (fun K hK => ?_) (fun K hK => ?_)
    · go_simp
      refine (cI' _ HSD.out.2).mono ?_
      rintro e w6 ⟨rfl, hb6⟩
      have hfin : CloA w N P mb s l q (thrL (.iface 28 (.int .i64 7))) w6 := by rw [HQ.out]; exact ⟨Gq.gp (Gp.bl (Bl.trans HSD.out.2 hb6)), _, rfl, Or.inl ⟨rfl, rfl⟩⟩
      unfold thrL at hfin ⊢
      dsimp only
      exact ⟨rfl, hfin⟩
    · go_simp
      refine hK.out _ _ (fun _ => CvT.bl HSD.out.1 ((Bl.refl _).alloc _)) ?_
      clear hK K
      try simp only [Act.put, List.setIfInBounds_toArray, List.set_cons_zero, List.set_cons_succ]
      refine wpY_one (i := 8) (o := _) (by kernel_rfl) rfl (fun K hK => ?_)
      go_simp
      refine (cI' _ (HSD.out.2.alloc _)).mono ?_
      rintro e w6 ⟨rfl, hb6⟩
      have hfin : CloA w N P mb s l q (thrL (.iface 28 (.int .i64 7))) w6 := by rw [HQ.out]; exact ⟨Gq.gp (Gp.bl (Bl.trans (HSD.out.2.alloc _) hb6)), _, rfl, Or.inl ⟨rfl, rfl⟩⟩
      unfold thrL at hfin ⊢
      dsimp only
      exact ⟨rfl, hfin⟩
  | some i =>
    obtain ⟨hq3, hq4⟩ := hq2 i rfl
    have hoki := hok i rfl
    have cI' := fun wx (hb : Bl w wx) => (cI wx hb).mono (R' := fun e w' => (∃ p n c cs, e = .returned (.slice p n c) ∧ ir.Lie w' (fun g => g < mb) p n c cs ∧ Rep w' (fun g => g < mb) i cs) ∧ Bl wx w') (fun e w' h => ⟨h.2, h.1⟩)
    clear hq1 hq2 cI hok
    go_enter Tryz.func85, Tryz.ntmps85
    go_upto_region 6 with fail
    refine wp_region_Y 13 (fun wS => wS.cell? ⟨R, 0, none⟩ = some (.pointer (some ⟨P, 0, none⟩)) ∧ wS.cell? ⟨S, 0, none⟩ = some (m) ∧ wS.cell? ⟨X, 0, none⟩ = some (.int .i64 (c.d.kd : Int)) ∧ wS.cell? ⟨X, 1, none⟩ = some (.int .i64 (c.d.at_ : Int)) ∧ wS.cell? ⟨X, 2, none⟩ = some (.string (tx c.d.nm)) ∧ wS.cell? ⟨X, 3, none⟩ = some (.string (tx c.d.ty)) ∧ wS.cell? ⟨X, 4, none⟩ = some (.int .i64 (c.d.wd : Int)) ∧ wS.cell? ⟨X, 5, none⟩ = some (.int .i64 (c.d.od : Int)) ∧ wS.cell? ⟨X, 6, none⟩ = some (.bool c.d.sg) ∧ wS.cell? ⟨X, 7, none⟩ = some (.bool c.d.mn) ∧ wS.cell? ⟨X, 8, none⟩ = some (.pointer c.pc) ∧ wS.cell? ⟨X, 9, none⟩ = some (.int .i64 (c.d.ru : Int)) ∧ wS.cell? ⟨X, 10, none⟩ = some (.string (tx c.d.f1)) ∧ wS.cell? ⟨X, 11, none⟩ = some (.string (tx c.d.l1)) ∧ wS.cell? ⟨X, 12, none⟩ = some (.slice c.p c.n c.c) ∧ wS.cell? ⟨P, 0, none⟩ = some (.map (some mb))) (by kernel_rfl) ?_
    refine wpY_take (i := 0) (oi := _) (v := (.pointer (some ⟨N, 0, none⟩))) rfl (by kernel_rfl) (by kernel_rfl) (by kernel_rfl) (by kernel_rfl) (by kernel_rfl) (fun _ _ _ h => h) (HSD.out.1) (Or.inl ⟨by rfl, fun wS hW => ?_⟩) ?_
    · dsimp only at hW
      obtain ⟨hW0, hW1, hW2, hW3, hW4, hW5, hW6, hW7, hW8, hW9, hW10, hW11, hW12, hW13, hW14, hW15⟩ := hW
      go_simp
    try simp only [Act.put, List.setIfInBounds_toArray, List.set_cons_zero, List.set_cons_succ]
    refine wpY_take (i := 1) (oi := _) (v := (.pointer (some ⟨P, 0, none⟩))) rfl (by kernel_rfl) (by kernel_rfl) (by kernel_rfl) (by kernel_rfl) (by kernel_rfl) (fun _ _ _ h => h) (HSD.out.1) (Or.inl ⟨by rfl, fun wS hW => ?_⟩) ?_
    · dsimp only at hW
      obtain ⟨hW0, hW1, hW2, hW3, hW4, hW5, hW6, hW7, hW8, hW9, hW10, hW11, hW12, hW13, hW14, hW15⟩ := hW
      go_simp
    try simp only [Act.put, List.setIfInBounds_toArray, List.set_cons_zero, List.set_cons_succ]
    refine wpY_take (i := 2) (oi := _) (v := (.pointer (some ⟨P, 0, none⟩))) rfl (by kernel_rfl) (by kernel_rfl) (by kernel_rfl) (by kernel_rfl) (by kernel_rfl) (fun _ _ _ h => h) (HSD.out.1) (Or.inl ⟨by rfl, fun wS hW => ?_⟩) ?_
    · dsimp only at hW
      obtain ⟨hW0, hW1, hW2, hW3, hW4, hW5, hW6, hW7, hW8, hW9, hW10, hW11, hW12, hW13, hW14, hW15⟩ := hW
      go_simp
    try simp only [Act.put, List.setIfInBounds_toArray, List.set_cons_zero, List.set_cons_succ]
    refine wpY_take (i := 3) (oi := _) (v := (.pointer (some ⟨P, 0, none⟩))) rfl (by kernel_rfl) (by kernel_rfl) (by kernel_rfl) (by kernel_rfl) (by kernel_rfl) (fun _ _ _ h => h) (HSD.out.1) (Or.inl ⟨by rfl, fun wS hW => ?_⟩) ?_
    · dsimp only at hW
      obtain ⟨hW0, hW1, hW2, hW3, hW4, hW5, hW6, hW7, hW8, hW9, hW10, hW11, hW12, hW13, hW14, hW15⟩ := hW
      go_simp
    try simp only [Act.put, List.setIfInBounds_toArray, List.set_cons_zero, List.set_cons_succ]
    refine wpY_take (i := 4) (oi := _) (v := (.pointer (some ⟨P, 0, none⟩))) rfl (by kernel_rfl) (by kernel_rfl) (by kernel_rfl) (by kernel_rfl) (by kernel_rfl) (fun _ _ _ h => h) (HSD.out.1) (Or.inl ⟨by rfl, fun wS hW => ?_⟩) ?_
    · dsimp only at hW
      obtain ⟨hW0, hW1, hW2, hW3, hW4, hW5, hW6, hW7, hW8, hW9, hW10, hW11, hW12, hW13, hW14, hW15⟩ := hW
      go_simp
    try simp only [Act.put, List.setIfInBounds_toArray, List.set_cons_zero, List.set_cons_succ]
    refine wpY_take (i := 5) (oi := _) (v := (.map (some mb))) rfl (by kernel_rfl) (by kernel_rfl) (by kernel_rfl) (by kernel_rfl) (by kernel_rfl) (fun _ _ _ h => h) (HSD.out.1) (Or.inl ⟨by rfl, fun wS hW => ?_⟩) ?_
    · dsimp only at hW
      obtain ⟨hW0, hW1, hW2, hW3, hW4, hW5, hW6, hW7, hW8, hW9, hW10, hW11, hW12, hW13, hW14, hW15⟩ := hW
      go_simp
    try simp only [Act.put, List.setIfInBounds_toArray, List.set_cons_zero, List.set_cons_succ]
    refine wpY_take (i := 6) (oi := _) (v := (.pointer (some ⟨X, 3, none⟩))) rfl (by kernel_rfl) (by kernel_rfl) (by kernel_rfl) (by kernel_rfl) (by kernel_rfl) (fun _ _ _ h => h) (HSD.out.1) (Or.inl ⟨by rfl, fun wS hW => ?_⟩) ?_
    · dsimp only at hW
      obtain ⟨hW0, hW1, hW2, hW3, hW4, hW5, hW6, hW7, hW8, hW9, hW10, hW11, hW12, hW13, hW14, hW15⟩ := hW
      go_simp
    try simp only [Act.put, List.setIfInBounds_toArray, List.set_cons_zero, List.set_cons_succ]
    refine wpY_take (i := 7) (oi := _) (v := (.string (tx c.d.ty))) rfl (by kernel_rfl) (by kernel_rfl) (by kernel_rfl) (by kernel_rfl) (by kernel_rfl) (fun _ _ _ h => h) (HSD.out.1) (Or.inl ⟨by rfl, fun wS hW => ?_⟩) ?_
    · dsimp only at hW
      obtain ⟨hW0, hW1, hW2, hW3, hW4, hW5, hW6, hW7, hW8, hW9, hW10, hW11, hW12, hW13, hW14, hW15⟩ := hW
      go_simp
    try simp only [Act.put, List.setIfInBounds_toArray, List.set_cons_zero, List.set_cons_succ]
    refine wpY_two (i := 8) (j := 9) (o := _) (o' := _) (by kernel_rfl) rfl rfl (fun K hK => ?_) (fun K hK => ?_)
    · go_simp
      refine (cI' _ HSD.out.2).mono ?_
      rintro e w6 ⟨⟨p, n, pc, cs, rfl, hli, hre⟩, hb6⟩
      dsimp only
      refine hK.out _ _ (fun _ => CvT.bl HSD.out.1 hb6) ?_
      clear hK K
      try simp only [Act.put, List.setIfInBounds_toArray, List.set_cons_zero, List.set_cons_succ]
      refine wpY_one (i := 9) (o := _) (by kernel_rfl) rfl (fun K hK => ?_)
      go_simp
      obtain ⟨w7, hw7⟩ : ∃ w7, w7 = w6.alloc (.map #[] 0) := ⟨_, rfl⟩
      have hb7 : Bl w6 w7 := by rw [hw7]; exact (Bl.refl _).alloc _
      have hom : Om w7 w6.heap.size noE 0 := by rw [hw7]; exact Om.made w6
      have hli := hli.keep (fun g _ hg => Below.block hb7 g hg) hb7.size
      have hre := hre.keep (fun g _ hg => Below.block hb7 g hg) hb7.size (Kx.bl hb7)
      obtain ⟨m2, hm2e⟩ : ∃ m2, m2 = w6.heap.size := ⟨_, rfl⟩
      rw [← hm2e] at hom
      have H7 : Hid (Bl w w7 ∧ w.heap.size ≤ m2) := ⟨(HSD.out.2.trans hb6).trans hb7, by have := (HSD.out.2.trans hb6).size; omega⟩
      have hm2 : P < m2 := by have := H7.out.2; omega
      rw [← hw7, ← hm2e]
      refine hK.out _ _ (fun _ => CvT.bl (CvT.bl HSD.out.1 hb6) hb7) ?_
      clear hK K
      try simp only [Act.put, List.setIfInBounds_toArray, List.set_cons_zero, List.set_cons_succ]
      clear hw7 hm2e
      refine wpY_one (i := 10) (o := _) (by kernel_rfl) rfl (fun K hK => ?_)
      go_simp
      have cB := HBK.out.1 w7 P mb m2 (a, k) i p n pc cs noE 0 (HC.out.1.rd.bl H7.out.1) hoki hli hre hom (Nat.zero_le _) hm2 HBK.out.2
      refine cB.mono ?_
      rintro e w8 ⟨hg8, hans⟩
      have hgw : Gp P w w8 := hg8.below (Gp.bl H7.out.1) H7.out.2
      generalize rdB (L s) l f i noE (a, k) = r at hans hq3 hq4
      cases r with
      | error er =>
        obtain ⟨v, rfl, hv⟩ := hans
        have hfin : CloA w N P mb s l q (thrL v) w8 := by rw [hq3 er rfl]; exact ⟨Gq.gp hgw, v, rfl, hv.from H7.out.1.size⟩
        unfold thrL at hfin ⊢
        dsimp only
        exact ⟨rfl, hfin⟩
      | ok kst =>
        obtain ⟨ks, st'⟩ := kst
        obtain ⟨kp, kc, rfl, hks, hr8⟩ := hans
        have H8 : Hid (Cv w8 X R S N P mb s l st' c sub m ⟨c.d.nm, c.d.kd, a, 0, 0, []⟩ ∧ IsNs w8 (fun g => w7.heap.size ≤ g) kp ks.len kc ks ∧ Gp P w w8 ∧ q = .ok (⟨c.d.nm, 3, a, st'.1 - a, 0, []⟩, ks, st') ∧ w.heap.size ≤ w7.heap.size ∧ N < w.heap.size) := ⟨HC.out.1.gp hgw hr8, hks, hgw, hq4 ks st' rfl, H7.out.1.size, HC.out.1.nv.lt⟩
        have hS8 : CvT w8 X R S P mb c m := CvT.of H8.out.1.S hr8.cells.1
        have n6 : w8.cell? ⟨N, 6, none⟩ = some (.slice none 0 0) := H8.out.1.nv.cells.2.2.2.2.2.2
        have y6 := H8.out.1.nv.fz.2.2.2.2.2.2
        have hN8 := H8.out.1.nv.lt
        clear hq3 hq4 hks hr8 hgw hg8 cB hom hli hre s1 s2 x0 x1 x2 x3 x4 x5 x6 x7 x8 x9 x10 x11 x12 p0
        dsimp only
        refine hK.out _ _ (fun _ => hS8) ?_
        clear hK K
        try simp only [Act.put, List.setIfInBounds_toArray, List.set_cons_zero, List.set_cons_succ]
        refine wpY_one (i := 11) (o := _) (by kernel_rfl) rfl (fun K hK => ?_)
        go_simp
        refine hK.out _ _ (fun _ => hS8) ?_
        clear hK K
        try simp only [Act.put, List.setIfInBounds_toArray, List.set_cons_zero, List.set_cons_succ]
        refine wpY_one (i := 12) (o := _) (by kernel_rfl) rfl (fun K hK => ?_)
        go_simp
        refine hK.out _ _ (fun _ => hS8) ?_
        clear hK K
        try simp only [Act.put, List.setIfInBounds_toArray, List.set_cons_zero, List.set_cons_succ]
        refine wpY_one (i := 13) (o := _) (by kernel_rfl) rfl (fun K hK => ?_)
        go_simp
        refine hK.out _ _ (fun h => absurd h (by decide)) ?_
        clear hK K
        try simp only [Act.put, List.setIfInBounds_toArray, List.set_cons_zero, List.set_cons_succ]
        refine wpY_done (by kernel_rfl) ?_ _
        have hfin : CloA w N P mb s l q (.returned (.tuple #[])) (w8.setCell ⟨N, 6, none⟩ (.slice kp ks.len kc)) := by
          rw [H8.out.2.2.2.1]
          refine ⟨(Gq.gp H8.out.2.2.1).trans (Gq.setQ _), rfl, kp, kc, ?_, ?_, ?_⟩
          · have := H8.out.1.nv.setK kp ks.len kc
            rw [HC.out.2] at this
            exact this
          · exact (H8.out.2.1.keep (fun g h1 h2 => (Gp.set (P := N) (j := 6) (w := w8) (.slice kp ks.len kc)).block g h2 (by have := H8.out.2.2.2.2; omega)) (Gp.set (P := N) (j := 6) (w := w8) (.slice kp ks.len kc)).size).mono (fun g h1 _ => by have := H8.out.2.2.2.2.1; omega)
          · exact H8.out.1.rd.setN H8.out.1.nv (by have := H8.out.1.lt; omega)
        exact bodyPost_end (results_none rfl _ _ _) rfl hfin
    · go_simp
      obtain ⟨w5, hw5⟩ : ∃ w5, w5 = (w.alloc (.map #[] 0)).drew := ⟨_, rfl⟩
      have hb5 : Bl w.drew w5 := by rw [hw5]; exact (show Bl w.drew (w.drew.alloc (.map #[] 0)) from (Bl.refl _).alloc _)
      have hom5 : Om w5 w.heap.size noE 0 := by rw [hw5]; exact (show Om (w.drew.alloc (.map #[] 0)) w.drew.heap.size noE 0 from Om.made w.drew)
      obtain ⟨m2, hm2e⟩ : ∃ m2, m2 = w.heap.size := ⟨_, rfl⟩
      rw [← hm2e] at hom5
      have hm2w : w.heap.size ≤ m2 := by omega
      rw [← hw5, ← hm2e]
      clear hw5 hm2e
      refine hK.out _ _ (fun _ => CvT.bl HSD.out.1 hb5) ?_
      clear hK K
      try simp only [Act.put, List.setIfInBounds_toArray, List.set_cons_zero, List.set_cons_succ]
      refine wpY_one (i := 8) (o := _) (by kernel_rfl) rfl (fun K hK => ?_)
      go_simp
      refine (cI' _ (HSD.out.2.trans hb5)).mono ?_
      rintro e w7 ⟨⟨p, n, pc, cs, rfl, hli, hre⟩, hb7⟩
      have hom : Om w7 m2 noE 0 := hom5.below hb7
      have H7 : Hid (Bl w w7 ∧ w.heap.size ≤ m2) := ⟨(HSD.out.2.trans hb5).trans hb7, by omega⟩
      have hm2 : P < m2 := by have := H7.out.2; omega
      dsimp only
      refine hK.out _ _ (fun _ => CvT.bl (CvT.bl HSD.out.1 hb5) hb7) ?_
      clear hK K
      try simp only [Act.put, List.setIfInBounds_toArray, List.set_cons_zero, List.set_cons_succ]
      refine wpY_one (i := 10) (o := _) (by kernel_rfl) rfl (fun K hK => ?_)
      go_simp
      have cB := HBK.out.1 w7 P mb m2 (a, k) i p n pc cs noE 0 (HC.out.1.rd.bl H7.out.1) hoki hli hre hom (Nat.zero_le _) hm2 HBK.out.2
      refine cB.mono ?_
      rintro e w8 ⟨hg8, hans⟩
      have hgw : Gp P w w8 := hg8.below (Gp.bl H7.out.1) H7.out.2
      generalize rdB (L s) l f i noE (a, k) = r at hans hq3 hq4
      cases r with
      | error er =>
        obtain ⟨v, rfl, hv⟩ := hans
        have hfin : CloA w N P mb s l q (thrL v) w8 := by rw [hq3 er rfl]; exact ⟨Gq.gp hgw, v, rfl, hv.from H7.out.1.size⟩
        unfold thrL at hfin ⊢
        dsimp only
        exact ⟨rfl, hfin⟩
      | ok kst =>
        obtain ⟨ks, st'⟩ := kst
        obtain ⟨kp, kc, rfl, hks, hr8⟩ := hans
        have H8 : Hid (Cv w8 X R S N P mb s l st' c sub m ⟨c.d.nm, c.d.kd, a, 0, 0, []⟩ ∧ IsNs w8 (fun g => w7.heap.size ≤ g) kp ks.len kc ks ∧ Gp P w w8 ∧ q = .ok (⟨c.d.nm, 3, a, st'.1 - a, 0, []⟩, ks, st') ∧ w.heap.size ≤ w7.heap.size ∧ N < w.heap.size) := ⟨HC.out.1.gp hgw hr8, hks, hgw, hq4 ks st' rfl, H7.out.1.size, HC.out.1.nv.lt⟩
        have hS8 : CvT w8 X R S P mb c m := CvT.of H8.out.1.S hr8.cells.1
        have n6 : w8.cell? ⟨N, 6, none⟩ = some (.slice none 0 0) := H8.out.1.nv.cells.2.2.2.2.2.2
        have y6 := H8.out.1.nv.fz.2.2.2.2.2.2
        have hN8 := H8.out.1.nv.lt
        clear hq3 hq4 hks hr8 hgw hg8 cB hom hli hre s1 s2 x0 x1 x2 x3 x4 x5 x6 x7 x8 x9 x10 x11 x12 p0
        dsimp only
        refine hK.out _ _ (fun _ => hS8) ?_
        clear hK K
        try simp only [Act.put, List.setIfInBounds_toArray, List.set_cons_zero, List.set_cons_succ]
        refine wpY_one (i := 11) (o := _) (by kernel_rfl) rfl (fun K hK => ?_)
        go_simp
        refine hK.out _ _ (fun _ => hS8) ?_
        clear hK K
        try simp only [Act.put, List.setIfInBounds_toArray, List.set_cons_zero, List.set_cons_succ]
        refine wpY_one (i := 12) (o := _) (by kernel_rfl) rfl (fun K hK => ?_)
        go_simp
        refine hK.out _ _ (fun _ => hS8) ?_
        clear hK K
        try simp only [Act.put, List.setIfInBounds_toArray, List.set_cons_zero, List.set_cons_succ]
        refine wpY_one (i := 13) (o := _) (by kernel_rfl) rfl (fun K hK => ?_)
        go_simp
        refine hK.out _ _ (fun h => absurd h (by decide)) ?_
        clear hK K
        try simp only [Act.put, List.setIfInBounds_toArray, List.set_cons_zero, List.set_cons_succ]
        refine wpY_done (by kernel_rfl) ?_ _
        have hfin : CloA w N P mb s l q (.returned (.tuple #[])) (w8.setCell ⟨N, 6, none⟩ (.slice kp ks.len kc)) := by
          rw [H8.out.2.2.2.1]
          refine ⟨(Gq.gp H8.out.2.2.1).trans (Gq.setQ _), rfl, kp, kc, ?_, ?_, ?_⟩
          · have := H8.out.1.nv.setK kp ks.len kc
            rw [HC.out.2] at this
            exact this
          · exact (H8.out.2.1.keep (fun g h1 h2 => (Gp.set (P := N) (j := 6) (w := w8) (.slice kp ks.len kc)).block g h2 (by have := H8.out.2.2.2.2; omega)) (Gp.set (P := N) (j := 6) (w := w8) (.slice kp ks.len kc)).size).mono (fun g h1 _ => by have := H8.out.2.2.2.2.1; omega)
          · exact H8.out.1.rd.setN H8.out.1.nv (by have := H8.out.1.lt; omega)
        exact bodyPost_end (results_none rfl _ _ _) rfl hfin
end Go.Proofs.YtococaecjecjgaaGreatDoor.ly
namespace Go.Proofs.YtococaecjecjgaaGreatDoor.ly
set_option linter.unusedVariables false
set_option linter.unusedSimpArgs false
open Go.ChangeShapes Go.WideShapes Go.ChangeAt Go.RowKit
open mem lx ex tm num

set_option maxRecDepth 10000 in
set_option maxHeartbeats 4000000 in
theorem clo_when (f : Nat) (w : World) (X R S N P mb : Nat) (s : ByteArray) (l : List Ty) (a k : Nat) (c : C) (sub : Its) (b k0 : Nat) (en : Env) (h : Cv w X R S N P mb s l (a, k) c sub (.map (some b)) ⟨c.d.nm, c.d.kd, a, 0, 0, []⟩) (hd : WD c.d) (h1 : c.d.kd = 4) (hs : OKI sub) (hom : Om w b en k0) (hk0 : k0 ≤ k) (hB : BlkC s l f) (hf : 401 ≤ k + f) :
    Calls Tryz.prog 85 #[.pointer (some ⟨N, 0, none⟩), .pointer (some ⟨X, 0, none⟩), .pointer (some ⟨R, 0, none⟩), .pointer (some ⟨S, 0, none⟩)] w fun e w' => CloA w N P mb s l (body (L s) l (rdB (L s) l f) c.d sub en a k) e w' := by
  obtain ⟨x, hct, hwx⟩ := wx_of hd (Or.inr (Or.inl h1))
  have hX : IsX w (.pointer c.pc) x := by have := h.it.1; rw [hct] at this; exact this
  have cV := value_at c (.map (some b)) en x w hX (wx_okb hwx) hom.isM
  rw [itV_eq] at cV
  obtain ⟨q, hq⟩ : ∃ q, q = body (L s) l (rdB (L s) l f) c.d sub en a k := ⟨_, rfl⟩
  have hev : evO en c.d.ct = ev en x := by rw [hct]; rfl
  have hq1 : ∀ p, ev en x = .error p → q = .error (5, (p : Int)) := fun p he => by rw [hq]; unfold body; rw [if_neg (by omega), if_neg (by omega), if_neg (by omega), hev, he]
  have hq2 : ev en x = .ok 0 → q = .ok (⟨c.d.nm, 4, a, 0, 0, []⟩, .nil, (a, k)) := fun he => by rw [hq]; unfold body; rw [if_neg (by omega), if_neg (by omega), if_neg (by omega), hev, he]; rfl
  have hq3 : ∀ n, ev en x = .ok n → n ≠ 0 → (∀ er, rdB (L s) l f sub en (a, k) = .error er → q = .error er) ∧ ∀ ks st, rdB (L s) l f sub en (a, k) = .ok (ks, st) → q = .ok (⟨c.d.nm, 4, a, st.1 - a, 1, []⟩, ks, st) := fun n he hn => by
    rw [hq]; unfold body; rw [if_neg (by omega), if_neg (by omega), if_neg (by omega), hev, he]
    dsimp only
    rw [if_neg hn]
    exact ⟨fun er h => by rw [h], fun ks st h => by rw [h]⟩
  rw [← hq]
  obtain ⟨r, hr⟩ : ∃ r, r = ev en x := ⟨_, rfl⟩
  rw [← hr] at cV hq1 hq2 hq3
  have hk1 : ((c.d.kd : Int) == 1) = false := by rw [h1]; rfl
  have hk2 : ((c.d.kd : Int) == 2) = false := by rw [h1]; rfl
  have hk3 : ((c.d.kd : Int) == 3) = false := by rw [h1]; rfl
  have hk4 : ((c.d.kd : Int) == 4) = true := by rw [h1]; rfl
  have HC : Hid (Cv w X R S N P mb s l (a, k) c sub (.map (some b)) ⟨c.d.nm, c.d.kd, a, 0, 0, []⟩ ∧ c.d.kd = 4 ∧ Om w b en k0 ∧ k0 ≤ k ∧ OKI sub) := ⟨h, h1, hom, hk0, hs⟩
  have HBK : Hid (BlkC s l f ∧ 401 ≤ k + f) := ⟨hB, hf⟩
  obtain ⟨s1, s2, x0, x1, x2, x3, x4, x5, x6, x7, x8, x9, x10, x11, x12⟩ := h.S
  have hXs := h.iv.lt
  have hRs := h.rr.lt
  have hSs := h.sv.lt
  have hNs := h.nv.lt
  have hPs := h.rd.lt'
  clear hq h h1 hd hr hB hf hct hwx hX hev hom hk0 hs
  go_enter Tryz.func85, Tryz.ntmps85
  go_wp2_with fail
  refine cV.mono ?_
  rintro e w2 ⟨hb2, hans⟩
  cases r with
  | error p =>
    obtain ⟨v, rfl, hv⟩ := hans
    have HQ : Hid (q = .error (5, (p : Int))) := hq1 p rfl
    clear hq1 hq2 hq3 cV
    unfold thrL
    go_wp2
    rw [HQ.out]
    exact ⟨rfl, Gq.gp (Gp.bl hb2), v, rfl, hv⟩
  | ok n =>
    dsimp only at hans
    subst hans
    by_cases hn : n = 0
    · subst hn
      have HQ : Hid (q = .ok (⟨c.d.nm, 4, a, 0, 0, []⟩, .nil, (a, k))) := hq2 rfl
      have H2 : Hid (Cv w2 X R S N P mb s l (a, k) c sub (.map (some b)) ⟨c.d.nm, c.d.kd, a, 0, 0, []⟩ ∧ Bl w w2) := ⟨HC.out.1.bl hb2, hb2⟩
      clear hq1 hq2 hq3 cV
      go_wp2
      have hfin : CloA w N P mb s l q (.returned (.tuple #[])) w2 := by
        rw [HQ.out]
        refine ⟨Gq.gp (Gp.bl H2.out.2), rfl, none, 0, ?_, IsNs.none _ _, H2.out.1.rd⟩
        have := H2.out.1.nv
        rw [HC.out.2.1] at this
        exact this
      exact bodyPost_end (results_none rfl _ _ _) rfl hfin
    · obtain ⟨hq4, hq5⟩ := hq3 n rfl hn
      have hn0 : (n == 0) = false := by rw [beq_eq_false_iff_ne]; exact hn
      have H2 : Hid (Cv w2 X R S N P mb s l (a, k) c sub (.map (some b)) ⟨c.d.nm, c.d.kd, a, 0, 0, []⟩ ∧ Bl w w2 ∧ Om w2 b en k0) := ⟨HC.out.1.bl hb2, hb2, HC.out.2.2.1.below hb2⟩
      have HSD : Hid (CvS w2.drew X R S P c (.map (some b)) ∧ Bl w w2.drew ∧ Bl w2 w2.drew) := ⟨(H2.out.1.bl (Bl.refl _).drew).S, hb2.trans (Bl.refl _).drew, (Bl.refl _).drew⟩
      obtain ⟨es, clock, hblk⟩ := H2.out.2.2.block
      have cC := Clone_at b es clock w2.drew hblk
      have hom3 : Om (w2.drew.alloc (.map es clock)) w2.drew.heap.size en k0 := (H2.out.2.2.below (Bl.refl w2).drew).clone hblk
      have hnb : decide (n = 0) = false := decide_eq_false hn
      clear hq1 hq2 hq3 cV s1 s2 x0 x1 x2 x3 x4 x5 x6 x7 x8 x9 x10 x11 x12 hblk
      obtain ⟨s1, s2, x0, x1, x2, x3, x4, x5, x6, x7, x8, x9, x10, x11, x12⟩ := H2.out.1.S
      go_upto_region 9 with fail
      refine wp_region_Y 13 (fun wS => wS.cell? ⟨R, 0, none⟩ = some (.pointer (some ⟨P, 0, none⟩)) ∧ wS.cell? ⟨S, 0, none⟩ = some (.map (some b)) ∧ wS.cell? ⟨X, 0, none⟩ = some (.int .i64 (c.d.kd : Int)) ∧ wS.cell? ⟨X, 1, none⟩ = some (.int .i64 (c.d.at_ : Int)) ∧ wS.cell? ⟨X, 2, none⟩ = some (.string (tx c.d.nm)) ∧ wS.cell? ⟨X, 3, none⟩ = some (.string (tx c.d.ty)) ∧ wS.cell? ⟨X, 4, none⟩ = some (.int .i64 (c.d.wd : Int)) ∧ wS.cell? ⟨X, 5, none⟩ = some (.int .i64 (c.d.od : Int)) ∧ wS.cell? ⟨X, 6, none⟩ = some (.bool c.d.sg) ∧ wS.cell? ⟨X, 7, none⟩ = some (.bool c.d.mn) ∧ wS.cell? ⟨X, 8, none⟩ = some (.pointer c.pc) ∧ wS.cell? ⟨X, 9, none⟩ = some (.int .i64 (c.d.ru : Int)) ∧ wS.cell? ⟨X, 10, none⟩ = some (.string (tx c.d.f1)) ∧ wS.cell? ⟨X, 11, none⟩ = some (.string (tx c.d.l1)) ∧ wS.cell? ⟨X, 12, none⟩ = some (.slice c.p c.n c.c)) (by kernel_rfl) ?_
      refine wpY_take (i := 0) (oi := _) (v := (.pointer (some ⟨N, 0, none⟩))) rfl (by kernel_rfl) (by kernel_rfl) (by kernel_rfl) (by kernel_rfl) (by kernel_rfl) (fun _ _ _ h => h) (HSD.out.1) (Or.inl ⟨by rfl, fun wS hW => ?_⟩) ?_
      · dsimp only at hW
        obtain ⟨hW0, hW1, hW2, hW3, hW4, hW5, hW6, hW7, hW8, hW9, hW10, hW11, hW12, hW13, hW14⟩ := hW
        go_simp
      try simp only [Act.put, List.setIfInBounds_toArray, List.set_cons_zero, List.set_cons_succ]
      refine wpY_take (i := 1) (oi := _) (v := (.pointer (some ⟨N, 0, none⟩))) rfl (by kernel_rfl) (by kernel_rfl) (by kernel_rfl) (by kernel_rfl) (by kernel_rfl) (fun _ _ _ h => h) (HSD.out.1) (Or.inl ⟨by rfl, fun wS hW => ?_⟩) ?_
      · dsimp only at hW
        obtain ⟨hW0, hW1, hW2, hW3, hW4, hW5, hW6, hW7, hW8, hW9, hW10, hW11, hW12, hW13, hW14⟩ := hW
        go_simp
      try simp only [Act.put, List.setIfInBounds_toArray, List.set_cons_zero, List.set_cons_succ]
      refine wpY_take (i := 2) (oi := _) (v := (.pointer (some ⟨P, 0, none⟩))) rfl (by kernel_rfl) (by kernel_rfl) (by kernel_rfl) (by kernel_rfl) (by kernel_rfl) (fun _ _ _ h => h) (HSD.out.1) (Or.inl ⟨by rfl, fun wS hW => ?_⟩) ?_
      · dsimp only at hW
        obtain ⟨hW0, hW1, hW2, hW3, hW4, hW5, hW6, hW7, hW8, hW9, hW10, hW11, hW12, hW13, hW14⟩ := hW
        go_simp
      try simp only [Act.put, List.setIfInBounds_toArray, List.set_cons_zero, List.set_cons_succ]
      refine wpY_take (i := 3) (oi := _) (v := (.pointer (some ⟨X, 12, none⟩))) rfl (by kernel_rfl) (by kernel_rfl) (by kernel_rfl) (by kernel_rfl) (by kernel_rfl) (fun _ _ _ h => h) (HSD.out.1) (Or.inl ⟨by rfl, fun wS hW => ?_⟩) ?_
      · dsimp only at hW
        obtain ⟨hW0, hW1, hW2, hW3, hW4, hW5, hW6, hW7, hW8, hW9, hW10, hW11, hW12, hW13, hW14⟩ := hW
        go_simp
      try simp only [Act.put, List.setIfInBounds_toArray, List.set_cons_zero, List.set_cons_succ]
      refine wpY_take (i := 4) (oi := _) (v := (.slice c.p c.n c.c)) rfl (by kernel_rfl) (by kernel_rfl) (by kernel_rfl) (by kernel_rfl) (by kernel_rfl) (fun _ _ _ h => h) (HSD.out.1) (Or.inl ⟨by rfl, fun wS hW => ?_⟩) ?_
      · dsimp only at hW
        obtain ⟨hW0, hW1, hW2, hW3, hW4, hW5, hW6, hW7, hW8, hW9, hW10, hW11, hW12, hW13, hW14⟩ := hW
        go_simp
      try simp only [Act.put, List.setIfInBounds_toArray, List.set_cons_zero, List.set_cons_succ]
      refine wpY_take (i := 5) (oi := _) (v := (.map (some b))) rfl (by kernel_rfl) (by kernel_rfl) (by kernel_rfl) (by kernel_rfl) (by kernel_rfl) (fun _ _ _ h => h) (HSD.out.1) (Or.inl ⟨by rfl, fun wS hW => ?_⟩) ?_
      · dsimp only at hW
        obtain ⟨hW0, hW1, hW2, hW3, hW4, hW5, hW6, hW7, hW8, hW9, hW10, hW11, hW12, hW13, hW14⟩ := hW
        go_simp
      try simp only [Act.put, List.setIfInBounds_toArray, List.set_cons_zero, List.set_cons_succ]
      refine wpY_one (i := 6) (o := _) (by kernel_rfl) rfl (fun K hK => ?_)
      go_simp
      refine cC.mono ?_
      rintro e w3' ⟨rfl, rfl⟩
      obtain ⟨w3, hw3⟩ : ∃ w3, w3 = w2.drew.alloc (.map es clock) := ⟨_, rfl⟩
      have hb3 : Bl w2.drew w3 := by rw [hw3]; exact (Bl.refl _).alloc _
      obtain ⟨m2, hm2e⟩ : ∃ m2, m2 = w2.drew.heap.size := ⟨_, rfl⟩
      rw [← hw3, ← hm2e] at hom3
      rw [← hw3, ← hm2e]
      have H3 : Hid (Cv w3 X R S N P mb s l (a, k) c sub (.map (some b)) ⟨c.d.nm, c.d.kd, a, 0, 0, []⟩ ∧ Bl w w3 ∧ w.heap.size ≤ m2) := ⟨(H2.out.1.bl HSD.out.2.2).bl hb3, HSD.out.2.1.trans hb3, by rw [hm2e]; exact HSD.out.2.1.size⟩
      have hm2 : P < m2 := by have := H3.out.2.2; omega
      clear hw3 hm2e cC
      dsimp only
      refine hK.out _ _ (fun _ => H3.out.1.S) ?_
      clear hK K
      try simp only [Act.put, List.setIfInBounds_toArray, List.set_cons_zero, List.set_cons_succ]
      refine wpY_one (i := 7) (o := _) (by kernel_rfl) rfl (fun K hK => ?_)
      go_simp
      obtain ⟨_, cs, hli, hre⟩ := H3.out.1.it
      have cB := HBK.out.1 w3 P mb m2 (a, k) sub c.p c.n c.c cs en k0 H3.out.1.rd HC.out.2.2.2.2 hli hre hom3 HC.out.2.2.2.1 hm2 HBK.out.2
      refine cB.mono ?_
      rintro e w8 ⟨hg8, hans⟩
      have hgw : Gp P w w8 := hg8.below (Gp.bl H3.out.2.1) H3.out.2.2
      generalize rdB (L s) l f sub en (a, k) = r at hans hq4 hq5
      cases r with
      | error er =>
        obtain ⟨v, rfl, hv⟩ := hans
        have hfin : CloA w N P mb s l q (thrL v) w8 := by rw [hq4 er rfl]; exact ⟨Gq.gp hgw, v, rfl, hv.from H3.out.2.1.size⟩
        unfold thrL at hfin ⊢
        dsimp only
        exact ⟨rfl, hfin⟩
      | ok kst =>
        obtain ⟨ks, st'⟩ := kst
        obtain ⟨kp, kc, rfl, hks, hr8⟩ := hans
        have H8 : Hid (Cv w8 X R S N P mb s l st' c sub (.map (some b)) ⟨c.d.nm, c.d.kd, a, 0, 0, []⟩ ∧ IsNs w8 (fun g => w3.heap.size ≤ g) kp ks.len kc ks ∧ Gp P w w8 ∧ q = .ok (⟨c.d.nm, 4, a, st'.1 - a, 1, []⟩, ks, st') ∧ w.heap.size ≤ w3.heap.size ∧ N < w.heap.size) := ⟨HC.out.1.gp hgw hr8, hks, hgw, hq5 ks st' rfl, H3.out.2.1.size, HC.out.1.nv.lt⟩
        have hS8 : CvS w8 X R S P c (.map (some b)) := H8.out.1.S
        have n4 : w8.cell? ⟨N, 4, none⟩ = some (.int .i64 0) := H8.out.1.nv.cells.2.2.2.2.1
        have y4 := H8.out.1.nv.fz.2.2.2.2.1
        have n6 : w8.cell? ⟨N, 6, none⟩ = some (.slice none 0 0) := H8.out.1.nv.cells.2.2.2.2.2.2
        have y6 := H8.out.1.nv.fz.2.2.2.2.2.2
        have hN8 := H8.out.1.nv.lt
        have hS9 : CvS (w8.setCell ⟨N, 4, none⟩ (.int .i64 1)) X R S P c (.map (some b)) := hS8.set H8.out.1.lt.2.2.2.1 H8.out.1.lt.2.2.2.2.1 H8.out.1.lt.2.2.2.2.2 _
        clear hq4 hq5 hks hr8 hgw hg8 cB hom3 hli hre s1 s2 x0 x1 x2 x3 x4 x5 x6 x7 x8 x9 x10 x11 x12
        dsimp only
        refine hK.out _ _ (fun _ => hS8) ?_
        clear hK K
        try simp only [Act.put, List.setIfInBounds_toArray, List.set_cons_zero, List.set_cons_succ]
        refine wpY_one (i := 8) (o := _) (by kernel_rfl) rfl (fun K hK => ?_)
        go_simp
        refine hK.out _ _ (fun _ => hS8) ?_
        clear hK K
        try simp only [Act.put, List.setIfInBounds_toArray, List.set_cons_zero, List.set_cons_succ]
        refine wpY_one (i := 9) (o := _) (by kernel_rfl) rfl (fun K hK => ?_)
        go_simp
        refine hK.out _ _ (fun _ => hS8) ?_
        clear hK K
        try simp only [Act.put, List.setIfInBounds_toArray, List.set_cons_zero, List.set_cons_succ]
        refine wpY_one (i := 10) (o := _) (by kernel_rfl) rfl (fun K hK => ?_)
        go_simp
        refine hK.out _ _ (fun _ => hS9) ?_
        clear hK K
        try simp only [Act.put, List.setIfInBounds_toArray, List.set_cons_zero, List.set_cons_succ]
        refine wpY_one (i := 11) (o := _) (by kernel_rfl) rfl (fun K hK => ?_)
        go_simp
        refine hK.out _ _ (fun _ => hS9) ?_
        clear hK K
        try simp only [Act.put, List.setIfInBounds_toArray, List.set_cons_zero, List.set_cons_succ]
        refine wpY_one (i := 12) (o := _) (by kernel_rfl) rfl (fun K hK => ?_)
        go_simp
        refine hK.out _ _ (fun _ => hS9) ?_
        clear hK K
        try simp only [Act.put, List.setIfInBounds_toArray, List.set_cons_zero, List.set_cons_succ]
        refine wpY_one (i := 13) (o := _) (by kernel_rfl) rfl (fun K hK => ?_)
        go_simp
        refine hK.out _ _ (fun h => absurd h (by decide)) ?_
        clear hK K
        try simp only [Act.put, List.setIfInBounds_toArray, List.set_cons_zero, List.set_cons_succ]
        refine wpY_done (by kernel_rfl) ?_ _
        have hfin : CloA w N P mb s l q (.returned (.tuple #[])) ((w8.setCell ⟨N, 4, none⟩ (.int .i64 1)).setCell ⟨N, 6, none⟩ (.slice kp ks.len kc)) := by
          rw [H8.out.2.2.2.1]
          have hn1 := H8.out.1.nv.setN 1
          have hr1 := H8.out.1.rd.setN (j := 4) (v := .int .i64 1) H8.out.1.nv (by have := H8.out.1.lt; omega)
          have hk1 := H8.out.2.1.keep (w' := w8.setCell ⟨N, 4, none⟩ (.int .i64 1)) (fun g h1 h2 => (Gp.set (P := N) (j := 4) (w := w8) (.int .i64 1)).block g h2 (by have := H8.out.2.2.2.2; omega)) (Gp.set (P := N) (j := 4) (w := w8) (.int .i64 1)).size
          have hg9 : Gq P N w8 (w8.setCell ⟨N, 4, none⟩ (.int .i64 1)) := Gq.setQ _
          generalize w8.setCell ⟨N, 4, none⟩ (.int .i64 1) = w9 at *
          refine ⟨((Gq.gp H8.out.2.2.1).trans hg9).trans (Gq.setQ _), rfl, kp, kc, ?_, ?_, ?_⟩
          · have := hn1.setK kp ks.len kc
            rw [HC.out.2.1] at this
            exact this
          · exact (hk1.keep (fun g h1 h2 => (Gp.set (P := N) (j := 6) (w := w9) (.slice kp ks.len kc)).block g h2 (by have := H8.out.2.2.2.2; omega)) (Gp.set (P := N) (j := 6) (w := w9) (.slice kp ks.len kc)).size).mono (fun g h1 _ => by have := H8.out.2.2.2.2.1; omega)
          · exact hr1.setN hn1 (by have := H8.out.1.lt; omega)
        exact bodyPost_end (results_none rfl _ _ _) rfl hfin
end Go.Proofs.YtococaecjecjgaaGreatDoor.ly
