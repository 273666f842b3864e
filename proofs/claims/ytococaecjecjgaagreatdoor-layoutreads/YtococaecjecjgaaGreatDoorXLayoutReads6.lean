/- Texts laid together: Ex2, Ex3, Ex4, Ex5, Ex7. -/
import Derived.Test.YtococaecjecjgaaGreatDoorXLayoutReads4
import Derived.Test.YtococaecjecjgaaGreatDoorXLayoutReads5
import Derived.Deep.Cut
import Derived.RegionCalls
import Derived.Deep.RegionHeld3
import Derived.Test.YtococaecjecjgaaGreatDoorXLayoutReads2
namespace Go.Proofs.YtococaecjecjgaaGreatDoor.ex
set_option linter.unusedVariables false
open Go.ChangeShapes Go.WideShapes Go.ChangeAt Go.RowKit
open mem lx

noncomputable def nb (t : List UInt8) : Int × Int := (Classical.choose (digs.numbered_some (tx t)), Classical.choose (Classical.choose_spec (digs.numbered_some (tx t))))
theorem nb_is (t : List UInt8) : digs.Numbered (tx t) (nb t).1 (nb t).2 := Classical.choose_spec (Classical.choose_spec (digs.numbered_some (tx t)))
def AtX (w : World) (B : Nat) (c p : Int) : Prop := w.heap[B]? = some (.cells #[.int .i64 c, .int .i64 p] 116 (0, 0))
def brk (en : Nat) (a : Nat) (d : Nat) (q1 : Res) : Res :=
  if d = 8 then .error (4, a) else match q1 with
  | .error e => .error e
  | .ok (x, r') => if (hd en r').t = [41] then .ok (x, r'.tail) else .error (3, (hd en r').a)
theorem brk_err {en a d : Nat} {e : Int × Nat} (h : ¬ d = 8) : brk en a d (.error e) = .error e := by unfold brk; rw [if_neg h]
theorem brk_yes {en a d : Nat} {x : Ex} {r : List Tk} (h : ¬ d = 8) (h2 : (hd en r).t = [41]) : brk en a d (.ok (x, r)) = .ok (x, r.tail) := by
  unfold brk; rw [if_neg h]; dsimp only; rw [if_pos h2]
theorem brk_no {en a d : Nat} {x : Ex} {r : List Tk} (h : ¬ d = 8) (h2 : ¬ (hd en r).t = [41]) : brk en a d (.ok (x, r)) = .error (3, (hd en r).a) := by
  unfold brk; rw [if_neg h]; dsimp only; rw [if_neg h2]
theorem AtX.of {w w' : World} {B : Nat} {c p : Int} (h : Thr w w' B c p) : w.heap.size ≤ B ∧ AtX w' B c p ∧ Bl w w' := h
end Go.Proofs.YtococaecjecjgaaGreatDoor.ex
namespace Go.Proofs.YtococaecjecjgaaGreatDoor.ex
set_option linter.unusedVariables false
open Go.ChangeShapes Go.WideShapes Go.ChangeAt Go.RowKit
open mem lx

theorem isN_nmb (t : List UInt8) : nmb t = isN t := rfl
end Go.Proofs.YtococaecjecjgaaGreatDoor.ex
namespace Go.Proofs.YtococaecjecjgaaGreatDoor.ex
set_option linter.unusedVariables false
open Go.ChangeShapes Go.WideShapes Go.ChangeAt Go.RowKit
open mem lx

def lenAt (w : World) (P : Nat) : Nat := match w.cell? ⟨P, 0, none⟩ with | some (.slice _ n _) => n | _ => 0
theorem mem_all {en : Nat} (f : Nat) : (∀ m d ts x r, row nb en f m d ts = some (.ok (x, r)) → ∀ t ∈ r, t ∈ ts) ∧ (∀ m d y ts x r, lp nb en f m d y ts = some (.ok (x, r)) → ∀ t ∈ r, t ∈ ts) ∧ (∀ d ts x r, one nb en f d ts = some (.ok (x, r)) → ∀ t ∈ r, t ∈ ts) := by
  induction f with
  | zero => exact ⟨fun _ _ _ _ _ h => by simp [row] at h, fun _ _ _ _ _ _ h => by simp [lp] at h, fun _ _ _ _ h => by simp [one] at h⟩
  | succ f ih =>
    obtain ⟨i1, i2, i3⟩ := ih
    refine ⟨?_, ?_, ?_⟩
    · intro m d ts x r h
      by_cases hm : 3 < m
      · rw [row_top _ _ _ _ hm] at h
        exact i3 _ _ _ _ h
      · rw [row_low _ _ _ _ hm] at h
        split at h
        · cases h
        · cases h
        · rename_i y r' hr
          exact fun t ht => i1 _ _ _ _ _ hr t (i2 _ _ _ _ _ _ h t ht)
    · intro m d y ts x r h
      cases ts with
      | nil =>
        simp only [lp, Option.some.injEq, Except.ok.injEq, Prod.mk.injEq] at h
        rw [← h.2]
        exact fun t ht => ht
      | cons t ts =>
        rw [lp] at h
        split at h
        · split at h
          · cases h
          · cases h
          · rename_i z r' hr
            exact fun u hu => List.mem_cons_of_mem _ (i1 _ _ _ _ _ hr u (i2 _ _ _ _ _ _ h u hu))
        · simp only [Option.some.injEq, Except.ok.injEq, Prod.mk.injEq] at h
          rw [← h.2]
          exact fun t ht => ht
    · intro d ts x r h
      cases ts with
      | nil => simp [one] at h
      | cons t ts =>
        rw [one] at h
        split at h
        · split at h
          · simp at h
          · simp at h; rw [← h.2]; exact fun u hu => List.mem_cons_of_mem _ hu
        · split at h
          · split at h
            · simp at h; rw [← h.2]; exact fun u hu => List.mem_cons_of_mem _ hu
            · simp at h
          · split at h
            · split at h
              · simp at h
              · split at h
                · cases h
                · cases h
                · rename_i z r' hr
                  split at h
                  · simp at h; rw [← h.2]
                    exact fun u hu => List.mem_cons_of_mem _ (i1 _ _ _ _ _ hr u (List.mem_of_mem_tail hu))
                  · simp at h
            · simp at h
end Go.Proofs.YtococaecjecjgaaGreatDoor.ex
namespace Go.Proofs.YtococaecjecjgaaGreatDoor.ex
set_option linter.unusedVariables false
open Go.ChangeShapes Go.WideShapes Go.ChangeAt Go.RowKit
open mem lx

theorem Vr.gp {P b : Nat} {w w' : World} {v : Value} {t : TypeId} (h : Vr w b v t) (hg : Gp P w w') (hne : b ≠ P) : Vr w' b v t := by
  have := h.lt
  unfold Vr at h ⊢
  rw [hg.block b this hne]
  exact h
theorem Kx.set {w : World} {b : Nat} {v x : Value} {t : TypeId} (h : Vr w b v t) (ht : t ≠ 152) : Kx w (w.setCell ⟨b, 0, none⟩ x) := fun k cs hk => by
  rw [(grown_set w b 0 x).block k (lt_of_heap hk) (fun e => by
    injection e with e
    rw [e] at hk
    unfold Vr at h
    rw [h] at hk
    simp at hk
    exact ht hk.2)]
  exact hk
theorem AtX.set {w : World} {B b : Nat} {c p : Int} {x : Value} (h : AtX w B c p) (hne : B ≠ b) : AtX (w.setCell ⟨b, 0, none⟩ x) B c p := by
  unfold AtX at h ⊢
  rw [(grown_set w b 0 x).block B (lt_of_heap h) (fun e => by injection e with e; exact hne e)]
  exact h
end Go.Proofs.YtococaecjecjgaaGreatDoor.ex
namespace Go.Proofs.YtococaecjecjgaaGreatDoor.ex
set_option linter.unusedVariables false
open Go.ChangeShapes Go.WideShapes Go.ChangeAt Go.RowKit
open mem lx

theorem truth_at (b : Bool) (w : World) : Calls Tryz.prog 202 #[.bool b] w fun e w' => e = .returned (.int .i64 (if b then 1 else 0)) ∧ w' = w := by
  cases b
  · go_enter Tryz.func202, Tryz.ntmps202
    go_wp2
    go_ret
    exact ⟨rfl, rfl⟩
  · go_enter Tryz.func202, Tryz.ntmps202
    go_wp2
    go_ret
    exact ⟨rfl, rfl⟩
def jn (o : List UInt8) (a b : Int) : Int :=
  if o = [61, 61] then (if a = b then 1 else 0) else if o = [33, 61] then (if a = b then 0 else 1) else if o = [60] then (if a < b then 1 else 0) else if o = [62] then (if b < a then 1 else 0) else if o = [43] then (wrap64 (a + b)) else if o = [45] then (wrap64 (a - b)) else if o = [124] then (bits .or .i64 a b) else if o = [42] then (wrap64 (a * b)) else if o = [38] then (bits .and .i64 a b) else 0
theorem joined_at (o : List UInt8) (a b : Int) (w : World) (ho : 0 < bd o) : Calls Tryz.prog 188 #[.string (tx o), .int .i64 a, .int .i64 b] w fun e w' => e = .returned (.int .i64 (jn o a b)) ∧ w' = w := by
  by_cases h0 : o = [61, 61]
  · subst h0
    show Calls Tryz.prog _ #[.string ⟨#[61, 61]⟩, .int .i64 a, .int .i64 b] w fun e w' => e = .returned (.int .i64 (if a = b then 1 else 0)) ∧ w' = w
    have cT := truth_at
    go_enter Tryz.func188, Tryz.ntmps188
    go_wp2_with fail
    refine (cT _ _).mono ?_
    rintro e w1 ⟨rfl, rfl⟩
    go_wp2
    all_goals (go_ret; first | exact ⟨rfl, rfl⟩ | (refine ⟨lx.ret_int ?_, rfl⟩; by_cases h : a = b <;> simp [h]))
  by_cases h1 : o = [33, 61]
  · subst h1
    show Calls Tryz.prog _ #[.string ⟨#[33, 61]⟩, .int .i64 a, .int .i64 b] w fun e w' => e = .returned (.int .i64 (if a = b then 0 else 1)) ∧ w' = w
    have cT := truth_at
    go_enter Tryz.func188, Tryz.ntmps188
    go_wp2_with fail
    refine (cT _ _).mono ?_
    rintro e w1 ⟨rfl, rfl⟩
    go_wp2
    all_goals (go_ret; first | exact ⟨rfl, rfl⟩ | (refine ⟨lx.ret_int ?_, rfl⟩; by_cases h : a = b <;> simp [h]))
  by_cases h2 : o = [60]
  · subst h2
    show Calls Tryz.prog _ #[.string ⟨#[60]⟩, .int .i64 a, .int .i64 b] w fun e w' => e = .returned (.int .i64 (if a < b then 1 else 0)) ∧ w' = w
    have cT := truth_at
    go_enter Tryz.func188, Tryz.ntmps188
    go_wp2_with fail
    refine (cT _ _).mono ?_
    rintro e w1 ⟨rfl, rfl⟩
    go_wp2
    all_goals (go_ret; first | exact ⟨rfl, rfl⟩ | (refine ⟨lx.ret_int ?_, rfl⟩; by_cases h : a < b <;> simp [h]))
  by_cases h3 : o = [62]
  · subst h3
    show Calls Tryz.prog _ #[.string ⟨#[62]⟩, .int .i64 a, .int .i64 b] w fun e w' => e = .returned (.int .i64 (if b < a then 1 else 0)) ∧ w' = w
    have cT := truth_at
    go_enter Tryz.func188, Tryz.ntmps188
    go_wp2_with fail
    refine (cT _ _).mono ?_
    rintro e w1 ⟨rfl, rfl⟩
    go_wp2
    all_goals (go_ret; first | exact ⟨rfl, rfl⟩ | (refine ⟨lx.ret_int ?_, rfl⟩; by_cases h : b < a <;> simp [h]))
  by_cases h4 : o = [43]
  · subst h4
    show Calls Tryz.prog _ #[.string ⟨#[43]⟩, .int .i64 a, .int .i64 b] w fun e w' => e = .returned (.int .i64 (wrap64 (a + b))) ∧ w' = w
    go_enter Tryz.func188, Tryz.ntmps188
    go_wp2
    go_ret
    exact ⟨rfl, rfl⟩
  by_cases h5 : o = [45]
  · subst h5
    show Calls Tryz.prog _ #[.string ⟨#[45]⟩, .int .i64 a, .int .i64 b] w fun e w' => e = .returned (.int .i64 (wrap64 (a - b))) ∧ w' = w
    go_enter Tryz.func188, Tryz.ntmps188
    go_wp2
    go_ret
    exact ⟨rfl, rfl⟩
  by_cases h6 : o = [124]
  · subst h6
    show Calls Tryz.prog _ #[.string ⟨#[124]⟩, .int .i64 a, .int .i64 b] w fun e w' => e = .returned (.int .i64 (bits .or .i64 a b)) ∧ w' = w
    go_enter Tryz.func188, Tryz.ntmps188
    go_wp2
    go_ret
    exact ⟨rfl, rfl⟩
  by_cases h7 : o = [42]
  · subst h7
    show Calls Tryz.prog _ #[.string ⟨#[42]⟩, .int .i64 a, .int .i64 b] w fun e w' => e = .returned (.int .i64 (wrap64 (a * b))) ∧ w' = w
    go_enter Tryz.func188, Tryz.ntmps188
    go_wp2
    go_ret
    exact ⟨rfl, rfl⟩
  by_cases h8 : o = [38]
  · subst h8
    show Calls Tryz.prog _ #[.string ⟨#[38]⟩, .int .i64 a, .int .i64 b] w fun e w' => e = .returned (.int .i64 (bits .and .i64 a b)) ∧ w' = w
    go_enter Tryz.func188, Tryz.ntmps188
    go_wp2
    go_ret
    exact ⟨rfl, rfl⟩
  exfalso
  have e0 : bd o = 0 := by unfold bd; rw [if_neg (by simp [h0, h1, h2, h3]), if_neg (by simp [h4, h5, h6]), if_neg (by simp [h7, h8])]
  omega
def ev (env : List UInt8 → Option Int) : Ex → Except Nat Int
  | .num _ n => .ok n
  | .nam a t => match env t with | some n => .ok n | none => .error a
  | .bin _ o l r => match ev env l with
    | .error p => .error p
    | .ok a => match ev env r with
      | .error p => .error p
      | .ok b => .ok (jn o a b)
def Okb : Ex → Prop
  | .num _ _ => True
  | .nam _ t => t.length ≤ 3000
  | .bin _ o l r => 0 < bd o ∧ Okb l ∧ Okb r
structure IsM (w : World) (v : Value) (env : List UInt8 → Option Int) : Prop where
  lk : ∀ w', Bl w w' → ∀ t : List UInt8, t.length ≤ 3000 → (Instr.lookup 100 v (.string (tx t)) true).run Tryz.prog w' = .ok (match env t with | some n => .tuple #[.int .i64 n, .bool true] | none => .tuple #[.int .i64 0, .bool false]) w'
theorem IsM.step {w w' : World} {v : Value} {env : List UInt8 → Option Int} (h : IsM w v env) (hb : Bl w w') : IsM w' v env := ⟨fun w'' hb'' => h.lk w'' (hb.trans hb'')⟩
def VAns (q : Except Nat Int) (w : World) (e : Ending) (w' : World) : Prop :=
  Bl w w' ∧ match q with
  | .ok n => e = .returned (.int .i64 n)
  | .error p => ∃ B : Nat, e = thrown B ∧ w.heap.size ≤ B ∧ AtX w' B 5 (p : Int)
set_option maxRecDepth 10000 in
set_option maxHeartbeats 1000000 in
theorem value_at (env : List UInt8 → Option Int) (m : Value) (x : Ex) : ∀ (v : Value) (w : World), IsX w v x → Okb x → IsM w m env → Calls Tryz.prog 171 #[v, m] w fun e w' => VAns (ev env x) w e w' := by
  induction x with
  | num a n =>
    intro v w hx ho hm
    obtain ⟨xb, rfl, hc⟩ := hx
    have k0 : w.cell? ⟨xb, 0, none⟩ = some (.int .i64 1) := by rw [cell_of hc]; rfl
    have k2 : w.cell? ⟨xb, 2, none⟩ = some (.int .i64 n) := by rw [cell_of hc]; rfl
    clear hm
    go_enter Tryz.func171, Tryz.ntmps171
    go_wp2
    go_ret
    exact ⟨Bl.refl _, rfl⟩
  | nam a t =>
    intro v w hx ho hm
    obtain ⟨xb, rfl, hc⟩ := hx
    have k0 : w.cell? ⟨xb, 0, none⟩ = some (.int .i64 2) := by rw [cell_of hc]; rfl
    have k1 : w.cell? ⟨xb, 1, none⟩ = some (.int .i64 (a : Int)) := by rw [cell_of hc]; rfl
    have k3 : w.cell? ⟨xb, 3, none⟩ = some (.string (tx t)) := by rw [cell_of hc]; rfl
    have hlk := hm.lk w (Bl.refl _) t ho
    clear hm hc
    cases he : env t with
    | some n =>
      rw [he] at hlk
      dsimp only at hlk
      have HE : Hid (ev env (.nam a t) = .ok n) := by unfold Hid; rw [ev, he]
      go_enter Tryz.func171, Tryz.ntmps171
      go_wp2
      go_ret
      rw [HE.out]
      exact ⟨Bl.refl _, rfl⟩
    | none =>
      rw [he] at hlk
      dsimp only at hlk
      have HE : Hid (ev env (.nam a t) = .error a) := by unfold Hid; rw [ev, he]
      go_enter Tryz.func171, Tryz.ntmps171
      go_wp2
      refine ⟨rfl, ?_⟩
      rw [HE.out]
      exact ⟨(Bl.refl _).alloc _, _, rfl, Nat.le_refl _, new_at w _⟩
  | bin a o l r il ir =>
    intro v w hx ho hm
    obtain ⟨xb, vl, vr, rfl, hc, hxl, hxr⟩ := hx
    have k0 : w.cell? ⟨xb, 0, none⟩ = some (.int .i64 3) := by rw [cell_of hc]; rfl
    have k5 : w.cell? ⟨xb, 5, none⟩ = some vl := by rw [cell_of hc]; rfl
    have cl := il vl w hxl ho.2.1 hm
    have node : ∀ wx, Bl w wx → wx.cell? ⟨xb, 4, none⟩ = some (.string (tx o)) ∧ wx.cell? ⟨xb, 6, none⟩ = some vr := fun wx hb => ⟨at_bl hb (by rw [cell_of hc]; rfl), at_bl hb (by rw [cell_of hc]; rfl)⟩
    obtain ⟨vbl, rfl, _⟩ := hxl.ptr
    obtain ⟨vbr, rfl, _⟩ := hxr.ptr
    have cr := fun wx (hb : Bl w wx) => ir _ wx (hxr.keep (Kx.bl hb)) ho.2.2 (hm.step hb)
    have cj := fun a b w => joined_at o a b w ho.1
    have hev : ev env (.bin a o l r) = match ev env l with
      | .error p => .error p
      | .ok a => match ev env r with
        | .error p => .error p
        | .ok b => .ok (jn o a b) := by rw [ev]
    clear hm hc il ir
    go_enter Tryz.func171, Tryz.ntmps171
    go_wp2_with fail
    refine cl.mono ?_
    rintro e w1 ⟨hb1, h1⟩
    cases hl : ev env l with
    | error p =>
      rw [hl] at h1 hev
      obtain ⟨B, rfl, hB1, hB2⟩ := h1
      have HE : Hid (ev env (.bin a o l r) = .error p) := hev
      clear hev
      unfold thrown
      go_wp2
      refine ⟨rfl, ?_⟩
      rw [HE.out]
      exact ⟨hb1, B, rfl, hB1, hB2⟩
    | ok n1 =>
      rw [hl] at h1 hev
      dsimp only at h1 hev
      subst h1
      obtain ⟨q4, q6⟩ := node w1 hb1
      go_wp2_with fail
      refine (cr w1 hb1).mono ?_
      rintro e w2 ⟨hb2, h2⟩
      cases hr : ev env r with
      | error p =>
        rw [hr] at h2 hev
        obtain ⟨B, rfl, hB1, hB2⟩ := h2
        have HE : Hid (ev env (.bin a o l r) = .error p) := hev
        clear hev
        unfold thrown
        go_wp2
        refine ⟨rfl, ?_⟩
        rw [HE.out]
        exact ⟨hb1.trans hb2, B, rfl, Nat.le_trans hb1.size hB1, hB2⟩
      | ok n2 =>
        rw [hr] at h2 hev
        dsimp only at h2 hev
        subst h2
        have HE : Hid (ev env (.bin a o l r) = .ok (jn o n1 n2)) := hev
        obtain ⟨p4, p6⟩ := node w2 (hb1.trans hb2)
        clear hev
        go_wp2_with fail
        refine (cj _ _ _).mono ?_
        rintro e w3 ⟨rfl, rfl⟩
        go_wp2
        go_ret
        rw [HE.out]
        exact ⟨hb1.trans hb2, rfl⟩
end Go.Proofs.YtococaecjecjgaaGreatDoor.ex
