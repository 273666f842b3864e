/- What expressions come to: joined, value and Eval of package expr. -/
import Derived.Test.YtfngcphklfjhjaaDoorEx5
namespace Go.Proofs.YtfngcphklfjhjaaDoor.ex
set_option linter.unusedVariables false
open Go.ChangeShapes Go.WideShapes Go.ChangeAt Go.RowKit
open mem lx

theorem truth_at (b : Bool) (w : World) : Calls Tryd.prog 83 #[.bool b] w fun e w' => e = .returned (.int .i64 (if b then 1 else 0)) ∧ w' = w := by
  cases b
  · go_enter Tryd.func83, Tryd.ntmps83
    go_wp2
    go_ret
    exact ⟨rfl, rfl⟩
  · go_enter Tryd.func83, Tryd.ntmps83
    go_wp2
    go_ret
    exact ⟨rfl, rfl⟩
/-- What an op makes of two numbers. -/
def jn (o : List UInt8) (a b : Int) : Int :=
  if o = [61, 61] then (if a = b then 1 else 0) else if o = [33, 61] then (if a = b then 0 else 1) else if o = [60] then (if a < b then 1 else 0) else if o = [62] then (if b < a then 1 else 0) else if o = [43] then (wrap64 (a + b)) else if o = [45] then (wrap64 (a - b)) else if o = [124] then (bits .or .i64 a b) else if o = [42] then (wrap64 (a * b)) else if o = [38] then (bits .and .i64 a b) else 0
theorem joined_at (o : List UInt8) (a b : Int) (w : World) (ho : 0 < bd o) : Calls Tryd.prog 72 #[.string (tx o), .int .i64 a, .int .i64 b] w fun e w' => e = .returned (.int .i64 (jn o a b)) ∧ w' = w := by
  by_cases h0 : o = [61, 61]
  · subst h0
    show Calls Tryd.prog _ #[.string ⟨#[61, 61]⟩, .int .i64 a, .int .i64 b] w fun e w' => e = .returned (.int .i64 (if a = b then 1 else 0)) ∧ w' = w
    have cT := truth_at
    go_enter Tryd.func72, Tryd.ntmps72
    go_wp2_with fail
    refine (cT _ _).mono ?_
    rintro e w1 ⟨rfl, rfl⟩
    go_wp2
    all_goals (go_ret; first | exact ⟨rfl, rfl⟩ | (refine ⟨lx.ret_int ?_, rfl⟩; by_cases h : a = b <;> simp [h]))
  by_cases h1 : o = [33, 61]
  · subst h1
    show Calls Tryd.prog _ #[.string ⟨#[33, 61]⟩, .int .i64 a, .int .i64 b] w fun e w' => e = .returned (.int .i64 (if a = b then 0 else 1)) ∧ w' = w
    have cT := truth_at
    go_enter Tryd.func72, Tryd.ntmps72
    go_wp2_with fail
    refine (cT _ _).mono ?_
    rintro e w1 ⟨rfl, rfl⟩
    go_wp2
    all_goals (go_ret; first | exact ⟨rfl, rfl⟩ | (refine ⟨lx.ret_int ?_, rfl⟩; by_cases h : a = b <;> simp [h]))
  by_cases h2 : o = [60]
  · subst h2
    show Calls Tryd.prog _ #[.string ⟨#[60]⟩, .int .i64 a, .int .i64 b] w fun e w' => e = .returned (.int .i64 (if a < b then 1 else 0)) ∧ w' = w
    have cT := truth_at
    go_enter Tryd.func72, Tryd.ntmps72
    go_wp2_with fail
    refine (cT _ _).mono ?_
    rintro e w1 ⟨rfl, rfl⟩
    go_wp2
    all_goals (go_ret; first | exact ⟨rfl, rfl⟩ | (refine ⟨lx.ret_int ?_, rfl⟩; by_cases h : a < b <;> simp [h]))
  by_cases h3 : o = [62]
  · subst h3
    show Calls Tryd.prog _ #[.string ⟨#[62]⟩, .int .i64 a, .int .i64 b] w fun e w' => e = .returned (.int .i64 (if b < a then 1 else 0)) ∧ w' = w
    have cT := truth_at
    go_enter Tryd.func72, Tryd.ntmps72
    go_wp2_with fail
    refine (cT _ _).mono ?_
    rintro e w1 ⟨rfl, rfl⟩
    go_wp2
    all_goals (go_ret; first | exact ⟨rfl, rfl⟩ | (refine ⟨lx.ret_int ?_, rfl⟩; by_cases h : b < a <;> simp [h]))
  by_cases h4 : o = [43]
  · subst h4
    show Calls Tryd.prog _ #[.string ⟨#[43]⟩, .int .i64 a, .int .i64 b] w fun e w' => e = .returned (.int .i64 (wrap64 (a + b))) ∧ w' = w
    go_enter Tryd.func72, Tryd.ntmps72
    go_wp2
    go_ret
    exact ⟨rfl, rfl⟩
  by_cases h5 : o = [45]
  · subst h5
    show Calls Tryd.prog _ #[.string ⟨#[45]⟩, .int .i64 a, .int .i64 b] w fun e w' => e = .returned (.int .i64 (wrap64 (a - b))) ∧ w' = w
    go_enter Tryd.func72, Tryd.ntmps72
    go_wp2
    go_ret
    exact ⟨rfl, rfl⟩
  by_cases h6 : o = [124]
  · subst h6
    show Calls Tryd.prog _ #[.string ⟨#[124]⟩, .int .i64 a, .int .i64 b] w fun e w' => e = .returned (.int .i64 (bits .or .i64 a b)) ∧ w' = w
    go_enter Tryd.func72, Tryd.ntmps72
    go_wp2
    go_ret
    exact ⟨rfl, rfl⟩
  by_cases h7 : o = [42]
  · subst h7
    show Calls Tryd.prog _ #[.string ⟨#[42]⟩, .int .i64 a, .int .i64 b] w fun e w' => e = .returned (.int .i64 (wrap64 (a * b))) ∧ w' = w
    go_enter Tryd.func72, Tryd.ntmps72
    go_wp2
    go_ret
    exact ⟨rfl, rfl⟩
  by_cases h8 : o = [38]
  · subst h8
    show Calls Tryd.prog _ #[.string ⟨#[38]⟩, .int .i64 a, .int .i64 b] w fun e w' => e = .returned (.int .i64 (bits .and .i64 a b)) ∧ w' = w
    go_enter Tryd.func72, Tryd.ntmps72
    go_wp2
    go_ret
    exact ⟨rfl, rfl⟩
  exfalso
  have e0 : bd o = 0 := by unfold bd; rw [if_neg (by simp [h0, h1, h2, h3]), if_neg (by simp [h4, h5, h6]), if_neg (by simp [h7, h8])]
  omega
/-- What an expression comes to, or where a name is missing. -/
def ev (env : List UInt8 → Option Int) : Ex → Except Nat Int
  | .num _ n => .ok n
  | .nam a t => match env t with | some n => .ok n | none => .error a
  | .bin _ o l r => match ev env l with
    | .error p => .error p
    | .ok a => match ev env r with
      | .error p => .error p
      | .ok b => .ok (jn o a b)
/-- Ops that there are. -/
def Okb : Ex → Prop
  | .num _ _ => True
  | .nam _ t => t.length ≤ 3000
  | .bin _ o l r => 0 < bd o ∧ Okb l ∧ Okb r
/-- Names that are numbers. -/
structure IsM (w : World) (v : Value) (env : List UInt8 → Option Int) : Prop where
  lk : ∀ w', Bl w w' → ∀ t : List UInt8, t.length ≤ 3000 → (Instr.lookup 42 v (.string (tx t)) true).run Tryd.prog w' = .ok (match env t with | some n => .tuple #[.int .i64 n, .bool true] | none => .tuple #[.int .i64 0, .bool false]) w'
theorem IsM.step {w w' : World} {v : Value} {env : List UInt8 → Option Int} (h : IsM w v env) (hb : Bl w w') : IsM w' v env := ⟨fun w'' hb'' => h.lk w'' (hb.trans hb'')⟩
def VAns (q : Except Nat Int) (w : World) (e : Ending) (w' : World) : Prop :=
  Bl w w' ∧ match q with
  | .ok n => e = .returned (.int .i64 n)
  | .error p => ∃ B : Nat, e = thrown B ∧ w.heap.size ≤ B ∧ AtX w' B 5 (p : Int)
set_option maxRecDepth 10000 in
set_option maxHeartbeats 1000000 in
theorem value_at (env : List UInt8 → Option Int) (m : Value) (x : Ex) : ∀ (v : Value) (w : World), IsX w v x → Okb x → IsM w m env → Calls Tryd.prog 59 #[v, m] w fun e w' => VAns (ev env x) w e w' := by
  induction x with
  | num a n =>
    intro v w hx ho hm
    obtain ⟨xb, rfl, hc⟩ := hx
    have k0 : w.cell? ⟨xb, 0, none⟩ = some (.int .i64 1) := by rw [cell_of hc]; rfl
    have k2 : w.cell? ⟨xb, 2, none⟩ = some (.int .i64 n) := by rw [cell_of hc]; rfl
    clear hm
    go_enter Tryd.func59, Tryd.ntmps59
    go_wp2
    go_ret
    exact ⟨Bl.refl _, rfl⟩
  | nam a t =>
    intro v w hx ho hm
    obtain ⟨xb, rfl, hc⟩ := hx
    have k0 : w.cell? ⟨xb, 0, none⟩ = some (.int .i64 2) := by rw [cell_of hc]; rfl
    have k1 : w.cell? ⟨xb, 1, none⟩ = some (.int .i64 (a : Int)) := by rw [cell_of hc]; rfl
    have k3 : w.cell? ⟨xb, 3, none⟩ = some (.string (tx t)) := by rw [cell_of hc]; rfl
    have hlk := hm.lk w (Bl.refl _) t ho
    clear hm hc
    cases he : env t with
    | some n =>
      rw [he] at hlk
      dsimp only at hlk
      have HE : Hid (ev env (.nam a t) = .ok n) := by unfold Hid; rw [ev, he]
      go_enter Tryd.func59, Tryd.ntmps59
      go_wp2
      go_ret
      rw [HE.out]
      exact ⟨Bl.refl _, rfl⟩
    | none =>
      rw [he] at hlk
      dsimp only at hlk
      have HE : Hid (ev env (.nam a t) = .error a) := by unfold Hid; rw [ev, he]
      go_enter Tryd.func59, Tryd.ntmps59
      go_wp2
      refine ⟨rfl, ?_⟩
      rw [HE.out]
      exact ⟨(Bl.refl _).alloc _, _, rfl, Nat.le_refl _, new_at w _⟩
  | bin a o l r il ir =>
    intro v w hx ho hm
    obtain ⟨xb, vl, vr, rfl, hc, hxl, hxr⟩ := hx
    have k0 : w.cell? ⟨xb, 0, none⟩ = some (.int .i64 3) := by rw [cell_of hc]; rfl
    have k5 : w.cell? ⟨xb, 5, none⟩ = some vl := by rw [cell_of hc]; rfl
    have cl := il vl w hxl ho.2.1 hm
    have node : ∀ wx, Bl w wx → wx.cell? ⟨xb, 4, none⟩ = some (.string (tx o)) ∧ wx.cell? ⟨xb, 6, none⟩ = some vr := fun wx hb => ⟨at_bl hb (by rw [cell_of hc]; rfl), at_bl hb (by rw [cell_of hc]; rfl)⟩
    obtain ⟨vbl, rfl, _⟩ := hxl.ptr
    obtain ⟨vbr, rfl, _⟩ := hxr.ptr
    have cr := fun wx (hb : Bl w wx) => ir _ wx (hxr.keep (Kx.bl hb)) ho.2.2 (hm.step hb)
    have cj := fun a b w => joined_at o a b w ho.1
    have hev : ev env (.bin a o l r) = match ev env l with
      | .error p => .error p
      | .ok a => match ev env r with
        | .error p => .error p
        | .ok b => .ok (jn o a b) := by rw [ev]
    clear hm hc il ir
    go_enter Tryd.func59, Tryd.ntmps59
    go_wp2_with fail
    refine cl.mono ?_
    rintro e w1 ⟨hb1, h1⟩
    cases hl : ev env l with
    | error p =>
      rw [hl] at h1 hev
      obtain ⟨B, rfl, hB1, hB2⟩ := h1
      have HE : Hid (ev env (.bin a o l r) = .error p) := hev
      clear hev
      unfold thrown
      go_wp2
      refine ⟨rfl, ?_⟩
      rw [HE.out]
      exact ⟨hb1, B, rfl, hB1, hB2⟩
    | ok n1 =>
      rw [hl] at h1 hev
      dsimp only at h1 hev
      subst h1
      obtain ⟨q4, q6⟩ := node w1 hb1
      go_wp2_with fail
      refine (cr w1 hb1).mono ?_
      rintro e w2 ⟨hb2, h2⟩
      cases hr : ev env r with
      | error p =>
        rw [hr] at h2 hev
        obtain ⟨B, rfl, hB1, hB2⟩ := h2
        have HE : Hid (ev env (.bin a o l r) = .error p) := hev
        clear hev
        unfold thrown
        go_wp2
        refine ⟨rfl, ?_⟩
        rw [HE.out]
        exact ⟨hb1.trans hb2, B, rfl, Nat.le_trans hb1.size hB1, hB2⟩
      | ok n2 =>
        rw [hr] at h2 hev
        dsimp only at h2 hev
        subst h2
        have HE : Hid (ev env (.bin a o l r) = .ok (jn o n1 n2)) := hev
        obtain ⟨p4, p6⟩ := node w2 (hb1.trans hb2)
        clear hev
        go_wp2_with fail
        refine (cj _ _ _).mono ?_
        rintro e w3 ⟨rfl, rfl⟩
        go_wp2
        go_ret
        rw [HE.out]
        exact ⟨hb1.trans hb2, rfl⟩
end Go.Proofs.YtfngcphklfjhjaaDoor.ex
