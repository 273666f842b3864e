/- Texts laid together: Tr1, Tr2, TrQ, LayQ, TrM. -/
import Derived.Test.YtococaecjecjgaaGreatDoorXLayoutReads30
import Derived.Test.YtococaecjecjgaaGreatDoorXLayoutReads35
import Derived.Test.YtococaecjecjgaaGreatDoorXLayoutReads17
import Derived.Test.YtococaecjecjgaaGreatDoorXLayoutReads27
import Derived.Shelf.Vars
import Derived.Shelf.Strings.Search3
import Derived.Test.YtococaecjecjgaaGreatDoorChecked
import Derived.Shelf.Strings.Prefix
import Derived.Maps.OwnSet
namespace Go.Proofs.YtococaecjecjgaaGreatDoor.tr
set_option linter.unusedVariables false
open Go.ChangeShapes Go.WideShapes Go.ChangeAt Go.RowKit
open mem lx ex tm

def Ml (w : World) : Prop := ∃ m : Int, w.cell? ⟨4, 0, none⟩ = some (.int .i64 m)
theorem Ml.step {w w' : World} (h : Ml w) (hb : Bl w w') : Ml w' := by
  obtain ⟨m, hm⟩ := h
  exact ⟨m, at_bl hb hm⟩
theorem ml_of {W : World} (h : W.ShapedOpen Tryz.prog) : Ml W :=
  cell_of_shapedOpen_int (P := Tryz.prog) (g := 4) (t := 3) (zero := #[.int .i64 0]) h (of_decide_eq_true (by kernel_rfl)) (by kernel_rfl) rfl (by kernel_rfl) (by kernel_rfl) Tryz.underlying3
theorem has_at (s t : ByteArray) (w : World) (hs : s.size ≤ 100000) (hm : Ml w) : Calls Tryz.prog 71 #[.string s, .string t] w fun e w' => e = .returned (.bool (Lib.contains (L s) (L t))) ∧ w' = w := by
  obtain ⟨m, hm⟩ := hm
  exact Any.strings_Contains layK.laid s t m w (by omega) hm
abbrev Sg := Except (Int × Nat) (List Tk)
def Es (w : World) (P en : Nat) : Sg → Prop
  | .ok ts => Ey w P ts en 0 (-1)
  | .error (c, p) => c ≠ 0 ∧ ∃ ts, Ey w P ts en c (p : Int)
def seeT (en : Nat) : Sg → List UInt8
  | .ok ts => (hd en ts).t
  | .error _ => []
theorem Es.ey {w : World} {P en : Nat} {σ : Sg} (h : Es w P en σ) : ∃ ts c p, Ey w P ts en c p ∧ seeT en σ = see c en ts ∧ (∀ us, σ = .ok us → c = 0 ∧ p = -1 ∧ us = ts) ∧ ∀ k q, σ = .error (k, q) → c = k ∧ p = (q : Int) ∧ c ≠ 0 := by
  cases σ with
  | ok ts => exact ⟨ts, 0, -1, h, rfl, fun us hu => (by injection hu with hu; exact ⟨rfl, rfl, hu.symm⟩), fun k q hk => (by cases hk)⟩
  | error cp =>
    obtain ⟨c, p⟩ := cp
    obtain ⟨hc, ts, h⟩ := h
    exact ⟨ts, c, p, h, by unfold see; rw [if_neg hc]; rfl, fun us hu => (by cases hu), fun k q hk => (by injection hk with hk; injection hk with h1 h2; subst h1 h2; exact ⟨rfl, rfl, hc⟩)⟩
theorem Ey.keep {w w' : World} {P : Nat} {ts : List Tk} {en : Nat} {c p : Int} (h : Ey w P ts en c p) (hk : ∀ g, g ≤ P → w'.heap[g]? = w.heap[g]?) (hs : w.heap.size ≤ w'.heap.size) : Ey w' P ts en c p := by
  obtain ⟨q, k, h1, h2, h3, h4⟩ := h.ex
  refine ⟨⟨q, k, by rw [hk P (Nat.le_refl _)]; exact h1, h2, ?_, fun x hx => ⟨Nat.lt_of_lt_of_le (h4 x hx).1 hs, (h4 x hx).2⟩⟩, h.len, h.tok⟩
  rcases h3 with h3 | ⟨x, h3, h5⟩
  · exact Or.inl h3
  · refine Or.inr ⟨x, h3, fun j u hj => ?_⟩
    have h6 := h5 j u hj
    have hb : (x.add j).block = x.block := by cases j <;> rfl
    unfold World.cell? at h6 ⊢
    rw [hk _ (by rw [hb]; exact Nat.le_of_lt (h4 x h3).2)]
    exact h6
theorem Es.keep {w w' : World} {P en : Nat} {σ : Sg} (h : Es w P en σ) (hk : ∀ g, g ≤ P → w'.heap[g]? = w.heap[g]?) (hs : w.heap.size ≤ w'.heap.size) : Es w' P en σ := by
  cases σ with
  | ok ts => exact Ey.keep h hk hs
  | error cp => obtain ⟨hc, ts, h⟩ := h; exact ⟨hc, ts, Ey.keep h hk hs⟩
theorem Es.lt {w : World} {P en : Nat} {σ : Sg} (h : Es w P en σ) : P < w.heap.size := by
  obtain ⟨ts, c, p, h, _⟩ := h.ey
  exact h.lt
theorem Es.bl {w w' : World} {P en : Nat} {σ : Sg} (h : Es w P en σ) (hb : Bl w w') : Es w' P en σ :=
  h.keep (fun g hg => Below.block hb g (Nat.lt_of_le_of_lt hg h.lt)) hb.size
theorem Es.put {w : World} {P en X j : Nat} {σ : Sg} (h : Es w P en σ) (hX : P < X) (u : Value) : Es (w.setCell ⟨X, j, none⟩ u) P en σ :=
  h.keep (fun g hg => (grown_set w X j u).block g (Nat.lt_of_le_of_lt hg h.lt) (fun e => by injection e with e; omega)) (by simp [World.setCell])
theorem Es.kx {w w' : World} {P en : Nat} {σ : Sg} (h : Es w P en σ) (hg : Gp P w w') : Kx w w' := by
  obtain ⟨ts, c, p, h, _⟩ := h.ey
  exact Gp.kxE hg h
theorem Es.tok {w : World} {P en : Nat} {σ : Sg} (h : Es w P en σ) : (seeT en σ).length ≤ 3000 := by
  obtain ⟨ts, c, p, h, h2, _⟩ := h.ey
  rw [h2]
  unfold see
  split
  · cases ts with
    | nil => exact Nat.zero_le _
    | cons t r => exact (h.tok t (by simp)).2
  · exact Nat.zero_le _
theorem Es.gap {w : World} {P en : Nat} {σ : Sg} (h : Es w P en σ) : (32 : UInt8) ∉ seeT en σ := by
  obtain ⟨ts, c, p, h, h2, _⟩ := h.ey
  rw [h2]
  unfold see
  split
  · cases ts with
    | nil => exact List.not_mem_nil
    | cons t r => exact (h.tok t (by simp)).1.2
  · exact List.not_mem_nil
theorem stop_es (w : World) (P en : Nat) (σ : Sg) (h : Es w P en σ) :
    Calls Tryz.prog 37 #[.pointer (some ⟨P, 0, none⟩)] w fun e w' => e = .returned (.bool (match σ with | .ok _ => false | .error _ => true)) ∧ Bl w w' := by
  obtain ⟨ts, c, p, h, h2, h3, h4⟩ := h.ey
  have := stop_at w P ts en c p h
  cases σ with
  | ok us => rw [(h3 us rfl).1] at this; exact this
  | error cp =>
    obtain ⟨k, q⟩ := cp
    have hc := (h4 k q rfl).2.2
    have hc' : (c == 0) = false := by rw [beq_eq_false_iff_ne]; exact hc
    rw [hc'] at this; exact this
theorem text_es (w : World) (P en : Nat) (σ : Sg) (h : Es w P en σ) :
    Calls Tryz.prog 38 #[.pointer (some ⟨P, 0, none⟩)] w fun e w' => e = .returned (.string (tx (seeT en σ))) ∧ Bl w w' := by
  obtain ⟨ts, c, p, h, h2, _⟩ := h.ey
  rw [h2]
  exact text_at w P ts en c p h
theorem place_es (w : World) (P en : Nat) (σ : Sg) (h : Es w P en σ) :
    Calls Tryz.prog 40 #[.pointer (some ⟨P, 0, none⟩)] w fun e w' => (∃ a : Nat, e = .returned (.int .i64 (a : Int)) ∧ ∀ ts, σ = .ok ts → a = (hd en ts).a) ∧ w' = w := by
  obtain ⟨ts, c, p, h, _, h3, _⟩ := h.ey
  refine (place_at w P ts en c p h).mono ?_
  rintro e w' ⟨rfl, rfl⟩
  exact ⟨⟨_, rfl, fun us hu => by rw [(h3 us hu).2.2]⟩, rfl⟩
def fl (k : Int) (a : Nat) : Sg → Sg
  | .ok _ => .error (k, a)
  | .error e => .error e
theorem wrong_es (w : World) (P en : Nat) (σ : Sg) (k : Int) (a : Nat) (hk : k ≠ 0) (h : Es w P en σ) :
    Calls Tryz.prog 39 #[.pointer (some ⟨P, 0, none⟩), .int .i64 k, .int .i64 (a : Int)] w fun e w' => e = .returned (.tuple #[]) ∧ Es w' P en (fl k a σ) ∧ Gp P w w' := by
  cases σ with
  | ok ts =>
    refine (wrong_yes w P ts en (-1) k a h).mono ?_
    rintro e w' ⟨rfl, h1, h2⟩
    exact ⟨rfl, ⟨hk, ts, h1⟩, h2⟩
  | error cp =>
    obtain ⟨c, p⟩ := cp
    obtain ⟨hc, ts, hE⟩ := h
    refine (wrong_no w P ts en c p k a hE hc).mono ?_
    rintro e w' ⟨rfl, h1⟩
    exact ⟨rfl, ⟨hc, ts, hE.step h1⟩, Gp.bl h1⟩
def ps (en : Nat) : Sg → Sg
  | .ok [] => .error (3, en)
  | .ok (_ :: r) => .ok r
  | .error e => .error e
set_option maxRecDepth 10000 in
theorem pass_end (w : World) (P en : Nat) (h : Ey w P [] en 0 (-1)) :
    Calls Tryz.prog 72 #[.pointer (some ⟨P, 0, none⟩)] w fun e w' => e = .returned (.string ⟨#[]⟩) ∧ Ey w' P [] en 3 (en : Int) ∧ Gp P w w' := by
  have cT := text_at w P [] en 0 (-1) h
  rw [show see 0 en [] = [] from rfl] at cT
  have cP := fun wx (hb : Bl w wx) => place_at wx P [] en 0 (-1) (h.step hb)
  rw [show (hd en ([] : List Tk)).a = en from rfl] at cP
  have cW := fun wx (hb : Bl w wx) a b => wrong_yes wx P [] en (-1) a b (h.step hb)
  have hem : (tx ([] : List UInt8)).toList.isEmpty = true := by rw [tl_tx]; rfl
  clear h
  generalize tx ([] : List UInt8) = S at *
  go_enter Tryz.func72, Tryz.ntmps72
  go_wp2_with fail
  refine cT.mono ?_
  rintro e w2 ⟨rfl, hb⟩
  go_wp2_with fail
  refine (cP _ hb).mono ?_
  rintro e w3 ⟨rfl, rfl⟩
  go_wp2_with fail
  refine (cW _ hb _ _).mono ?_
  rintro e w4 ⟨rfl, hE, hg⟩
  go_wp2
  go_ret
  exact ⟨rfl, hE, (Gp.bl hb).trans hg⟩
theorem pass_es (w : World) (P en : Nat) (σ : Sg) (h : Es w P en σ) :
    Calls Tryz.prog 72 #[.pointer (some ⟨P, 0, none⟩)] w fun e w' => e = .returned (.string (tx (seeT en σ))) ∧ Es w' P en (ps en σ) ∧ Gp P w w' := by
  match σ, h with
  | .ok [], h =>
    refine (pass_end w P en h).mono ?_
    rintro e w' ⟨rfl, h1, h2⟩
    exact ⟨rfl, ⟨by decide, [], h1⟩, h2⟩
  | .ok (t :: r), h => exact pass_yes w P t r en (-1) h
  | .error (c, p), h =>
    obtain ⟨hc, ts, hE⟩ := h
    refine (pass_no w P ts en c p hE hc).mono ?_
    rintro e w' ⟨rfl, h1⟩
    exact ⟨rfl, ⟨hc, ts, hE.step h1⟩, Gp.bl h1⟩
def tk (en : Nat) (m : List UInt8) (σ : Sg) : Sg := if seeT en σ = m then ps en σ else σ
theorem take_es (w : World) (P en : Nat) (σ : Sg) (m : List UInt8) (hm : m ≠ []) (h : Es w P en σ) :
    Calls Tryz.prog 68 #[.pointer (some ⟨P, 0, none⟩), .string (tx m)] w fun e w' => e = .returned (.bool (decide (seeT en σ = m))) ∧ Es w' P en (tk en m σ) ∧ Gp P w w' := by
  by_cases hc : seeT en σ = m
  · unfold tk
    rw [if_pos hc, decide_eq_true hc]
    match σ, h, hc with
    | .ok [], h, hc => exact absurd hc.symm hm
    | .error _, h, hc => exact absurd hc.symm hm
    | .ok (t :: r), h, hc =>
      subst hc
      exact take_yes w P t r en (-1) h
  · unfold tk
    rw [if_neg hc, decide_eq_false hc]
    obtain ⟨ts, c, p, h1, h2, _⟩ := h.ey
    rw [h2] at hc
    refine (take_no w P ts en c p m h1 hc).mono ?_
    rintro e w' ⟨rfl, hb⟩
    exact ⟨rfl, h.bl hb, Gp.bl hb⟩
def mu (en : Nat) (m : List UInt8) (σ : Sg) : Sg := match σ with | .ok ts => want en m ts | .error e => .error e
theorem must_es (w : World) (P en : Nat) (σ : Sg) (m : List UInt8) (hm : m ≠ []) (h : Es w P en σ) :
    Calls Tryz.prog 41 #[.pointer (some ⟨P, 0, none⟩), .string (tx m)] w fun e w' => e = .returned (.tuple #[]) ∧ Es w' P en (mu en m σ) ∧ Gp P w w' := by
  cases σ with
  | error cp =>
    obtain ⟨c, p⟩ := cp
    obtain ⟨hc, ts, hE⟩ := h
    refine (must_off w P ts en c p m hE hc hm).mono ?_
    rintro e w' ⟨rfl, h1⟩
    exact ⟨rfl, ⟨hc, ts, hE.step h1⟩, Gp.bl h1⟩
  | ok ts =>
    show Calls _ _ _ _ fun e w' => e = _ ∧ Es w' P en (want en m ts) ∧ _
    unfold want
    by_cases hc : (hd en ts).t = m
    · rw [if_pos hc]
      cases ts with
      | nil => exact absurd hc.symm hm
      | cons t r =>
        have hc : t.t = m := hc
        subst hc
        exact must_yes w P t r en (-1) h
    · rw [if_neg hc]
      refine (must_no w P ts en (-1) m h hc).mono ?_
      rintro e w' ⟨rfl, h1, h2⟩
      exact ⟨rfl, ⟨by decide, ts, h1⟩, h2⟩
end Go.Proofs.YtococaecjecjgaaGreatDoor.tr
namespace Go.Proofs.YtococaecjecjgaaGreatDoor.tr
set_option linter.unusedVariables false
open Go.ChangeShapes Go.WideShapes Go.ChangeAt Go.RowKit
open mem lx ex tm

theorem isNum_at (t : List UInt8) (w : World) (h : (32 : UInt8) ∉ t) (ht : t.length ≤ 3000) (hm : Ml w) :
    Calls Tryz.prog 70 #[.string (tx t)] w fun e w' => e = .returned (.bool (numOf t).isSome) ∧ w' = w := by
  have cC := fun s (hs : s.size ≤ 100000) => has_at s (⟨#[32]⟩ ++ tx t ++ ⟨#[32]⟩) w hs hm
  have hL : L (⟨#[32]⟩ ++ tx t ++ ⟨#[32]⟩) = [32] ++ t ++ [32] := by rw [L_app, L_app, L_tx]; rfl
  rw [hL] at cC
  have hn := num_text t h
  by_cases h0 : t = []
  · subst h0
    have hq : ((tx ([] : List UInt8)).toList == []) = true := by rw [tl_tx]; rfl
    generalize tx ([] : List UInt8) = S at *
    go_enter Tryz.func70, Tryz.ntmps70
    go_wp2
    go_ret
    exact ⟨rfl, rfl⟩
  · have hq : ((tx t).toList == []) = false := by rw [tl_tx, beq_eq_false_iff_ne]; exact h0
    have hSs : (tx t).size ≤ 3000 := by rw [tx_size]; exact ht
    generalize hN : (numOf t).isSome = B at *
    clear hL h0 hm
    generalize tx t = S at *
    go_enter Tryz.func70, Tryz.ntmps70
    go_wp2_with fail
    refine (cC _ (by decide)).mono ?_
    rintro e w2 ⟨he, rfl⟩
    have he : e = .returned (.bool B) := he.trans (congrArg (fun b => Ending.returned (.bool b)) hn)
    clear hn cC
    obtain rfl := he.symm
    go_wp2
    go_ret
    exact ⟨rfl, rfl⟩
def nmS (en : Nat) (σ : Sg) : Sg := match σ with
  | .ok ts => (match name en ts with | .ok (_, r) => .ok r | .error e => .error e)
  | .error e => .error e
theorem name_see {en : Nat} {ts r : List Tk} {t : List UInt8} (h : name en ts = .ok (t, r)) : t = (hd en ts).t := by
  unfold name at h
  split at h
  · cases h
  · split at h
    · cases h
    · injection h with h; injection h with h1 h2; exact h1.symm
theorem nm_is (en : Nat) (σ : Sg) (a : Nat) (ha : ∀ ts, σ = .ok ts → a = (hd en ts).a) :
    nmS en σ = if isN (seeT en σ) = false ∨ (numOf (seeT en σ)).isSome = true ∨ othK.contains (seeT en σ) = true then fl 3 a σ else if 12 < (seeT en σ).length then fl 4 a σ else ps en σ := by
  cases σ with
  | error e =>
    show (.error e : Sg) = _
    split
    · rfl
    · split <;> rfl
  | ok ts =>
    have ha := ha ts rfl
    subst ha
    show (match name en ts with | .ok (_, r) => (.ok r : Sg) | .error e => .error e) = _
    unfold name
    rw [show seeT en (.ok ts) = (hd en ts).t from rfl]
    have e1 : resv (hd en ts).t = (othK.contains (hd en ts).t || (numOf (hd en ts).t).isSome) := rfl
    rw [e1]
    by_cases hc : isN (hd en ts).t = false ∨ (numOf (hd en ts).t).isSome = true ∨ othK.contains (hd en ts).t = true
    · rw [if_pos hc, if_pos]
      · rfl
      · rcases hc with h | h | h
        · exact Or.inr h
        · left; rw [h]; simp
        · left; rw [h]; simp
    · rw [if_neg hc, if_neg]
      · by_cases h12 : 12 < (hd en ts).t.length
        · rw [if_pos h12, if_pos h12]; rfl
        · rw [if_neg h12, if_neg h12]
          cases ts with
          | nil => exact absurd (Or.inl rfl) hc
          | cons t r => rfl
      · rintro (h | h)
        · rw [Bool.or_eq_true] at h
          rcases h with h | h
          · exact hc (Or.inr (Or.inr h))
          · exact hc (Or.inr (Or.inl h))
        · exact hc (Or.inl h)
set_option maxRecDepth 10000 in
theorem name_es (w : World) (P en : Nat) (σ : Sg) (h : Es w P en σ) (hm : Ml w) :
    Calls Tryz.prog 42 #[.pointer (some ⟨P, 0, none⟩)] w fun e w' => e = .returned (.string (tx (seeT en σ))) ∧ Es w' P en (nmS en σ) ∧ Gp P w w' := by
  have cT := text_es w P en σ h
  have hg := h.gap
  have hl := h.tok
  have cI := IsName_at (tx (seeT en σ))
  rw [L_tx, isN_nmb] at cI
  have cN := fun wx (hb : Bl w wx) => isNum_at (seeT en σ) wx hg hl (hm.step hb)
  have hL : L (⟨#[32]⟩ ++ tx (seeT en σ) ++ ⟨#[32]⟩) = [32] ++ seeT en σ ++ [32] := by rw [L_app, L_app, L_tx]; rfl
  have cC := fun wx (hb : Bl w wx) s (hs : s.size ≤ 100000) => has_at s (⟨#[32]⟩ ++ tx (seeT en σ) ++ ⟨#[32]⟩) wx hs (hm.step hb)
  rw [hL] at cC
  have hO := oth_text (seeT en σ) hg
  have HE : Hid (Es w P en σ) := h
  have hSs : (tx (seeT en σ)).size = (seeT en σ).length := tx_size _
  have HM : Hid (∀ a : Nat, (∀ ts, σ = .ok ts → a = (hd en ts).a) → nmS en σ = if isN (seeT en σ) = false ∨ (numOf (seeT en σ)).isSome = true ∨ othK.contains (seeT en σ) = true then fl 3 a σ else if 12 < (seeT en σ).length then fl 4 a σ else ps en σ) := nm_is en σ
  clear hL hm hg h
  obtain ⟨b1, hb1⟩ : ∃ b, isN (seeT en σ) = b := ⟨_, rfl⟩
  obtain ⟨b2, hb2⟩ : ∃ b, (numOf (seeT en σ)).isSome = b := ⟨_, rfl⟩
  obtain ⟨b3, hb3⟩ : ∃ b, othK.contains (seeT en σ) = b := ⟨_, rfl⟩
  rw [hb1, hb2, hb3] at HM
  rw [hb1] at cI
  rw [hb2] at cN
  rw [hb3] at hO
  obtain ⟨n, hn⟩ : ∃ n, (seeT en σ).length = n := ⟨_, rfl⟩
  rw [hn] at hSs hl HM
  clear hb1 hb2 hb3 hn
  obtain ⟨S, hS⟩ : ∃ S, tx (seeT en σ) = S := ⟨_, rfl⟩
  rw [hS] at cT cI cN cC hSs ⊢
  clear hS
  have cW := fun wx (k : Int) (hk : k ≠ 0) (a : Nat) (hb : Bl w wx) => wrong_es wx P en σ k a hk (HE.out.bl hb)
  have cP := fun wx (hb : Bl w wx) => place_es wx P en σ (HE.out.bl hb)
  have tail : ∀ (k : Int) (a : Nat) (wx : World), Es wx P en (fl k a σ) → Calls Tryz.prog 37 #[.pointer (some ⟨P, 0, none⟩)] wx fun e w' => e = .returned (.bool true) ∧ Bl wx w' := by
    intro k a wx hx
    have := stop_es wx P en _ hx
    cases σ <;> exact this
  go_enter Tryz.func42, Tryz.ntmps42
  go_wp2_with fail
  refine cT.mono ?_
  rintro e w2 ⟨rfl, hb2⟩
  have HB : Hid (Bl w w2) := hb2
  cases b1 with
  | false =>
    have HM' : Hid (∀ a : Nat, (∀ ts, σ = .ok ts → a = (hd en ts).a) → nmS en σ = fl 3 a σ) := fun a ha => by rw [HM.out a ha, if_pos (Or.inl rfl)]
    clear cN cC hO HM cT hb2
    go_wp2_with fail
    refine (cI _).mono ?_
    rintro e w3 ⟨rfl, rfl⟩
    go_wp2_with fail
    refine (cP _ HB.out).mono ?_
    rintro e w4 ⟨⟨a, rfl, ha⟩, rfl⟩
    have HA : Hid (nmS en σ = _) := HM'.out a ha
    go_wp2_with fail
    refine (cW _ 3 (by decide) a HB.out).mono ?_
    rintro e w5 ⟨rfl, hE, hg⟩
    have HE5 : Hid (Es w5 P en (fl 3 a σ) ∧ Gp P w w5) := ⟨hE, (Gp.bl HB.out).trans hg⟩
    have cS := tail 3 a w5 hE
    clear hE hg cW cP cI
    go_wp2_with fail
    refine cS.mono ?_
    rintro e w6 ⟨rfl, hb6⟩
    go_wp2
    go_ret
    exact ⟨rfl, by rw [HA.out]; exact HE5.out.1.bl hb6, HE5.out.2.trans (Gp.bl hb6)⟩
  | true =>
    cases b2 with
    | true =>
      have HM' : Hid (∀ a : Nat, (∀ ts, σ = .ok ts → a = (hd en ts).a) → nmS en σ = fl 3 a σ) := fun a ha => by rw [HM.out a ha, if_pos (Or.inr (Or.inl rfl))]
      clear cC hO HM cT hb2
      go_wp2_with fail
      refine (cI _).mono ?_
      rintro e w3 ⟨rfl, rfl⟩
      go_wp2_with fail
      refine (cN _ HB.out).mono ?_
      rintro e w3 ⟨rfl, rfl⟩
      go_wp2_with fail
      refine (cP _ HB.out).mono ?_
      rintro e w4 ⟨⟨a, rfl, ha⟩, rfl⟩
      have HA : Hid (nmS en σ = _) := HM'.out a ha
      go_wp2_with fail
      refine (cW _ 3 (by decide) a HB.out).mono ?_
      rintro e w5 ⟨rfl, hE, hg⟩
      have HE5 : Hid (Es w5 P en (fl 3 a σ) ∧ Gp P w w5) := ⟨hE, (Gp.bl HB.out).trans hg⟩
      have cS := tail 3 a w5 hE
      clear hE hg cW cP cI
      go_wp2_with fail
      refine cS.mono ?_
      rintro e w6 ⟨rfl, hb6⟩
      go_wp2
      go_ret
      exact ⟨rfl, by rw [HA.out]; exact HE5.out.1.bl hb6, HE5.out.2.trans (Gp.bl hb6)⟩
    | false =>
      cases b3 with
      | true =>
        have HM' : Hid (∀ a : Nat, (∀ ts, σ = .ok ts → a = (hd en ts).a) → nmS en σ = fl 3 a σ) := fun a ha => by rw [HM.out a ha, if_pos (Or.inr (Or.inr rfl))]
        clear HM cT hb2
        go_wp2_with fail
        refine (cI _).mono ?_
        rintro e w3 ⟨rfl, rfl⟩
        go_wp2_with fail
        refine (cN _ HB.out).mono ?_
        rintro e w3 ⟨rfl, rfl⟩
        go_wp2_with fail
        refine (cC _ HB.out _ (by decide)).mono ?_
        rintro e w3 ⟨he, rfl⟩
        have he : e = .returned (.bool true) := he.trans (congrArg (fun b => Ending.returned (.bool b)) hO)
        clear hO cC
        obtain rfl := he.symm
        go_wp2_with fail
        refine (cP _ HB.out).mono ?_
        rintro e w4 ⟨⟨a, rfl, ha⟩, rfl⟩
        have HA : Hid (nmS en σ = _) := HM'.out a ha
        go_wp2_with fail
        refine (cW _ 3 (by decide) a HB.out).mono ?_
        rintro e w5 ⟨rfl, hE, hg⟩
        have HE5 : Hid (Es w5 P en (fl 3 a σ) ∧ Gp P w w5) := ⟨hE, (Gp.bl HB.out).trans hg⟩
        have cS := tail 3 a w5 hE
        clear hE hg cW cP cI
        go_wp2_with fail
        refine cS.mono ?_
        rintro e w6 ⟨rfl, hb6⟩
        go_wp2
        go_ret
        exact ⟨rfl, by rw [HA.out]; exact HE5.out.1.bl hb6, HE5.out.2.trans (Gp.bl hb6)⟩
      | false =>
        by_cases h12 : 12 < n
        · have h12' : (12 : Int) < (S.size : Int) := by omega
          have HM' : Hid (∀ a : Nat, (∀ ts, σ = .ok ts → a = (hd en ts).a) → nmS en σ = fl 4 a σ) := fun a ha => by rw [HM.out a ha, if_neg (by simp), if_pos h12]
          clear HM cT hb2
          go_wp2_with fail
          refine (cI _).mono ?_
          rintro e w3 ⟨rfl, rfl⟩
          go_wp2_with fail
          refine (cN _ HB.out).mono ?_
          rintro e w3 ⟨rfl, rfl⟩
          go_wp2_with fail
          refine (cC _ HB.out _ (by decide)).mono ?_
          rintro e w3 ⟨he, rfl⟩
          have he : e = .returned (.bool false) := he.trans (congrArg (fun b => Ending.returned (.bool b)) hO)
          clear hO cC
          obtain rfl := he.symm
          go_wp2_with fail
          refine (cP _ HB.out).mono ?_
          rintro e w4 ⟨⟨a, rfl, ha⟩, rfl⟩
          have HA : Hid (nmS en σ = _) := HM'.out a ha
          go_wp2_with fail
          refine (cW _ 4 (by decide) a HB.out).mono ?_
          rintro e w5 ⟨rfl, hE, hg⟩
          have HE5 : Hid (Es w5 P en (fl 4 a σ) ∧ Gp P w w5) := ⟨hE, (Gp.bl HB.out).trans hg⟩
          have cS := tail 4 a w5 hE
          clear hE hg cW cP cI
          go_wp2_with fail
          refine cS.mono ?_
          rintro e w6 ⟨rfl, hb6⟩
          go_wp2
          go_ret
          exact ⟨rfl, by rw [HA.out]; exact HE5.out.1.bl hb6, HE5.out.2.trans (Gp.bl hb6)⟩
        · have h12' : ¬ (12 : Int) < (S.size : Int) := by omega
          have HM' : Hid (nmS en σ = ps en σ) := by
            show nmS en σ = ps en σ
            cases σ with
            | ok ts => exact (HM.out (hd en ts).a (fun us hu => by injection hu with hu; rw [hu])).trans (by rw [if_neg (by simp), if_neg h12])
            | error e => rfl
          clear HM cT hb2 cW cP tail
          have cS := stop_es _ P en σ (HE.out.bl HB.out)
          have cQ := fun wx (hb : Bl w wx) => pass_es wx P en σ (HE.out.bl hb)
          go_wp2_with fail
          refine (cI _).mono ?_
          rintro e w3 ⟨rfl, rfl⟩
          go_wp2_with fail
          refine (cN _ HB.out).mono ?_
          rintro e w3 ⟨rfl, rfl⟩
          go_wp2_with fail
          refine (cC _ HB.out _ (by decide)).mono ?_
          rintro e w3 ⟨he, rfl⟩
          have he : e = .returned (.bool false) := he.trans (congrArg (fun b => Ending.returned (.bool b)) hO)
          clear hO cC cI cN
          obtain rfl := he.symm
          go_wp2_with fail
          refine cS.mono ?_
          rintro e w6 ⟨rfl, hb6⟩
          have HB6 : Hid (Bl w w6) := HB.out.trans hb6
          clear hb6 cS
          cases σ with
          | error ek =>
            go_wp2
            go_ret
            exact ⟨rfl, by rw [HM'.out]; exact HE.out.bl HB6.out, Gp.bl HB6.out⟩
          | ok ts =>
            go_wp2_with fail
            refine (cQ _ HB6.out).mono ?_
            rintro e w7 ⟨rfl, hE, hg⟩
            go_wp2
            go_ret
            exact ⟨rfl, by rw [HM'.out]; exact hE, (Gp.bl HB6.out).trans hg⟩
noncomputable def exR (en : Nat) (ts : List Tk) : Rs Ex := match row nb en (10 * ts.length + 10) 1 0 ts with
  | some q => q
  | none => .error (0, 0)
noncomputable def exS (en : Nat) (σ : Sg) : Sg := match σ with
  | .ok ts => (match exR en ts with | .ok (_, r) => .ok r | .error e => .error e)
  | .error e => .error e
theorem expr_es (w : World) (P en : Nat) (σ : Sg) (h : Es w P en σ) :
    Calls Tryz.prog 111 #[.pointer (some ⟨P, 0, none⟩), .int .i64 1, .int .i64 0] w fun e w' => (∃ o, e = .returned (.pointer o) ∧ ∀ ts x r, σ = .ok ts → exR en ts = .ok (x, r) → IsX w' (.pointer o) x) ∧ Es w' P en (exS en σ) ∧ Gp P w w' := by
  cases σ with
  | error cp =>
    obtain ⟨c, p⟩ := cp
    obtain ⟨hc, ts, hE⟩ := h
    refine (expr_off w P ts en c p 1 0 hE hc).mono ?_
    rintro e w' ⟨rfl, hb⟩
    exact ⟨⟨none, rfl, fun _ _ _ h => by cases h⟩, ⟨hc, ts, hE.step hb⟩, Gp.bl hb⟩
  | ok ts =>
    have hx : ∃ q, row nb en (10 * ts.length + 10) 1 0 ts = some q := by
      cases h : row nb en (10 * ts.length + 10) 1 0 ts with
      | none => exact absurd h ((some_all _).1 1 0 _ (by omega) (by omega))
      | some q => exact ⟨q, rfl⟩
    obtain ⟨q, hq⟩ := hx
    obtain ⟨g, hg⟩ := (both_ways _).1 1 0 _ q (by omega) (by omega) hq
    have hR : exR en ts = q := by unfold exR; rw [hq]
    refine (expr_at P en g 1 0 ts q w (by omega) (by omega) (by omega) h hg).mono ?_
    rintro e w' ⟨hgp, hans⟩
    unfold exS
    dsimp only
    rw [hR]
    cases q with
    | ok xr =>
      obtain ⟨x, r⟩ := xr
      obtain ⟨v, rfl, h1, h2, _⟩ := hans
      obtain ⟨b, rfl, _⟩ := h1.ptr
      refine ⟨⟨_, rfl, fun us y s hu hy => ?_⟩, h2, hgp⟩
      injection hu with hu
      subst hu
      rw [hR] at hy
      injection hy with hy
      injection hy with hy _
      rw [← hy]; exact h1
    | error cp =>
      obtain ⟨c, p⟩ := cp
      obtain ⟨o, ts', rfl, h1, _, h2⟩ := hans
      refine ⟨⟨o, rfl, fun us y s hu hy => ?_⟩, ⟨h2, ts', h1⟩, hgp⟩
      injection hu with hu
      subst hu
      rw [hR] at hy
      cases hy
noncomputable def brS (en : Nat) (σ : Sg) : Sg := match σ with
  | .ok ts => (match many nb en ts with | .ok (_, r) => .ok r | .error e => .error e)
  | .error e => .error e
theorem br_is (en : Nat) (σ : Sg) : mu en [93] (exS en (mu en [91] σ)) = brS en σ ∧ ∀ ts x r, σ = .ok ts → many nb en ts = .ok (x, r) → ∃ us r', mu en [91] σ = .ok us ∧ exR en us = .ok (x, r') := by
  cases σ with
  | error e => exact ⟨rfl, fun _ _ _ h => by cases h⟩
  | ok ts =>
    unfold brS mu exS many
    dsimp only
    cases h1 : want en [91] ts with
    | error e => exact ⟨rfl, fun _ _ _ h hm => by injection h with h; subst h; rw [h1] at hm; cases hm⟩
    | ok us =>
      dsimp only
      have e2 : rx nb en [93] us = match exR en us with | .ok (x, r) => (if (hd en r).t = [93] then .ok (x, r) else .error (3, (hd en r).a)) | .error e => .error e := by
        unfold rx exR
        cases row nb en (10 * us.length + 10) 1 0 us with
        | none => rfl
        | some q => cases q <;> rfl
      rw [e2]
      cases h2 : exR en us with
      | error e =>
        refine ⟨rfl, fun _ _ _ h hm => ?_⟩
        injection h with h; subst h; rw [h1] at hm; dsimp only at hm; rw [e2, h2] at hm; cases hm
      | ok xr =>
        obtain ⟨x, r⟩ := xr
        dsimp only
        refine ⟨?_, fun _ y s h hm => ⟨us, r, rfl, ?_⟩⟩
        · unfold want
          by_cases hc : (hd en r).t = [93]
          · rw [if_pos hc, if_pos hc]
          · rw [if_neg hc, if_neg hc]
        · injection h with h; subst h; rw [h1] at hm; dsimp only at hm; rw [e2, h2] at hm
          dsimp only at hm
          split at hm
          · rename_i h3
            split at h3
            · cases h3
            · cases hm
          · rename_i h3
            injection hm with hm
            injection hm with hm _
            split at h3
            · injection h3 with h3
              injection h3 with h3 _
              rw [h2, ← hm, ← h3]
            · cases h3
set_option maxRecDepth 10000 in
theorem bracket_es (w : World) (P en : Nat) (σ : Sg) (h : Es w P en σ) :
    Calls Tryz.prog 112 #[.pointer (some ⟨P, 0, none⟩)] w fun e w' => (∃ o, e = .returned (.pointer o) ∧ ∀ ts x r, σ = .ok ts → many nb en ts = .ok (x, r) → IsX w' (.pointer o) x) ∧ Es w' P en (brS en σ) ∧ Gp P w w' := by
  obtain ⟨q1, q2⟩ := br_is en σ
  have c1 := must_es w P en σ [91] (by simp) h
  have HQ : Hid (mu en [93] (exS en (mu en [91] σ)) = brS en σ ∧ ∀ ts x r, σ = .ok ts → many nb en ts = .ok (x, r) → ∃ us r', mu en [91] σ = .ok us ∧ exR en us = .ok (x, r')) := ⟨q1, q2⟩
  clear q1 q2 h
  go_enter Tryz.func112, Tryz.ntmps112
  go_wp2_with fail
  refine c1.mono ?_
  rintro e w2 ⟨rfl, hE2, hg2⟩
  have c2 := expr_es w2 P en _ hE2
  have HG2 : Hid (Gp P w w2) := hg2
  clear c1 hE2 hg2
  go_wp2_with fail
  refine c2.mono ?_
  rintro e w3 ⟨⟨o, rfl, ho⟩, hE3, hg3⟩
  have c3 := must_es w3 P en _ [93] (by simp) hE3
  have HG3 : Hid (Gp P w w3 ∧ ∀ ts x r, mu en [91] σ = .ok ts → exR en ts = .ok (x, r) → IsX w3 (.pointer o) x) := ⟨HG2.out.trans hg3, ho⟩
  have HE3 : Hid (Es w3 P en (exS en (mu en [91] σ))) := hE3
  clear c2 hE3 hg3 ho
  go_wp2_with fail
  refine c3.mono ?_
  rintro e w4 ⟨rfl, hE4, hg4⟩
  rw [HQ.out.1] at hE4
  have HR : Hid (Es w4 P en (brS en σ) ∧ Gp P w w4 ∧ ∀ ts x r, σ = .ok ts → many nb en ts = .ok (x, r) → IsX w4 (.pointer o) x) := ⟨hE4, HG3.out.1.trans hg4, fun ts x r hs hm => by
    obtain ⟨us, r', k1, k2⟩ := HQ.out.2 ts x r hs hm
    exact (HG3.out.2 us x r' k1 k2).keep (HE3.out.kx hg4)⟩
  clear c3 hE4 hg4
  go_wp2
  go_ret
  exact ⟨⟨o, rfl, HR.out.2.2⟩, HR.out.1, HR.out.2.1⟩
end Go.Proofs.YtococaecjecjgaaGreatDoor.tr
namespace Go.Proofs.YtococaecjecjgaaGreatDoor.tr
set_option linter.unusedVariables false
open lx ex tm

def Rl {α : Type} (R : Rs α) (σ : Sg) (d : α) : Prop := R = match σ with | .ok r => .ok (d, r) | .error e => .error e
theorem Rl.okk {α : Type} {R : Rs α} {r : List Tk} {d : α} (h : Rl R (.ok r) d) : R = .ok (d, r) := h
theorem Rl.err {α : Type} {R : Rs α} {e : Int × Nat} {d : α} (h : Rl R (.error e) d) : R = .error e := h
theorem see_ok {en : Nat} {σ : Sg} {m : List UInt8} (hm : m ≠ []) (h : seeT en σ = m) : ∃ t r, σ = .ok (t :: r) ∧ t.t = m := by
  match σ, h with
  | .error e, h => exact absurd h.symm hm
  | .ok [], h => exact absurd h.symm hm
  | .ok (t :: r), h => exact ⟨t, r, rfl, h⟩
theorem name_rl {en : Nat} {us : List Tk} : Rl (name en us) (nmS en (.ok us)) (hd en us).t := by
  unfold Rl nmS
  dsimp only
  cases h : name en us with
  | error e => rfl
  | ok tr =>
    obtain ⟨t, r⟩ := tr
    rw [name_see h]
def Xq (en : Nat) (σ : Sg) (x : Ex) : Prop := ∃ us r, σ = .ok us ∧ many nb en us = .ok (x, r)
theorem br_rl {en : Nat} {us : List Tk} : (∃ x, Xq en (.ok us) x ∧ Rl (many nb en us) (brS en (.ok us)) x) ∨ ∃ e, many nb en us = .error e ∧ brS en (.ok us) = .error e := by
  unfold brS
  dsimp only
  cases h : many nb en us with
  | error e => exact Or.inr ⟨e, rfl, rfl⟩
  | ok xr =>
    obtain ⟨x, r⟩ := xr
    exact Or.inl ⟨x, ⟨us, r, rfl, h⟩, rfl⟩
theorem byts_way {en : Nat} {us : List Tk} :
    (∃ x, Xq en (nmS en (.ok us)) x ∧ Rl (byts nb en us) (mu en [59] (brS en (nmS en (.ok us)))) { D0 with kd := 2, nm := (hd en us).t, ct := some x }) ∨ ∃ e, byts nb en us = .error e ∧ mu en [59] (brS en (nmS en (.ok us))) = .error e := by
  have h1 := name_rl (en := en) (us := us)
  unfold byts
  cases h : nmS en (.ok us) with
  | error e =>
    rw [h] at h1
    rw [h1.err]
    exact Or.inr ⟨e, rfl, rfl⟩
  | ok r =>
    rw [h] at h1
    rw [h1.okk]
    dsimp only
    rcases br_rl (en := en) (us := r) with ⟨x, k1, k2⟩ | ⟨e, k1, k2⟩
    · refine Or.inl ⟨x, k1, ?_⟩
      cases h3 : brS en (.ok r) with
      | error e =>
        rw [h3] at k2
        rw [k2.err]
        rfl
      | ok r3 =>
        rw [h3] at k2
        rw [k2.okk]
        unfold Rl mu
        dsimp only
        cases want en [59] r3 <;> rfl
    · rw [k1, k2]
      exact Or.inr ⟨e, rfl, rfl⟩
theorem part_br {en : Nat} {ts : List Tk} {σ1 : Sg} {d1 : D} (h0 : Rl (kind en ts) σ1 d1) (hT : seeT en (nmS en σ1) = [91]) :
    (∃ x, Xq en (nmS en σ1) x ∧ Rl (tm.part nb en ts) (mu en [59] (brS en (nmS en σ1))) { d1 with nm := seeT en σ1, mn := true, ct := some x }) ∨ ∃ e, tm.part nb en ts = .error e ∧ mu en [59] (brS en (nmS en σ1)) = .error e := by
  obtain ⟨t, r, h2, h3⟩ := see_ok (by simp) hT
  cases σ1 with
  | error e => cases h2
  | ok us =>
    have h1 := name_rl (en := en) (us := us)
    rw [h2] at h1 ⊢
    unfold tm.part
    rw [h0.okk]
    dsimp only
    rw [h1.okk]
    dsimp only
    unfold tm.mark
    rw [if_pos (show (hd en (t :: r)).t = [91] from h3)]
    rcases br_rl (en := en) (us := t :: r) with ⟨x, k1, k2⟩ | ⟨e, k1, k2⟩
    · refine Or.inl ⟨x, k1, ?_⟩
      cases h4 : brS en (.ok (t :: r)) with
      | error e =>
        rw [h4] at k2
        rw [k2.err]
        rfl
      | ok r3 =>
        rw [h4] at k2
        rw [k2.okk]
        unfold Rl mu
        dsimp only
        cases want en [59] r3 <;> rfl
    · rw [k1, k2]
      exact Or.inr ⟨e, rfl, rfl⟩
theorem part_no {en : Nat} {ts : List Tk} {σ1 : Sg} {d1 : D} (h0 : Rl (kind en ts) σ1 d1) (hT : seeT en (nmS en σ1) ≠ [91]) (hE : d1.kd ≠ 1 ∨ seeT en (nmS en σ1) ≠ [61]) :
    Rl (tm.part nb en ts) (mu en [59] (nmS en σ1)) { d1 with nm := seeT en σ1 } := by
  unfold tm.part
  cases σ1 with
  | error e => rw [h0.err]; rfl
  | ok us =>
    have h1 := name_rl (en := en) (us := us)
    rw [h0.okk]
    dsimp only
    cases h : nmS en (.ok us) with
    | error e => rw [h] at h1; rw [h1.err]; rfl
    | ok r =>
      rw [h] at h1 hT hE
      rw [h1.okk]
      dsimp only
      unfold tm.mark
      rw [if_neg (show ¬ (hd en r).t = [91] from hT), if_neg (show ¬ ((hd en r).t = [61] ∧ d1.kd = 1) from fun hc => by
        rcases hE with hE | hE
        · exact hE hc.2
        · exact hE hc.1)]
      unfold Rl mu
      dsimp only
      cases want en [59] r <;> rfl
def ruS (en : Nat) (a : Nat) (σ : Sg) : Sg :=
  if ruleOf (seeT en σ) = 0 then nmS en (fl 3 a (ps en σ))
  else if ruleOf (seeT en σ) = 3 then (if seeT en (nmS en (ps en σ)) = [59] then nmS en (ps en σ) else nmS en (nmS en (ps en σ)))
  else nmS en (ps en σ)
theorem rule_rl {en : Nat} {us : List Tk} (d : D) (a : Nat) (ha : a = (hd en us).a) :
    Rl (rule en d us) (ruS en a (.ok us)) (if ruleOf (hd en us).t = 3 then { d with ru := 3, f1 := seeT en (ps en (.ok us)), l1 := (if seeT en (nmS en (ps en (.ok us))) = [59] then seeT en (ps en (.ok us)) else seeT en (nmS en (ps en (.ok us)))) } else { d with ru := ruleOf (hd en us).t, f1 := seeT en (ps en (.ok us)) }) := by
  cases us with
  | nil =>
    rw [ha]
    clear ha
    have : rule en d [] = .error (3, en) := by unfold tm.rule; rw [if_pos (show ruleOf (hd en ([] : List Tk)).t = 0 by show ruleOf [] = 0; decide)]; rfl
    rw [this]
    unfold ruS
    rw [if_pos (show ruleOf (seeT en (.ok [])) = 0 by show ruleOf [] = 0; decide)]
    rfl
  | cons t r =>
    rw [ha]
    clear ha
    rw [show ps en (.ok (t :: r)) = .ok r from rfl]
    unfold ruS tm.rule
    rw [show ps en (.ok (t :: r)) = .ok r from rfl, show seeT en (.ok (t :: r)) = t.t from rfl, show (hd en (t :: r)).t = t.t from rfl, show (hd en (t :: r)).a = t.a from rfl, show seeT en (.ok r) = (hd en r).t from rfl]
    have h1 := name_rl (en := en) (us := r)
    by_cases h0 : ruleOf t.t = 0
    · rw [if_pos h0, if_pos h0]; rfl
    rw [if_neg h0, if_neg h0]
    rw [show (t :: r).tail = r from rfl]
    cases h : nmS en (.ok r) with
    | error e =>
      rw [h] at h1
      rw [h1.err]
      dsimp only
      by_cases h3 : ruleOf t.t = 3
      · rw [if_pos h3]
        rw [if_neg (show ¬ seeT en (.error e) = [59] by show ¬ ([] : List UInt8) = [59]; decide)]; rfl
      · rw [if_neg h3]; rfl
    | ok r2 =>
      rw [h] at h1
      rw [h1.okk]
      dsimp only
      rw [show seeT en (.ok r2) = (hd en r2).t from rfl]
      by_cases h3 : ruleOf t.t = 3
      · rw [if_pos h3, if_pos h3, if_pos h3]
        by_cases h4 : (hd en r2).t = [59]
        · rw [if_pos h4, if_pos h4, if_pos h4]; rfl
        · rw [if_neg h4, if_neg h4, if_neg h4]
          have h5 := name_rl (en := en) (us := r2)
          cases h6 : nmS en (.ok r2) with
          | error e => rw [h6] at h5; rw [h5.err]; rfl
          | ok r3 => rw [h6] at h5; rw [h5.okk]; rfl
      · rw [if_neg h3, if_neg h3, if_neg h3]; rfl
theorem part_ru {en : Nat} {ts : List Tk} {σ1 : Sg} {d1 : D} (h0 : Rl (kind en ts) σ1 d1) (hk : d1.kd = 1) (hT : seeT en (nmS en σ1) = [61]) (a : Nat) (ha : ∀ us, ps en (nmS en σ1) = .ok us → a = (hd en us).a) :
    Rl (tm.part nb en ts) (mu en [59] (ruS en a (ps en (nmS en σ1)))) (if ruleOf (seeT en (ps en (nmS en σ1))) = 3 then { d1 with nm := seeT en σ1, ru := 3, f1 := seeT en (ps en (ps en (nmS en σ1))), l1 := (if seeT en (nmS en (ps en (ps en (nmS en σ1)))) = [59] then seeT en (ps en (ps en (nmS en σ1))) else seeT en (nmS en (ps en (ps en (nmS en σ1))))) } else { d1 with nm := seeT en σ1, ru := ruleOf (seeT en (ps en (nmS en σ1))), f1 := seeT en (ps en (ps en (nmS en σ1))) }) := by
  obtain ⟨t, r, h2, h3⟩ := see_ok (by simp) hT
  cases σ1 with
  | error e => cases h2
  | ok us =>
    have h1 := name_rl (en := en) (us := us)
    rw [h2] at h1 ha ⊢
    rw [show ps en (.ok (t :: r)) = .ok r from rfl] at ha ⊢
    unfold tm.part
    rw [h0.okk]
    dsimp only
    rw [h1.okk]
    dsimp only
    unfold tm.mark
    rw [if_neg (show ¬ (hd en (t :: r)).t = [91] by show ¬ t.t = [91]; rw [h3]; decide), if_pos ⟨show (hd en (t :: r)).t = [61] from h3, hk⟩]
    rw [show (t :: r).tail = r from rfl]
    have h5 := rule_rl (en := en) (us := r) { d1 with nm := (hd en us).t } a (ha r rfl)
    rw [show seeT en (.ok us) = (hd en us).t from rfl, show seeT en (.ok r) = (hd en r).t from rfl]
    cases h6 : ruS en a (.ok r) with
    | error e => rw [h6] at h5; rw [h5.err]; rfl
    | ok r3 =>
      rw [h6] at h5
      rw [h5.okk]
      unfold Rl mu
      dsimp only
      cases want en [59] r3 <;> rfl
end Go.Proofs.YtococaecjecjgaaGreatDoor.tr
namespace Go.Proofs.YtococaecjecjgaaGreatDoor.layQ
open Go.Shelf
def rf : FuncId → FuncId
  | 100 => 114
  | 207 => 144
  | x => x
def rt : TypeId → TypeId
  | 3 => 3
  | 4 => 4
  | 9 => 9
  | x => x
def rg : Nat → Nat

  | x => x
def ren : Ren := ⟨rf, rt, rg⟩
set_option maxRecDepth 100000 in
theorem laid : Lays.n100 Tryz.prog ren where
  mixed := by kernel_rfl
  f100 := by kernel_rfl
  f207 := by kernel_rfl
  t3 := by kernel_rfl
  a3 := fun _ => by kernel_rfl
  z3 := fun _ => by kernel_rfl
  v3 := fun _ => by kernel_rfl
  t4 := by kernel_rfl
  a4 := fun _ => by kernel_rfl
  z4 := fun _ => by kernel_rfl
  v4 := fun _ => by kernel_rfl
  t9 := by kernel_rfl
  a9 := fun _ => by kernel_rfl
  z9 := fun _ => by kernel_rfl
  v9 := fun _ => by kernel_rfl
end Go.Proofs.YtococaecjecjgaaGreatDoor.layQ
namespace Go.Proofs.YtococaecjecjgaaGreatDoor.tr
set_option linter.unusedVariables false
open Go.ChangeShapes Go.WideShapes Go.ChangeAt Go.RowKit Go.Maps
open mem lx ex tm

theorem lawB : Keyed Tryz.prog 5 := int_keyed Tryz.underlying5
def keyB (n : Int) : Lit := .int .u8 n
theorem keyB_of {n : Int} (h : (Lit.int .u8 n).wf = true) : keyOf Tryz.prog 5 (.int .u8 n) = some (keyB n) := keyOf_int_mk Tryz.underlying5 h
theorem isKeyB (z : Int) : WideAt.IsKeyLit (keyB z) := trivial
theorem keyB_inj {a b : Int} (h : a ≠ b) : keyB a ≠ keyB b := fun e => h (by unfold keyB at e; injection e)
def Mb (w : World) (b : Nat) (f : Int → Int) (n : Nat) : Prop :=
  ∃ (D : DataW Unit) (c : Nat), c ≤ n ∧ w.ownsMap Tryz.prog 5 (plainElem Tryz.prog 3) b c D ∧ ∀ c, D.atKey (keyB c) (.lit (.int .i64 0)) = .lit (.int .i64 (f c))
theorem zero_int (w : World) : (zeroValue 3).run Tryz.prog w = .ok (.int .i64 0) w := by kernel_rfl
theorem Mb.step {w w' : World} {b n : Nat} {f : Int → Int} {row : Option Nat} (h : Mb w b f n) (hg : w.grownBy w' row) (hne : some b ≠ row) : Mb w' b f n := by
  obtain ⟨D, c, hc, h1, h2⟩ := h
  exact ⟨D, c, hc, h1.kept hg hne, h2⟩
set_option maxRecDepth 10000 in
theorem Mb.look {w : World} {b n : Nat} {f : Int → Int} (h : Mb w b f n) (c : Int) (hc : (Lit.int .u8 c).wf = true) :
    (Instr.lookup 195 (.map (some b)) (.int .u8 c) false).run Tryz.prog w = .ok (.int .i64 (f c)) w := by
  obtain ⟨D, c', hc', h1, h2⟩ := h
  obtain ⟨z, hrun, hz, _⟩ := h1.lookup_int lawB Tryz.underlying195 Tryz.underlying3 (zero_int w) (keyB_of hc)
  rw [h2 c] at hz
  have e4 : f c = z := by injection hz with e; injection e
  rw [hrun, e4]
set_option maxRecDepth 10000 in
theorem Mb.put {w : World} {b n : Nat} {f : Int → Int} (h : Mb w b f n) (c j : Int) (hc : (Lit.int .u8 c).wf = true) (hn : n ≤ 100000000) (hj : -1 ≤ j ∧ j ≤ 1000000) :
    ∃ w', (Instr.mapUpdate 195 (.map (some b)) (.int .u8 c) (.int .i64 j)).run Tryz.prog w = .ok () w' ∧ Mb w' b (fun d => if d = c then j else f d) (n + 1) ∧ w.grownBy w' (some b) := by
  obtain ⟨D, c', hc', h1, h2⟩ := h
  obtain ⟨w', hr, ho, hg⟩ := h1.update lawB Tryz.underlying195 (by unfold maxLen; omega) (keyB_of hc) (plainElem_int Tryz.underlying3 (a := j) (WalkArith.wf_i64 (by omega)))
  refine ⟨w', hr, ⟨_, c' + 1, by omega, ho, fun d => ?_⟩, hg⟩
  dsimp only
  by_cases e : d = c
  · subst e
    rw [atKey_put_same h1.isMap (isKeyB d), if_pos rfl]
  · rw [atKey_put_other (keyB_inj e), if_neg e]
    exact h2 d
theorem Mb.made (w : World) : Mb (w.alloc (.map #[] 0)) w.heap.size (fun _ => 0) 0 :=
  ⟨_, 0, Nat.le_refl _, World.ownsMap_made w Tryz.prog 5 _, fun c => rfl⟩
def kvb (w w' : World) (t n : Int) (b : Nat) : Prop := (Instr.mapUpdate 195 (.map (some b)) (.int .u8 t) (.int .i64 n)).run Tryz.prog w = .ok () w'
theorem fourB (w : World) (b : UInt8) (nw : Nat) (hb : (b = 56 ∧ nw = 1) ∨ (b = 49 ∧ nw = 2) ∨ (b = 51 ∧ nw = 4) ∨ (b = 54 ∧ nw = 8)) : ∃ w1 w2 w3 w4 : World, kvb (w.alloc (.map #[] 0)) w1 56 1 w.heap.size ∧ kvb w1 w2 49 2 w.heap.size ∧ kvb w2 w3 51 4 w.heap.size ∧ kvb w3 w4 54 8 w.heap.size ∧ Bl w w4 ∧
    (Instr.lookup 195 (.map (some w.heap.size)) (.int .u8 (b.toNat : Int)) false).run Tryz.prog w4 = .ok (.int .i64 (nw : Int)) w4 := by
  obtain ⟨w1, r1, o1, g1⟩ := (Mb.made w).put 56 1 (by decide) (by omega) (by omega)
  obtain ⟨w2, r2, o2, g2⟩ := o1.put 49 2 (by decide) (by omega) (by omega)
  obtain ⟨w3, r3, o3, g3⟩ := o2.put 51 4 (by decide) (by omega) (by omega)
  obtain ⟨w4, r4, o4, g4⟩ := o3.put 54 8 (by decide) (by omega) (by omega)
  refine ⟨w1, w2, w3, w4, r1, r2, r3, r4, ?_, ?_⟩
  · have b0 : Bl w (w.alloc (.map #[] 0)) := (Bl.refl w).alloc _
    have ne : ∀ k, some w.heap.size = some k → w.heap.size ≤ k := fun k hk => by injection hk with hk; omega
    exact bl_grown (bl_grown (bl_grown (bl_grown b0 g1 ne) g2 ne) g3 ne) g4 ne
  · rcases hb with ⟨rfl, rfl⟩ | ⟨rfl, rfl⟩ | ⟨rfl, rfl⟩ | ⟨rfl, rfl⟩
    · exact o4.look 56 (by decide)
    · exact o4.look 49 (by decide)
    · exact o4.look 51 (by decide)
    · exact o4.look 54 (by decide)
end Go.Proofs.YtococaecjecjgaaGreatDoor.tr
