/- What again of package lz answers: the longest text that stood already. -/
import Derived.Test.YtmchpmfogjhpoaaDoorLz2
namespace Go.Proofs.YtmchpmfogjhpoaaDoor.lz
set_option linter.unusedVariables false
open Go.ChangeShapes Go.WideShapes Go.ChangeAt Go.RowKit
open mem rows

/-- What is known on the way: K is where the same three bytes stand next. -/
def AgI (g : Nat → Int) (n a : Nat) (K : Int) (f m : Nat) : Prop :=
  ∃ b, b ≤ 1023 ∧ b ≤ a ∧ (f, m) = agF g n a b ∧ (∀ j, b < j → j ≤ a → (j : Int) < (a : Int) - K → cm g n (a - j) a < 3) ∧ (K = -1 ∨ ∃ q : Nat, K = (q : Int) ∧ q + b < a ∧ 3 ≤ cm g n q a)
theorem Th.trans {g : Nat → Int} {j q a : Nat} (h : Th g j a) (k : Th g q a) : Th g j q :=
  ⟨h.1.trans k.1.symm, h.2.1.trans k.2.1.symm, h.2.2.trans k.2.2.symm⟩
theorem Th.then {g : Nat → Int} {j q a : Nat} (h : Th g j q) (k : Th g q a) : Th g j a :=
  ⟨h.1.trans k.1, h.2.1.trans k.2.1, h.2.2.trans k.2.2⟩
theorem AgI.start {g : Nat → Int} {n a : Nat} (ha : a ≤ n) : AgI g n a (nr g n a) 0 0 := by
  refine ⟨0, by omega, by omega, rfl, fun j h1 h2 h3 => ?_, ?_⟩
  · rcases Nat.lt_or_ge (cm g n (a - j) a) 3 with h | h
    · exact h
    · obtain ⟨h4, h5⟩ := (cm_three ha).1 h
      rcases nr_spec g n a h4 with ⟨e, h6⟩ | ⟨q, e, h6, h7, h8⟩
      · exact absurd h5 (h6 _ (by omega))
      · exact absurd h5 (h8 _ (by omega) (by omega))
  · by_cases h4 : a + 3 ≤ n
    · rcases nr_spec g n a h4 with ⟨e, h6⟩ | ⟨q, e, h6, h7, h8⟩
      · exact Or.inl e
      · exact Or.inr ⟨q, e, by omega, (cm_three ha).2 ⟨h4, h7⟩⟩
    · exact Or.inl (nr_out g n a h4)
theorem AgI.next {g : Nat → Int} {n a q f m : Nat} (ha : a ≤ n) (h : AgI g n a (q : Int) f m) (hq : a ≤ q + 1023) :
    (m < cm g n q a → AgI g n a (nr g n q) (a - q) (cm g n q a)) ∧ (¬ m < cm g n q a → AgI g n a (nr g n q) f m) := by
  obtain ⟨b, h1, h2, h3, h4, h5⟩ := h
  rcases h5 with h5 | ⟨q', e, h5, h6⟩
  · omega
  obtain rfl : q' = q := by omega
  obtain ⟨k1, k2⟩ := (cm_three ha).1 h6
  have hs : agF g n a (a - q' - 1) = (f, m) := by
    rw [agF_skip (b := b) (a - q' - 1) (by omega) (fun j a1 a2 => h4 j a1 (by omega) (by omega)), ← h3]
  have hb : agF g n a (a - q') = if m < cm g n q' a then (a - q', cm g n q' a) else (f, m) := by
    rw [show a - q' = (a - q' - 1) + 1 by omega, agF, hs, show a - (a - q' - 1 + 1) = q' by omega]
    by_cases c : m < cm g n q' a
    · rw [if_pos ⟨c, h6⟩, if_pos c]
    · rw [if_neg (fun h => c h.1), if_neg c]
  have hrest : (∀ j, a - q' < j → j ≤ a → (j : Int) < (a : Int) - nr g n q' → cm g n (a - j) a < 3) ∧ (nr g n q' = -1 ∨ ∃ p : Nat, nr g n q' = (p : Int) ∧ p + (a - q') < a ∧ 3 ≤ cm g n p a) := by
    rcases nr_spec g n q' (by omega) with ⟨e, h7⟩ | ⟨p, e, h7, h8, h9⟩
    · refine ⟨fun j a1 a2 a3 => ?_, Or.inl e⟩
      rcases Nat.lt_or_ge (cm g n (a - j) a) 3 with h | h
      · exact h
      · exact absurd (((cm_three ha).1 h).2.trans k2) (h7 _ (by omega))
    · refine ⟨fun j a1 a2 a3 => ?_, Or.inr ⟨p, e, by omega, (cm_three ha).2 ⟨k1, h8.then k2⟩⟩⟩
      rcases Nat.lt_or_ge (cm g n (a - j) a) 3 with h | h
      · exact h
      · exact absurd (((cm_three ha).1 h).2.trans k2) (h9 _ (by omega) (by omega))
  constructor
  · intro c
    exact ⟨a - q', by omega, by omega, by rw [hb, if_pos c], hrest.1, hrest.2⟩
  · intro c
    exact ⟨a - q', by omega, by omega, by rw [hb, if_neg c], hrest.1, hrest.2⟩
theorem AgI.done {g : Nat → Int} {n a f m : Nat} {K : Int} (h : AgI g n a K f m) (hK : K < 0 ∨ 1023 < (a : Int) - K) : ag g n a = (f, m) := by
  obtain ⟨b, h1, h2, h3, h4, h5⟩ := h
  unfold ag
  rw [agF_skip (b := b) (min 1023 a) (by omega) (fun j a1 a2 => h4 j a1 (by omega) (by
    rcases h5 with h5 | ⟨q, e, h5, h6⟩ <;> omega)), ← h3]
theorem AgI.bd {g : Nat → Int} {n a f m : Nat} {K : Int} (h : AgI g n a K f m) : -1 ≤ K ∧ K < (a : Int) ∨ K = -1 := by
  obtain ⟨b, h1, h2, h3, h4, h5⟩ := h
  rcases h5 with h5 | ⟨q, e, h5, h6⟩ <;> omega
set_option maxRecDepth 10000 in
theorem again_at (s : ByteArray) (a B : Nat) (w : World) (ha : a < s.size) (hs : s.size ≤ 4000) (hB : RowI w B (nrL (sb s) s.size s.size)) :
    Calls Tryd.prog 23 #[.string s, .int .i64 (a : Int), .slice (some ⟨B, 0, none⟩) s.size s.size] w fun e w' => e = .returned (.tuple #[.int .i64 (((ag (sb s) s.size a).1 : Nat) : Int), .int .i64 (((ag (sb s) s.size a).2 : Nat) : Int)]) ∧ Dr w w' := by
  have HB : Hid (RowI w B (nrL (sb s) s.size s.size)) := hB
  have hc := hB.cell (j := a) (by rw [nrL_len]; exact ha)
  rw [nrL_get _ _ _ ha] at hc
  have HS : Hid (AgI (sb s) s.size a (nr (sb s) s.size a) 0 0) := AgI.start (by omega)
  have haz : (a : Int) < s.size := by omega
  clear hB
  generalize nr (sb s) s.size a = K0 at hc HS
  go_enter Tryd.func23, Tryd.ntmps23
  go_wp2
  go_loopw [6, 7, 8, 9] (fun fv mv kv _ wr => ∃ (f m : Nat) (K : Int), fv = .int .i64 (f : Int) ∧ mv = .int .i64 (m : Int) ∧ kv = .int .i64 K ∧ -1 ≤ K ∧ K < (a : Int) ∧ Hid (AgI (sb s) s.size a K f m) ∧ Dr w wr) (fun _ _ kv _ _ => (intOf kv + 1).toNat)
  case atStart => exact ⟨0, 0, K0, rfl, rfl, rfl, by have := HS.out.bd; omega, by have := HS.out.bd; omega, HS, Dr.refl _⟩
  case round =>
    clear HS
    obtain ⟨f, m, K, rfl, rfl, rfl, hK1, hK2, H, hd⟩ := hrel
    obtain ⟨p, rfl⟩ := hd
    generalize hwq : w.drewN p = wq
    have HW : Hid (w.drewN p = wq) := hwq
    have hrow : RowI wq B (nrL (sb s) s.size s.size) := by rw [← hwq]; exact HB.out
    clear hwq
    have z1 : IntKind.i64.wrap ((a : Int) - K) = (a : Int) - K := by rw [IntKind.wrap_i64]; omega
    by_cases h0 : 0 ≤ K
    · obtain ⟨q, rfl⟩ : ∃ q : Nat, K = (q : Int) := ⟨K.toNat, by omega⟩
      by_cases h1 : (a : Int) - q ≤ 1023
      · obtain ⟨n1, n2⟩ := H.out.next (by omega) (by omega)
        have cC := common_at s q a wq (by omega) (by omega) hs
        have hq := hrow.cell (j := q) (by rw [nrL_len]; omega)
        rw [nrL_get _ _ _ (by omega)] at hq
        have hqb := nr_bd (sb s) s.size q
        obtain ⟨c, hce⟩ : ∃ c, c = cm (sb s) s.size q a := ⟨_, rfl⟩
        rw [← hce] at cC n1 n2
        have hcb : c ≤ 130 := by rw [hce]; exact (cm_is _ _ _ _).le
        generalize nr (sb s) s.size q = K' at hq hqb n1 n2
        have N1 : Hid (m < c → AgI (sb s) s.size a K' (a - q) c) := n1
        have N2 : Hid (¬ m < c → AgI (sb s) s.size a K' f m) := n2
        have hqs : (q : Int) < s.size := by omega
        clear n1 n2 hce H hrow
        go_wp2_with fail
        refine cC.mono ?_
        rintro e w3 ⟨rfl, hd3⟩
        obtain ⟨r, rfl⟩ := hd3
        have hq2 : (wq.drewN r).cell? ⟨B, q, none⟩ = some (.int .i64 K') := hq
        have HD : Hid (Dr w (wq.drewN r)) := by rw [← HW.out]; exact Dr.drewN _ ⟨p, rfl⟩
        clear cC hq
        generalize wq.drewN r = wz at hq2 HD ⊢
        by_cases hm : m < c
        · have hmz : (m : Int) < (c : Int) := by omega
          obtain ⟨d, hde⟩ : ∃ d, d = a - q := ⟨_, rfl⟩
          have hdz : (a : Int) - (q : Int) = (d : Int) := by omega
          have HR : Hid (AgI (sb s) s.size a K' d c) := by rw [hde]; exact N1.out hm
          clear hde N1 N2
          go_wp2
          go_roundw
          case rel => exact ⟨d, c, K', rfl, rfl, rfl, by omega, by omega, HR, HD.out⟩
          case measure => simp [intOf]; omega
        · have hmz : ¬ (m : Int) < (c : Int) := by omega
          have HR : Hid (AgI (sb s) s.size a K' f m) := N2.out hm
          clear N1 N2
          go_wp2
          go_roundw
          case rel => exact ⟨f, m, K', rfl, rfl, rfl, by omega, by omega, HR, HD.out⟩
          case measure => simp [intOf]; omega
      · have HE : Hid (ag (sb s) s.size a = (f, m)) := H.out.done (Or.inr (by omega))
        go_wp2
        go_ret2
        rw [HE.out]
        exact ⟨rfl, by rw [← HW.out]; exact ⟨p, rfl⟩⟩
    · have HE : Hid (ag (sb s) s.size a = (f, m)) := H.out.done (Or.inl (by omega))
      go_wp2
      go_ret2
      rw [HE.out]
      exact ⟨rfl, by rw [← HW.out]; exact ⟨p, rfl⟩⟩
end Go.Proofs.YtmchpmfogjhpoaaDoor.lz
