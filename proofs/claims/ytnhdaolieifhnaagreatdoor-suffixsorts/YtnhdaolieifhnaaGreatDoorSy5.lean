/- What the document's own SuffixParts answers: a map of texts. -/
import Derived.Test.YtnhdaolieifhnaaGreatDoorSy4
import Derived.Maps.OwnSet
import Derived.StringKeys
namespace Go.Proofs.YtnhdaolieifhnaaGreatDoor.sx
set_option linter.unusedVariables false
open Go.ChangeShapes Go.WideShapes Go.ChangeAt Go.RowKit Go.Maps
open mem rows fd

theorem lawS : Keyed Tryz.prog 9 := string_keyed Tryz.underlying9
def skey (x : List UInt8) : Lit := .string x
theorem skey_is (x : List UInt8) : WideAt.IsKeyLit (skey x) := trivial
theorem skey_inj {a b : List UInt8} (h : a ≠ b) : skey a ≠ skey b := fun e => h (by unfold skey at e; injection e)
/-- A map of the call's own that has just these texts. -/
def Mk (w : World) (b n : Nat) (K : List (List UInt8)) : Prop :=
  ∃ D : DataW Unit, w.ownsMap Tryz.prog 9 (plainElem Tryz.prog 4) b n D ∧ Maps.size D = K.length ∧ K.Nodup ∧ ∀ x, has D (skey x) = true ↔ x ∈ K
theorem Mk.made (w : World) : Mk (w.alloc (.map #[] 0)) w.heap.size 0 [] :=
  ⟨_, World.ownsMap_made w Tryz.prog 9 _, rfl, List.nodup_nil, fun x => by rw [has_eq]; simp⟩
theorem Mk.len {w : World} {b n : Nat} {K : List (List UInt8)} (h : Mk w b n K) (ty : TypeId) : (Builtin.len_ #[64] ty #[.map (some b)]).run Tryz.prog w = .ok (.int .i64 (K.length : Int)) w := by
  obtain ⟨D, h1, h2, _, _⟩ := h
  rw [h1.len Tryz.underlying64 ty, h2]
/-- A text more. -/
theorem Mk.put {w : World} {b n : Nat} {K : List (List UInt8)} (h : Mk w b n K) (t : ByteArray) (ht : t.size ≤ 5000) (hn : n ≤ 100000000) :
    ∃ w' K', (Instr.mapUpdate 64 (.map (some b)) (.string t) (.bool true)).run Tryz.prog w = .ok () w' ∧ Mk w' b (n + 1) K' ∧ w.grownBy w' (some b) ∧ ∀ x, x ∈ K' ↔ x ∈ K ∨ x = t.data.toList := by
  obtain ⟨D, h1, h2, h3, h4⟩ := h
  obtain ⟨w', hr, ho, hg⟩ := h1.update lawS Tryz.underlying64 (by unfold maxLen; omega) (WideMaps.keyOf_string_mk Tryz.underlying9 (s := t) (by unfold maxLen; omega)) (plainElem_bool Tryz.underlying4 true)
  have hput : ∀ x d, has (D.put (skey t.data.toList) d) (skey x) = true ↔ x ∈ K ∨ x = t.data.toList := fun x d => by
    by_cases e : x = t.data.toList
    · subst e
      rw [has_put_same h1.isMap (skey_is _)]
      exact ⟨fun _ => Or.inr rfl, fun _ => rfl⟩
    · rw [has_put_other (skey_inj e), h4]
      exact ⟨Or.inl, fun h' => h'.elim id fun h' => absurd h' e⟩
  by_cases hin : t.data.toList ∈ K
  · refine ⟨w', K, hr, ⟨_, ho, ?_, h3, fun x => ?_⟩, hg, fun x => ⟨Or.inl, fun h' => h'.elim id fun h' => by rw [h']; exact hin⟩⟩
    · have := size_put (k := skey t.data.toList) (h1.tidy lawS) (DataW.lit (.bool true) : DataW Unit)
      rw [(h4 _).2 hin, if_pos rfl, h2] at this
      exact this
    · rw [show has (D.put (Lit.string t.data.toList) _) (skey x) = has (D.put (skey t.data.toList) _) (skey x) from rfl, hput]
      exact ⟨fun h' => h'.elim id fun h' => by rw [h']; exact hin, Or.inl⟩
  · refine ⟨w', t.data.toList :: K, hr, ⟨_, ho, ?_, List.nodup_cons.2 ⟨hin, h3⟩, fun x => ?_⟩, hg, fun x => by rw [List.mem_cons]; exact or_comm⟩
    · have := size_put (k := skey t.data.toList) (h1.tidy lawS) (DataW.lit (.bool true) : DataW Unit)
      have hf : has D (skey t.data.toList) = false := by
        rw [← Bool.not_eq_true, h4]; exact hin
      rw [hf, if_neg (by decide), h2] at this
      rw [List.length_cons]
      exact this
    · rw [show has (D.put (Lit.string t.data.toList) _) (skey x) = has (D.put (skey t.data.toList) _) (skey x) from rfl, hput, List.mem_cons]
      exact or_comm
/-- The texts that are seen on the way. -/
def Sn (s : ByteArray) (i j : Nat) (x : List UInt8) : Prop := ∃ a m, 1 ≤ m ∧ a + m ≤ s.size ∧ (a < i ∨ (a = i ∧ a + m < j)) ∧ x = (tx s a m).data.toList
theorem Sn.begin (s : ByteArray) (i : Nat) (x : List UInt8) : Sn s i 0 x ↔ Sn s i (i + 1) x := by
  constructor
  · rintro ⟨a, m, h1, h2, h3, h4⟩
    exact ⟨a, m, h1, h2, by omega, h4⟩
  · rintro ⟨a, m, h1, h2, h3, h4⟩
    exact ⟨a, m, h1, h2, by omega, h4⟩
theorem Sn.next (s : ByteArray) (i j : Nat) (hij : i < j) (hj : j ≤ s.size) (x : List UInt8) : Sn s i (j + 1) x ↔ Sn s i j x ∨ x = (s.extract i j).data.toList := by
  constructor
  · rintro ⟨a, m, h1, h2, h3, h4⟩
    by_cases e : a = i ∧ a + m = j
    · refine Or.inr ?_
      rw [h4, tx, e.2, e.1]
    · exact Or.inl ⟨a, m, h1, h2, by omega, h4⟩
  · rintro (⟨a, m, h1, h2, h3, h4⟩ | h)
    · exact ⟨a, m, h1, h2, by omega, h4⟩
    · refine ⟨i, j - i, by omega, by omega, Or.inr ⟨rfl, by omega⟩, ?_⟩
      rw [h, tx, show i + (j - i) = j by omega]
theorem Sn.done (s : ByteArray) (i : Nat) (x : List UInt8) : Sn s i (s.size + 1) x ↔ Sn s (i + 1) 0 x := by
  constructor
  · rintro ⟨a, m, h1, h2, h3, h4⟩
    exact ⟨a, m, h1, h2, by omega, h4⟩
  · rintro ⟨a, m, h1, h2, h3, h4⟩
    exact ⟨a, m, h1, h2, by omega, h4⟩
/-- A text's bytes from 1 on. -/
def phi (x : List UInt8) : List Int := x.map fun b => (b.toNat : Int) + 1
theorem phi_inj {x y : List UInt8} (h : phi x = phi y) : x = y := by
  unfold phi at h
  induction x generalizing y with
  | nil => cases y with
    | nil => rfl
    | cons b y => simp at h
  | cons a x ih => cases y with
    | nil => simp at h
    | cons b y =>
      simp only [List.map_cons, List.cons.injEq] at h
      rw [ih h.2, UInt8.toNat_inj.1 (by omega : a.toNat = b.toNat)]
theorem phi_tx (s : ByteArray) (a m : Nat) (h : a + m ≤ s.size) : phi (tx s a m).data.toList = seg (gs s) a m := by
  have hl : (tx s a m).data.toList.length = m := tx_size s a m h
  apply List.ext_getElem?
  intro t
  by_cases ht : t < m
  · have h2 : t < (tx s a m).data.toList.length := by omega
    have h3 := sb_tx s a m t h ht
    unfold sb at h3
    rw [List.getD_eq_getElem?_getD, List.getElem?_eq_getElem h2] at h3
    unfold phi seg
    rw [List.getElem?_map, List.getElem?_eq_getElem h2, List.getElem?_map, List.getElem?_range ht]
    simp only [Option.map_some, Option.getD_some] at h3 ⊢
    rw [gs_at _ _ (by omega), h3]
    rfl
  · rw [List.getElem?_eq_none (by rw [phi, List.length_map]; omega), List.getElem?_eq_none (by rw [seg_len]; omega)]
theorem parts_same {s : ByteArray} {L : List Nat} (hL : IsSort (gs s) s.size L) {K : List (List UInt8)} (hn : K.Nodup) (hK : ∀ x, x ∈ K ↔ Sn s s.size 0 x) : K.length = (prt (gs s) s.size L).length := by
  have hn2 : (K.map phi).Nodup := by
    rw [List.nodup_iff_pairwise_ne, List.pairwise_map]
    exact (List.nodup_iff_pairwise_ne.1 hn).imp fun h e => h (phi_inj e)
  have := ((List.perm_ext_iff_of_nodup hn2 (nodup_prt (gs_tx s) hL)).2 fun y => by
    rw [mem_prt (gs_tx s) hL, List.mem_map]
    constructor
    · rintro ⟨x, hx, rfl⟩
      obtain ⟨a, m, h1, h2, _, rfl⟩ := (hK x).1 hx
      exact ⟨a, m, h1, h2, phi_tx s a m h2⟩
    · rintro ⟨a, m, h1, h2, rfl⟩
      exact ⟨_, (hK _).2 ⟨a, m, h1, h2, Or.inl (by omega), rfl⟩, phi_tx s a m h2⟩).length_eq
  rwa [List.length_map] at this
theorem Mk.nodup {w : World} {b n : Nat} {K : List (List UInt8)} (h : Mk w b n K) : K.Nodup := by
  obtain ⟨_, _, _, h3, _⟩ := h
  exact h3
set_option maxRecDepth 10000 in
theorem refParts_at (s : ByteArray) (w : World) (hs : s.size ≤ 4000) :
    Calls Tryz.prog 15 #[.string s] w fun e w' => ∃ k : Nat, e = .returned (.int .i64 (k : Int)) ∧ Bl w w' ∧ ∃ K : List (List UInt8), k = K.length ∧ K.Nodup ∧ ∀ x, x ∈ K ↔ Sn s s.size 0 x := by
  have hmm := @run_makeMap Tryz.prog
  obtain ⟨M, hM⟩ : ∃ M, M = w.heap.size := ⟨_, rfl⟩
  have HM : Hid (M = w.heap.size) := hM
  clear hM
  go_enter Tryz.func15, Tryz.ntmps15
  go_wp2
  rw [← HM.out]
  go_loopw [9] (fun iv wr => ∃ (i n : Nat) (K : List (List UInt8)), i ≤ s.size ∧ iv = .int .i64 (i : Int) ∧ n ≤ 5000 * i ∧ Mk wr M n K ∧ Hid (∀ x, x ∈ K ↔ Sn s i 0 x) ∧ Bl w wr) (fun iv _ => s.size - (intOf iv).toNat)
  case atStart => exact ⟨0, 0, [], Nat.zero_le _, rfl, Nat.zero_le _, by rw [HM.out]; exact Mk.made w, fun x => ⟨fun h => absurd h (by simp), fun ⟨a, m, h1, h2, h3, h4⟩ => by omega⟩, (Bl.refl _).alloc _⟩
  case round =>
    obtain ⟨i, n, K, hi, rfl, hn, hmk, HK, hbl⟩ := hrel
    by_cases hlt : i < s.size
    · have hlz : (i : Int) < (s.size : Int) := by omega
      have HS : Hid (Mk wr M n K ∧ (∀ x, x ∈ K ↔ Sn s i (i + 1) x) ∧ Bl w wr) := ⟨hmk, fun x => (HK.out x).trans (Sn.begin s i x), hbl⟩
      clear hmk HK hbl
      rename World => wv
      go_wp2
      go_loopw [5] (fun jv wr => ∃ (j m : Nat) (K : List (List UInt8)), i < j ∧ j ≤ s.size + 1 ∧ jv = .int .i64 (j : Int) ∧ m ≤ 5000 * i + j ∧ Mk wr M m K ∧ Hid (∀ x, x ∈ K ↔ Sn s i j x) ∧ Bl w wr) (fun jv _ => s.size + 1 - (intOf jv).toNat)
      case atStart => exact ⟨i + 1, n, K, Nat.lt_succ_self i, by omega, by go_num, by omega, HS.out.1, HS.out.2.1, HS.out.2.2⟩
      case round =>
        obtain ⟨j, m, K2, hij, hj, rfl, hm, hmk, HK2, hbl⟩ := hrel
        by_cases hjn : j ≤ s.size
        · have g1 : (j : Int) ≤ (s.size : Int) := by omega
          have hsz : (s.extract i j).size ≤ 5000 := by rw [ByteArray.size_extract]; omega
          obtain ⟨w4, K3, hup, hmk3, hg4, hmem⟩ := hmk.put (s.extract i j) hsz (by omega)
          have HK3 : Hid (∀ x, x ∈ K3 ↔ Sn s i (j + 1) x) := fun x => by rw [hmem, HK2.out, Sn.next s i j hij hjn]
          have hb4 : Bl w w4 := bl_grown hbl hg4 (fun k e => by injection e with e; rw [← e, HM.out]; exact Nat.le_refl _)
          have g2 : i ≤ j := by omega
          clear hmem hg4 hmk HK2 hbl
          go_wp2
          go_roundw
          case rel => exact ⟨j + 1, m + 1, K3, by omega, by omega, by go_num, by omega, hmk3, HK3, hb4⟩
          case measure => simp [intOf]; omega
        · have g1 : ¬ (j : Int) ≤ (s.size : Int) := by omega
          have HK3 : Hid (∀ x, x ∈ K2 ↔ Sn s (i + 1) 0 x) := fun x => by
            rw [HK2.out, ← Sn.done s i x, show j = s.size + 1 by omega]
          go_wp2
          go_roundw
          case rel => exact ⟨i + 1, m, K2, hlt, by go_num, by omega, hmk, HK3, hbl⟩
          case measure => simp [intOf]; omega
    · have hnl : ¬ ((i : Int) < (s.size : Int)) := by omega
      have HK3 : Hid (∀ x, x ∈ K ↔ Sn s s.size 0 x) := fun x => by
        rw [HK.out, show i = s.size by omega]
      have hlen := hmk.len
      go_wp2
      go_ret
      exact ⟨K.length, rfl, hbl, K, rfl, hmk.nodup, HK3.out⟩
end Go.Proofs.YtnhdaolieifhnaaGreatDoor.sx
