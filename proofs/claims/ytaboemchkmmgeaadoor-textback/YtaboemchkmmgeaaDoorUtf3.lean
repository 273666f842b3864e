/- What Decode of package text answers. -/
import Derived.Test.YtaboemchkmmgeaaDoorUtf2
import Derived.Test.YtaboemchkmmgeaaDoorLay197
import Derived.Test.YtaboemchkmmgeaaDoorIntRow
namespace Go.Proofs.YtaboemchkmmgeaaDoor.utf
set_option linter.unusedVariables false
open Go.ChangeShapes Go.WideShapes Go.ChangeAt Go.RowKit
open Go.Lib (decodeGo decodeN decode_at)
open mem rows

theorem dec_at (t : ByteArray) (w : World) (hT : Tabs w) : Calls Tryd.prog 25 #[.string t] w fun e w' => e = .returned (.tuple #[.int .i32 (decodeGo t).1, .int .i64 (decodeGo t).2]) ∧ Bl w w' :=
  Any.utf8_DecodeRuneInString lay197.laid t w hT
theorem stN_bd (n b0 b1 b2 b3 : Nat) (hn : 1 ≤ n) (h0 : b0 < 256) : 1 ≤ (stN n b0 b1 b2 b3).2 ∧ (stN n b0 b1 b2 b3).2 ≤ n ∧ (stN n b0 b1 b2 b3).2 ≤ 4 ∧ (stN n b0 b1 b2 b3).1 ≤ 2097151 := by
  unfold stN
  repeat' split
  all_goals (simp only; omega)
theorem st_bd (t : ByteArray) (h : 1 ≤ t.size) : 1 ≤ (st t).2 ∧ (st t).2 ≤ t.size ∧ (st t).2 ≤ 4 ∧ (st t).1 ≤ 2097151 := stN_bd _ _ _ _ _ h (nb_lt t 0)
/-- All signs of a text, and how many bytes each one has. -/
def D : Nat → ByteArray → List (Nat × Nat)
  | 0, _ => []
  | f + 1, s => if s.size = 0 then [] else st s :: D f (s.extract (st s).2 s.size)
def sg (l : List (Nat × Nat)) : List Int := l.map fun p => (p.1 : Int)
def sz (l : List (Nat × Nat)) : List Int := l.map fun p => (p.2 : Int)
theorem sg_len (l : List (Nat × Nat)) : (sg l).length = l.length := by simp [sg]
theorem sz_len (l : List (Nat × Nat)) : (sz l).length = l.length := by simp [sz]
theorem sg_snoc (l : List (Nat × Nat)) (p : Nat × Nat) : sg (l ++ [p]) = sg l ++ [(p.1 : Int)] := by simp [sg]
theorem sz_snoc (l : List (Nat × Nat)) (p : Nat × Nat) : sz (l ++ [p]) = sz l ++ [(p.2 : Int)] := by simp [sz]
theorem D_none (f : Nat) (t : ByteArray) (h : t.size = 0) : D f t = [] := by
  cases f with
  | zero => rfl
  | succ f => rw [D, if_pos h]
theorem D_some (f : Nat) (t : ByteArray) (h : 1 ≤ t.size) : D (f + 1) t = st t :: D f (t.extract (st t).2 t.size) := by
  rw [D, if_neg (by omega)]
theorem D_len (f : Nat) (t : ByteArray) : (D f t).length ≤ f := by
  induction f generalizing t with
  | zero => exact Nat.le_refl _
  | succ f ih =>
    rw [D]
    split
    · exact Nat.zero_le _
    · simpa using ih _
def strLen : Value → Nat
  | .string t => t.size
  | _ => 0
theorem isEmpty_at (s : ByteArray) : s.toList.isEmpty = decide (s.size = 0) := by
  rw [ByteArray.toList_eq]
  have e : s.size = s.data.toList.length := rfl
  rw [e]
  cases s.data.toList <;> simp
theorem own2_nil (w : World) (base : Nat) (h : base ≤ w.heap.size) : Own2 w base (.slice none 0 0) [] (.slice none 0 0) [] := ⟨Own.nil _ _, Own.nil _ _, fun k e => absurd e (by simp [Value.ownBlock]), h⟩
theorem bad_st (n b0 b1 b2 b3 : Nat) (hn : 1 ≤ n) (h0 : b0 < 256) (h1 : b1 < 256) (h2 : b2 < 256) (h3 : b3 < 256) (hd : (decodeN n b0 b1 b2 b3).1 = 65533 ∧ (decodeN n b0 b1 b2 b3).2 = 1) : (stN n b0 b1 b2 b3).1 = 65533 := by
  have ha := (dec_st n b0 b1 b2 b3 hn h0 h1 h2 h3).2 hd
  by_cases hb : b0 < 194 ∨ 244 < b0
  · unfold stN
    rw [if_neg (by omega), if_pos hb]
  · have hd' := hd.2
    rw [dec_slow n b0 b1 b2 b3 _ hn h1 h2 h3 (by omega) (by omega) rfl, slow_one] at hd'
    unfold stN
    rw [if_neg (by omega), if_neg hb]
    generalize lo b0 = l at *
    generalize hi b0 = h at *
    by_cases c1 : b0 < 224
    · rw [if_pos c1] at hd'
      rw [if_pos (by omega)]
    · by_cases c2 : b0 < 240
      · rw [if_neg c1, if_pos c2] at hd'
        split
        · rfl
        · rw [if_pos (by omega)]
      · rw [if_neg c1, if_neg c2] at hd'
        split
        · rfl
        · split
          · rfl
          · rw [if_pos (by omega)]
theorem begun_st (t : ByteArray) (h : 1 ≤ t.size) (hd : (decodeGo t).1 = 65533 ∧ (decodeGo t).2 = 1) : (st t).1 = 65533 := by
  rw [decodeGo_eq t h] at hd
  exact bad_st _ _ _ _ _ h (nb_lt t 0) (nb_lt t 1) (nb_lt t 2) (nb_lt t 3) hd
set_option maxHeartbeats 1000000 in
theorem Decode_at (s : ByteArray) (w : World) (hs : s.size ≤ 1000) (hT : Tabs w) :
    Calls Tryd.prog 9 #[.string s] w fun e w' => ∃ v1 v2, e = .returned (.tuple #[v1, v2]) ∧ Own2 w' w.heap.size v1 (sg (D s.size s)) v2 (sz (D s.size s)) ∧ Bl w w' := by
  have HT : Hid (Tabs w) := hT
  obtain ⟨base, hbase⟩ : ∃ b, b = w.heap.size := ⟨_, rfl⟩
  rw [← hbase]
  have HB : Hid (base = w.heap.size) := hbase
  clear hT hbase
  go_enter Tryd.func9, Tryd.ntmps9
  go_wp2
  go_loopw [0, 2, 3] (fun sv v1 v2 wr => ∃ (t : ByteArray) (L : List (Nat × Nat)) (f : Nat), sv = .string t ∧ t.size ≤ f ∧ L.length + f = s.size ∧ Hid (L ++ D f t = D s.size s) ∧ Own2 wr base v1 (sg L) v2 (sz L) ∧ Bl w wr) (fun sv _ _ _ => strLen sv)
  case atStart => exact ⟨s, [], s.size, rfl, Nat.le_refl _, by simp, rfl, own2_nil _ _ (by rw [HB.out]; exact Nat.le_refl _), Bl.refl _⟩
  case round =>
    obtain ⟨t, L, f, rfl, htf, hLf, HA, hown, hbl⟩ := hrel
    by_cases ht : 1 ≤ t.size
    · have hne : t.toList.isEmpty = false := by rw [isEmpty_at]; exact decide_eq_false (by omega)
      have cD := dec_at t _ (HT.out.step hbl)
      have hdec := decodeGo_eq t ht
      have hds := dec_st t.size (nb t 0) (nb t 1) (nb t 2) (nb t 3) ht (nb_lt t 0) (nb_lt t 1) (nb_lt t 2) (nb_lt t 3)
      have hsb := st_bd t ht
      rw [← hdec] at hds
      obtain ⟨f', hf'⟩ : ∃ f', f = f' + 1 := ⟨f - 1, by omega⟩
      have HE : Hid ((L ++ [st t]) ++ D f' (t.extract (st t).2 t.size) = D s.size s) := by
        have := HA.out
        rw [hf', D_some f' t ht] at this
        simpa [Hid] using this
      by_cases hbad : (decodeGo t).1 = 65533 ∧ (decodeGo t).2 = 1
      · have hs1 : ∃ K, st t = (65533, K) := by
          have h1 := (begun_st t ht hbad)
          exact ⟨(st t).2, by rw [← h1]⟩
        obtain ⟨K, hK⟩ := hs1
        have HBad : Hid _ := hbad
        rw [hbad.1, hbad.2] at cD
        rw [hK] at hsb HE
        simp only at hsb HE
        have HRK : Hid (st t = (65533, K)) := hK
        have HE' : Hid ((L ++ [st t]) ++ D f' (t.extract K t.size) = D s.size s) := by rw [hK]; exact HE
        clear hK hbad hds hdec HA HE
        rename Hid ((L ++ [st t]) ++ D f' (t.extract K t.size) = D s.size s) => HE
        have hKz : (K : Int) ≤ (t.size : Int) := by omega
        go_wp2_with (first
          | (go_at_call 25; refine cD.mono ?_; rintro e w1 ⟨rfl, hb1⟩; have ho1 := hown.step hb1)
          | (go_at_call 26; refine (begun_at t _ ht (by omega) (HT.out.step (hbl.trans hb1)) HBad.out).mono ?_; rw [HRK.out]; rintro e w2 ⟨rfl, _, hb2⟩; have ho2 := ho1.step hb2)
          | (at_builtin; refine wpL_app rfl (.tmp 21) (.tmp 24) rfl rfl _ _ 65533 w2.heap.size rfl rfl _ (ho2.alloc _).a (by go_simp) (by rw [sg_len]; omega) (ho2.alloc _).le ?_; intro v1' w3 hw3 hg3 hv3; have ho3 := (ho2.alloc _).first hw3 hg3 hv3; have hb3 : Bl w w3 := bl_grown (((hbl.trans hb1).trans hb2).alloc _) hg3 (fun k e => by rw [← HB.out]; exact (ho2.a.block k e).1); clear hw3 hg3 hv3)
          | (at_builtin; refine wpL_app rfl (.tmp 26) (.tmp 28) rfl rfl _ _ (K : Int) w3.heap.size rfl rfl _ (ho3.alloc _).b (by go_simp) (by rw [sz_len]; omega) (ho3.alloc _).le ?_; intro v2' w4 hw4 hg4 hv4; have ho4 := (ho3.alloc _).second hw4 hg4 hv4; have hb4 : Bl w w4 := bl_grown (hb3.alloc _) hg4 (fun k e => by rw [← HB.out]; exact (ho3.b.block k e).1); clear hw4 hg4 hv4))
        go_roundw
        case rel => exact ⟨_, L ++ [st t], f', rfl, by rw [ByteArray.size_extract]; omega, by rw [List.length_append]; simp; omega, HE, by rw [sg_snoc, sz_snoc, HRK.out]; exact ho4, hb4⟩
        case measure => simp only [strLen, ByteArray.size_extract]; omega
      · have hst := hds.1 hbad
        rw [show stN t.size (nb t 0) (nb t 1) (nb t 2) (nb t 3) = st t from rfl] at hst
        rw [← hst] at cD hbad
        obtain ⟨R, hR⟩ : ∃ R, (st t).1 = R := ⟨_, rfl⟩
        obtain ⟨K, hK⟩ : ∃ K, (st t).2 = K := ⟨_, rfl⟩
        rw [hR, hK] at cD hbad hsb
        rw [hK] at HE
        have HRK : Hid (st t = (R, K)) := by rw [← hR, ← hK]; rfl
        clear hR hK hst hds hdec HA
        have hKz : (K : Int) ≤ (t.size : Int) := by omega
        have hx : ((R : Int) == 65533) = false ∨ (((R : Int) == 65533) = true ∧ ((K : Int) == 1) = false) := by
          rcases Nat.lt_trichotomy R 65533 with h | h | h
          · left; rw [beq_eq_false_iff_ne]; omega
          · right; exact ⟨by rw [beq_iff_eq]; omega, by rw [beq_eq_false_iff_ne]; omega⟩
          · left; rw [beq_eq_false_iff_ne]; omega
        clear hbad
        rcases hx with hx | ⟨hx, hx2⟩
        all_goals
          go_wp2_with (first
            | (go_at_call 25; refine cD.mono ?_; rintro e w1 ⟨rfl, hb1⟩; have ho1 := hown.step hb1)
            | (at_builtin; refine wpL_app rfl (.tmp 21) (.tmp 24) rfl rfl _ _ (R : Int) w1.heap.size rfl rfl _ (ho1.alloc _).a (by go_simp) (by rw [sg_len]; omega) (ho1.alloc _).le ?_; intro v1' w3 hw3 hg3 hv3; have ho3 := (ho1.alloc _).first hw3 hg3 hv3; have hb3 : Bl w w3 := bl_grown ((hbl.trans hb1).alloc _) hg3 (fun k e => by rw [← HB.out]; exact (ho1.a.block k e).1); clear hw3 hg3 hv3)
            | (at_builtin; refine wpL_app rfl (.tmp 26) (.tmp 28) rfl rfl _ _ (K : Int) w3.heap.size rfl rfl _ (ho3.alloc _).b (by go_simp) (by rw [sz_len]; omega) (ho3.alloc _).le ?_; intro v2' w4 hw4 hg4 hv4; have ho4 := (ho3.alloc _).second hw4 hg4 hv4; have hb4 : Bl w w4 := bl_grown (hb3.alloc _) hg4 (fun k e => by rw [← HB.out]; exact (ho3.b.block k e).1); clear hw4 hg4 hv4))
          go_roundw
          case rel => exact ⟨_, L ++ [st t], f', rfl, by rw [ByteArray.size_extract]; omega, by rw [List.length_append]; simp; omega, HE, by rw [sg_snoc, sz_snoc, HRK.out]; exact ho4, hb4⟩
          case measure => simp only [strLen, ByteArray.size_extract]; omega
    · have hz : t.size = 0 := by omega
      have hne : t.toList.isEmpty = true := by rw [isEmpty_at]; exact decide_eq_true hz
      have hL : L = D s.size s := by
        have := HA.out
        rwa [D_none f t hz, List.append_nil] at this
      have HL : Hid (L = D s.size s) := hL
      clear hL HA
      go_wp2
      go_ret2
      exact ⟨_, _, rfl, by rw [← HL.out]; exact hown, hbl⟩
end Go.Proofs.YtaboemchkmmgeaaDoor.utf
