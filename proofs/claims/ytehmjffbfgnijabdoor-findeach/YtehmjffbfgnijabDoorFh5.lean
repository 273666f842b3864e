/- What Any of package find answers. -/
import Derived.Test.YtehmjffbfgnijabDoorFg6
import Derived.Test.YtehmjffbfgnijabDoorFh2
import Derived.Test.YtehmjffbfgnijabDoorFh3
import Derived.Test.YtehmjffbfgnijabDoorFh4
namespace Go.Proofs.YtehmjffbfgnijabDoor.anyp
set_option linter.unusedVariables false
open Go.ChangeShapes Go.WideShapes Go.ChangeAt Go.RowKit Go.Maps
open mem rows fd tree sp

theorem OwnS.lower {w : World} {base base' : Nat} {v : Value} {l : List (Int × Int)} (h : OwnS w base v l) (hb : base' ≤ base) : OwnS w base' v l := by
  refine ⟨h.1, ?_⟩
  rcases h.2 with h | ⟨g, cap, cur, h1, h2, h3⟩
  · exact Or.inl h
  · exact Or.inr ⟨g, cap, cur, h1, by omega, h3⟩
theorem tab_bl {w w' : World} (h : low.Tab w) (hb : Bl w w') : low.Tab w' := fun j hj => at_bl hb (h j hj)
theorem Contains_no (q : Option Addr) (cp : Nat) (ps : List ByteArray) (w : World) (hin : InT w q ps) (hK : ps.length ≤ 5000) (hp : ∀ k, k < ps.length → 0 < (ps.getD k .empty).size) :
    Calls Tryd.prog 15 #[.slice q ps.length cp, .string ⟨#[]⟩] w fun e w' => e = .returned (.bool false) ∧ w' = w :=
  (Contains_at q cp ps w hin hK).mono (by
    rintro e w' ⟨⟨b, rfl, hb⟩, rfl⟩
    refine ⟨?_, rfl⟩
    cases b with
    | false => rfl
    | true =>
      obtain ⟨k, h1, h2⟩ := hb.1 rfl
      have := hp k h1
      omega)
theorem Contains_yes (q : Option Addr) (cp : Nat) (ps : List ByteArray) (w : World) (hin : InT w q ps) (hK : ps.length ≤ 5000) (hp : HasEmpty ps) :
    Calls Tryd.prog 15 #[.slice q ps.length cp, .string ⟨#[]⟩] w fun e w' => e = .returned (.bool true) ∧ w' = w :=
  (Contains_at q cp ps w hin hK).mono (by
    rintro e w' ⟨⟨b, rfl, hb⟩, rfl⟩
    rw [hb.2 hp]
    exact ⟨rfl, rfl⟩)
/-- What Any answers. -/
def AnyAns (s : ByteArray) (ps : List ByteArray) (w w' : World) (e : Ending) : Prop := ∃ v L, e = .returned (.tuple #[v, .nilIface]) ∧ OwnS w' w.heap.size v L ∧ IsAny s ps L ∧ L.length ≤ 20000 ∧ Bl w w'
theorem range_next (s : ByteArray) (i : Nat) : (List.range i).map (sb s) ++ [sb s i] = (List.range (i + 1)).map (sb s) := by rw [List.range_succ, List.map_append]; rfl
set_option maxRecDepth 20000 in
set_option maxHeartbeats 2000000 in
theorem Any_at (s : ByteArray) (q : Option Addr) (cp : Nat) (ps : List ByteArray) (w : World) (hin : InT w q ps) (hK : ps.length ≤ 60) (hp : ∀ k, k < ps.length → 0 < (ps.getD k .empty).size ∧ (ps.getD k .empty).size ≤ 30) (hs : s.size ≤ 250) (hT : low.Tab w) :
    Calls Tryd.prog 7 #[.string s, .slice q ps.length cp] w fun e w' => AnyAns s ps w w' e := by
  have cC := Contains_no q cp ps w hin (by omega) (fun k hk => (hp k hk).1)
  have cT := treeOf_at q cp ps w hin hK hp
  obtain ⟨K, hKe⟩ : ∃ K, K = ps.length := ⟨_, rfl⟩
  have HIN : Hid (InT w q ps) := hin
  have HS : Hid (∀ k, k < ps.length → 0 < (ps.getD k .empty).size ∧ (ps.getD k .empty).size ≤ 30) := hp
  have HK : Hid (K = ps.length) := hKe
  have HTB : Hid (low.Tab w) := hT
  rw [← hKe] at hK cC cT ⊢
  clear hin hp hKe hT
  have hK6 : ¬ (60 : Int) < (K : Int) := by omega
  go_enter Tryd.func7, Tryd.ntmps7
  go_wp2_with (first
    | (go_at_call 15; refine cC.mono ?_; rintro e w2 ⟨rfl, rfl⟩)
    | (go_at_call 16; refine cT.mono ?_; rintro e wt ⟨tv, m, tx, E, W, lv, rfl, hTR, hm, hbt, hal, hbi⟩))
  obtain ⟨g, cap, rfl, hBg, hgl, _, hcells⟩ := hTR.row.shape hTR.tr.pos
  have HTR : Hid _ := hTR
  have HCS : Hid _ := hcells
  have HBT : Hid (Bl w2 wt) := hbt
  have HAL : Hid _ := hal
  have HBI : Hid _ := hbi
  have HINT : Hid (InT wt q ps) := HIN.out.step hbt
  have HTBT : Hid (low.Tab wt) := tab_bl HTB.out hbt
  have HL0 : Hid (LS tx m ((List.range 0).map (sb s)) 0) := ⟨hTR.tr.pos, by rw [hTR.tr.root]; exact List.nil_suffix, fun i hi h => by rw [List.suffix_nil.1 h]; exact Nat.zero_le _⟩
  have HH0 : Hid (Has s ps 0 0 []) := Has.start s ps fun k hk => (HS.out k hk).1
  obtain ⟨Bt, hBt⟩ : ∃ Bt, Bt = wt.heap.size := ⟨_, rfl⟩
  have HB : Hid (Bt = wt.heap.size) := hBt
  clear hTR hbt hal hbi hcells hBt cT cC hBg hgl HIN HTB
  go_loopw [6, 8, 24] (fun lv av iv wr => ∃ (i a : Nat) (l : List (Int × Int)), i ≤ s.size ∧ iv = .int .i64 (i : Int) ∧ av = .int .i64 (a : Int) ∧ Hid (LS tx m ((List.range i).map (sb s)) a) ∧ Hid (Has s ps i 0 l) ∧ OwnS wr Bt lv l ∧ Bl wt wr) (fun _ _ iv _ => s.size - (intOf iv).toNat)
  case atStart => exact ⟨0, 0, [], Nat.zero_le _, rfl, rfl, HL0, HH0, OwnS.nil _ _, Bl.refl _⟩
  case round =>
    clear HL0 HH0
    obtain ⟨i, a, l, hi, rfl, rfl, HLS, HH, hown, hbl⟩ := hrel
    by_cases hlt : i < s.size
    · have hlz : (i : Int) < (s.size : Int) := by omega
      have hgk : (((s[i]'hlt).toNat : Nat) : Int) = sb s i := (sb_get s i hlt).symm
      have hbd := sb_bd s i
      have cO := on_at _ m tx E W lv m _ a _ (sb s i) wr (HTR.out.step hbl) HLS.out hbd (by omega)
      rw [range_next] at cO
      generalize sb s i = c at hgk hbd cO
      go_wp2_with (go_at_call 17; refine cO.mono ?_; rintro e w3 ⟨j, rfl, hls, rfl⟩; have r2 := at_bl hbl (HCS.out j hls.lt).2.2; have hjz : 0 ≤ (j : Int) ∧ (j : Int) < (m : Int) := (by have := hls.lt; omega))
      have hbe := bit_ends hls HAL.out HBI.out
      have HBE : Hid (∀ k, (W j).testBit k = true ↔ k < ps.length ∧ Ends s ps k (i + 1)) := hbe.2
      have HWL : Hid (W j < 18446744073709551616) := hbe.1
      have HLS3 : Hid _ := hls
      clear hbe hls cO
      generalize W j = Wj at HBE HWL r2
      go_loopw [6, 10] (fun lv xv wr => ∃ (b X : Nat) (l : List (Int × Int)), b ≤ 64 ∧ xv = .int .u64 (X : Int) ∧ X < 18446744073709551616 ∧ Hid (∀ k, X.testBit k = true ↔ (k < ps.length ∧ Ends s ps k (i + 1)) ∧ b ≤ k) ∧ Hid (Has s ps i b l) ∧ OwnS wr Bt lv l ∧ Bl wt wr) (fun _ xv _ => (intOf xv).toNat)
      case atStart => exact ⟨0, Wj, l, by omega, rfl, HWL.out, fun k => by rw [HBE.out k]; exact ⟨fun h => ⟨h, Nat.zero_le _⟩, fun h => h.1⟩, HH, hown, hbl⟩
      case round =>
        clear HH hown HBE HWL r2 hbl
        obtain ⟨b, X, l, hb, rfl, hX, HXB, HH, hown, hbl⟩ := hrel
        by_cases hX0 : X = 0
        · have hx0 : ((X : Int) == 0) = true := by rw [beq_iff_eq]; omega
          have HH2 : Hid (Has s ps (i + 1) 0 l) := HH.out.round hb fun q h1 h2 h3 => by
            have := (HXB.out q).2 ⟨⟨h2, h3⟩, h1⟩
            rw [hX0] at this
            simp at this
          clear hX0 HH HXB
          go_wp2
          go_roundw
          case rel => exact ⟨i + 1, j, l, by omega, by go_num, rfl, HLS3, HH2, hown, hbl⟩
          case measure => simp [intOf]; omega
        · have hx0 : ((X : Int) == 0) = false := by rw [beq_eq_false_iff_ne]; omega
          obtain ⟨h64, hbit, hlow, hnext⟩ := low.low_bit X hX hX0
          have cz := fun w hw => low.tz_at X hX hX0 w hw
          generalize Lib.ctz 64 X = k at h64 hbit hlow hnext cz
          obtain ⟨⟨hkK, hke⟩, hbk⟩ := (HXB.out k).1 hbit
          have hkz : (k : Int) < (K : Int) := by rw [HK.out]; omega
          obtain ⟨x, rfl, hcx⟩ := (HINT.out.step hbl).at k hkK
          have hsz := hke.1
          have HH2 : Hid _ := HH.out.add hbk hkK hke (fun q h1 h2 h3 h4 => by
            have := (HXB.out q).2 ⟨⟨h3, h4⟩, h1⟩
            rw [hlow q h2] at this
            cases this)
          obtain ⟨Y, hY⟩ : ∃ Y, Y = X &&& (X - 1) := ⟨_, rfl⟩
          rw [← hY] at hnext
          have hYX : Y < X := by rw [hY]; exact Nat.lt_of_le_of_lt Nat.and_le_right (by omega)
          have hsub : IntKind.u64.wrap ((X : Int) - 1) = ((X - 1 : Nat) : Int) := by rw [IntKind.wrap_u64]; omega
          have hand : bits .and .u64 (X : Int) ((X - 1 : Nat) : Int) = (Y : Int) := by rw [hY]; exact bits_and_u64_nat X _ hX (by omega)
          have HXB2 : Hid (∀ k', Y.testBit k' = true ↔ (k' < ps.length ∧ Ends s ps k' (i + 1)) ∧ k + 1 ≤ k') := fun k' => by
            rw [hnext, HXB.out]
            constructor
            · rintro ⟨⟨h1, _⟩, h2⟩; exact ⟨h1, h2⟩
            · rintro ⟨h1, h2⟩; exact ⟨⟨h1, by omega⟩, h2⟩
          have hll := HH.out.len
          have hcast : (((i + 1 - (ps.getD k .empty).size : Nat) : Int)) = (i : Int) + 1 - ((ps.getD k .empty).size : Int) := by omega
          rw [hcast] at HH2
          have HTW := tab_bl HTBT.out hbl
          have hHT : Hid (low.Tab wr) := HTW
          have cz2 := cz wr HTW
          clear cz HTW hnext hlow hbit HXB HH hke hY hcast
          generalize ps.getD k .empty = pk at hcx hsz HH2
          go_wp2_with (first
            | (go_at_call 18; refine cz2.mono ?_; rintro e w4 ⟨rfl, rfl⟩)
            | (at_builtin; refine wpL_appS rfl (.tmp 46) (.tmp 57) rfl rfl _ _ ((i : Int) + 1 - (pk.size : Int), (k : Int)) w4.heap.size rfl rfl _ (hown.step ((Bl.refl _).alloc _)) (by go_simp) (by go_simp) (by omega) (by have := hbl.size; rw [← HB.out] at this; simp; omega) ?_; intro v' w5 hw5 hg5; have hb5 : Bl wt w5 := bl_grown (hbl.alloc _) hg5 (fun k e => by rw [← HB.out]; exact (hown.block k e).1); clear hg5))
          go_roundw
          case rel => exact ⟨k + 1, Y, _, by omega, rfl, by omega, HXB2, HH2, hw5, hb5⟩
          case measure => simp [intOf]; omega
    · have hnl : ¬ ((i : Int) < (s.size : Int)) := by omega
      have hiL : i = s.size := by omega
      have HH2 : Hid (Has s ps s.size 0 l) := by rw [← hiL]; exact HH
      have hll := HH.out.len
      clear hiL
      have cS := sort_at _ l wr Bt hown (by omega)
      go_wp2_with (go_at_call 19; refine cS.mono ?_; rintro e w3 ⟨rfl, l', hpe, hpw, ho3, hg3⟩)
      go_ret2
      refine ⟨_, l', rfl, OwnS.lower ho3 ?_, HH2.out.sorted hpe hpw, ?_, ?_⟩
      · rw [HB.out]; exact HBT.out.size
      · rw [hpe.length_eq]; omega
      · exact HBT.out.trans (bl_grown hbl hg3 (fun k e => by rw [← HB.out]; exact (hown.block k e).1))
end Go.Proofs.YtehmjffbfgnijabDoor.anyp
