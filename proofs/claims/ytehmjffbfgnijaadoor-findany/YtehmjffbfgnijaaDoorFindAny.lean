/- FindAny: where any of several patterns stand is the document's: for every input. -/
import Derived.Test.YtehmjffbfgnijaaDoorRows
import Derived.WalkKit
import Derived.ProofKit
import Derived.OpenShut
import Derived.SizedLaws
import Derived.Test.YtehmjffbfgnijaaDoorLaidDE
import Derived.Test.YtehmjffbfgnijaaDoorTie
import Derived.Test.YtehmjffbfgnijaaDoorCards
import Derived.SevenTiedAt
import Derived.Test.YtehmjffbfgnijaaDoorFh6
import Derived.Test.YtehmjffbfgnijaaDoorStg
import Derived.ShutString
import Derived.ChangeOld
import Derived.Below
namespace Go.Proofs.YtehmjffbfgnijaaDoor.findAny
open Go.ChangeShapes Go.WideShapes Go.ChangeAt Go.RowKit
open Go.ChangeMaps (open_string shut_string)
set_option linter.unusedVariables false

theorem own : ownKnob Tryd.prog.godebug = none := by kernel_rfl
theorem laidOut : laidOutB Tryd.prog = true := by kernel_rfl

/-- WHAT THE WALK IS TOLD OF A SLICE OF INTEGERS THAT CAME IN: it is nil; or it leads to a row of 'cap' cells, the numbers 'zs' (the first 'len' are its elements, the rest its spare room), each fitting its kind. -/
def IsRow (k : IntKind) (w : World) (a : Option Addr) (len cap : Nat) (zs : List Int) : Prop :=
  (a = none ∧ len = 0 ∧ cap = 0 ∧ zs = []) ∨
  ∃ x, a = some x ∧ len ≤ cap ∧ cap ≤ maxLen ∧ zs.length = cap ∧ (∀ i, i < zs.length → w.cell? (x.add i) = some (.int k (zs.getD i 0))) ∧ ∀ n ∈ zs, (Lit.int k n).wf = true

open mem rows fd find errs tree anyp
theorem laid_bl {w w' : World} (h : Laid w) (g : Bl w w') : Laid w' := by
  have hp := h.pos
  unfold Laid at h ⊢
  unfold World.cell? at h ⊢
  rw [Below.block g _ hp]
  exact h
set_option maxHeartbeats 4000000 in
set_option maxRecDepth 100000 in
theorem core (a0 : ByteArray) (q : Option Addr) (cp : Nat) (ps : List ByteArray) (w : World) (hg : Laid w) (hs0 : a0.size ≤ 200) (hs1 : ps.length ≤ 63) (hin : InT w q ps) (hp : ∀ k, k < ps.length → (ps.getD k .empty).size ≤ 30)
    (L : List (Int × Int)) (hL : L.length ≤ 20000) (e : Int) (ev : Value)
    (c1 : ∀ w', Bl w w' → Calls Tryd.prog 19 #[.string a0, .slice q ps.length cp] w' fun x w'' => ∃ v, x = .returned (.tuple #[v, .int .i64 e]) ∧ OwnS w'' w'.heap.size v L ∧ Bl w' w'')
    (c2 : ∀ w', Bl w w' → Calls Tryd.prog 20 #[.string a0, .slice q ps.length cp] w' fun x w'' => ∃ v, x = .returned (.tuple #[v, ev]) ∧ OwnS w'' w'.heap.size v L ∧ Bl w' w'')
    (b1 : ∀ w, Laid w → Calls Tryd.prog 11 #[ev, .int .i64 e] w fun x w' => x = .returned (.bool true) ∧ Bl w w') :
    Calls Tryd.prog 5 #[.string a0, .slice q ps.length cp] w fun e w' => e = .returned (.bool true) ∧ Below w.heap.size w w' := by
  obtain ⟨K, hKe⟩ : ∃ K, K = ps.length := ⟨_, rfl⟩
  have HIN : Hid (InT w q ps) := hin
  have HS : Hid (∀ k, k < ps.length → (ps.getD k .empty).size ≤ 30) := hp
  have HK : Hid (K = ps.length) := hKe
  rw [← hKe] at hs1 c1 c2 ⊢
  have HG : Hid (Laid w) := hg
  clear hin hp hKe hg
  have hz0 : ¬ (200 : Int) < (a0.size : Int) := by omega
  have hz1 : ¬ (63 : Int) < (K : Int) := by omega
  go_enter Tryd.func5, Tryd.ntmps5
  go_wp2
  go_loop [5] (fun iv => ∃ k : Nat, k ≤ K ∧ iv = .int .i64 (k : Int)) (fun iv => K - (intOf iv).toNat)
  case atStart => exact ⟨0, Nat.zero_le _, rfl⟩
  case round =>
    obtain ⟨k, hk, rfl⟩ := hrel
    by_cases hlt : k < K
    · have hlz : (k : Int) < (K : Int) := by omega
      have hkK : k < ps.length := by rw [← HK.out]; exact hlt
      obtain ⟨x, rfl, hcx⟩ := HIN.out.at k hkK
      have h0 := HS.out k hkK
      generalize ps.getD k .empty = pk at hcx h0
      have hz : ¬ (30 : Int) < (pk.size : Int) := by omega
      go_wp2
      go_round
      case rel => exact ⟨k + 1, by omega, by go_num⟩
      case measure => simp [intOf]; omega
    · have hnl : ¬ ((k : Int) < (K : Int)) := by omega
      go_wp2_with (fail)
      refine (c1 _ (Bl.refl _)).mono ?_
      rintro x v1 ⟨av, rfl, ha1, g1⟩
      clear c1
      go_wp2_with (fail)
      refine (c2 _ g1).mono ?_
      rintro x v2 ⟨bv, rfl, hb2, g2⟩
      clear c2
      go_wp2_with (fail)
      refine (b1 _ (laid_bl HG.out (g1.trans g2))).mono ?_
      rintro x v3 ⟨rfl, g3⟩
      clear b1
      have G3 : Bl w v3 := (g1.trans g2).trans g3
      have ha3 := (ha1.step g2).step g3
      have hb3 := hb2.step g3
      clear ha1 hb2 g1 g2 g3
      obtain ⟨n, hn⟩ : ∃ n, n = L.length := ⟨_, rfl⟩
      have hla : ∃ p c, av = .slice p n c ∧ ∀ j, j < n → ∃ g, p = some ⟨g, 0, none⟩ ∧ v3.cell? ⟨g, 2 * j, none⟩ = some (.int .i64 (L.getD j (0, 0)).1) ∧ v3.cell? ⟨g, 2 * j + 1, none⟩ = some (.int .i64 (L.getD j (0, 0)).2) := by
        rcases ha3.shape with ⟨rfl, rfl⟩ | ⟨g, c, rfl, _, _, _, _, h⟩
        · exact ⟨none, 0, by rw [hn]; rfl, fun j hj => by rw [hn] at hj; exact absurd hj (Nat.not_lt_zero _)⟩
        · exact ⟨_, c, by rw [hn], fun j hj => ⟨g, rfl, h j (by omega)⟩⟩
      have hlb : ∃ p c, bv = .slice p n c ∧ ∀ j, j < n → ∃ g, p = some ⟨g, 0, none⟩ ∧ v3.cell? ⟨g, 2 * j, none⟩ = some (.int .i64 (L.getD j (0, 0)).1) ∧ v3.cell? ⟨g, 2 * j + 1, none⟩ = some (.int .i64 (L.getD j (0, 0)).2) := by
        rcases hb3.shape with ⟨rfl, rfl⟩ | ⟨g, c, rfl, _, _, _, _, h⟩
        · exact ⟨none, 0, by rw [hn]; rfl, fun j hj => by rw [hn] at hj; exact absurd hj (Nat.not_lt_zero _)⟩
        · exact ⟨_, c, by rw [hn], fun j hj => ⟨g, rfl, h j (by omega)⟩⟩
      obtain ⟨pa, ca, rfl, hca⟩ := hla
      obtain ⟨pb, cb, rfl, hcb⟩ := hlb
      have HCA : Hid _ := hca
      have HCB : Hid _ := hcb
      have hn2 : n ≤ 20000 := by omega
      clear hca hcb ha3 hb3 hn hL
      go_wp2_with (fail)
      go_loopw [10] (fun i wr => ∃ k : Nat, k ≤ n ∧ i = .int .i64 (k : Int) ∧ Bl v3 wr) (fun i _ => n - (intOf i).toNat)
      case atStart => exact ⟨0, Nat.zero_le _, rfl, Bl.refl _⟩
      case round =>
        obtain ⟨j, hj, rfl, hbl⟩ := hrel
        by_cases hjn : j < n
        · have hlz : (j : Int) < (n : Int) := by omega
          obtain ⟨ga, rfl, x1, x2⟩ := HCA.out j hjn
          obtain ⟨gb, rfl, y1, y2⟩ := HCB.out j hjn
          rw [Nat.mul_comm] at x1 x2 y1 y2
          have x1' := at_bl hbl x1
          have x2' := at_bl hbl x2
          have y1' := at_bl hbl y1
          have y2' := at_bl hbl y2
          clear x1 x2 y1 y2
          generalize (L.getD j (0, 0)).1 = X1 at *
          generalize (L.getD j (0, 0)).2 = X2 at *
          go_wp2
          go_region
          go_wp2
          go_roundw
          case rel => exact ⟨j + 1, by omega, by go_num, hbl.drew⟩
          case measure => simp [intOf]; omega
        · have hnl2 : ¬ ((j : Int) < (n : Int)) := by omega
          go_wp2
          go_ret
          exact ⟨rfl, G3.trans hbl⟩
theorem long (a0 : ByteArray) (q : Option Addr) (cp : Nat) (ps : List ByteArray) (w : World) (hs0 : a0.size ≤ 200) (hs1 : ps.length ≤ 63) (hin : InT w q ps) (hp : ¬ ∀ k, k < ps.length → (ps.getD k .empty).size ≤ 30) :
    Calls Tryd.prog 5 #[.string a0, .slice q ps.length cp] w fun e w' => e = .returned (.bool true) ∧ Below w.heap.size w w' := by
  obtain ⟨K, hKe⟩ : ∃ K, K = ps.length := ⟨_, rfl⟩
  have HIN : Hid (InT w q ps) := hin
  have HNO : Hid (¬ ∀ k, k < ps.length → (ps.getD k .empty).size ≤ 30) := hp
  have HK : Hid (K = ps.length) := hKe
  rw [← hKe] at hs1 ⊢
  clear hin hp hKe
  have hz0 : ¬ (200 : Int) < (a0.size : Int) := by omega
  have hz1 : ¬ (63 : Int) < (K : Int) := by omega
  go_enter Tryd.func5, Tryd.ntmps5
  go_wp2
  go_loop [5] (fun iv => ∃ k : Nat, k ≤ K ∧ iv = .int .i64 (k : Int) ∧ Hid (∀ j, j < k → (ps.getD j .empty).size ≤ 30)) (fun iv => K - (intOf iv).toNat)
  case atStart => exact ⟨0, Nat.zero_le _, rfl, fun j hj => absurd hj (Nat.not_lt_zero _)⟩
  case round =>
    obtain ⟨k, hk, rfl, HQ⟩ := hrel
    have hlt : k < K := by
      rcases Nat.lt_or_ge k K with h | h
      · exact h
      · exact absurd (fun j hj => HQ.out j (by rw [← HK.out] at hj; omega)) HNO.out
    have hlz : (k : Int) < (K : Int) := by omega
    have hkK : k < ps.length := by rw [← HK.out]; exact hlt
    obtain ⟨x, rfl, hcx⟩ := HIN.out.at k hkK
    by_cases h0 : (ps.getD k .empty).size ≤ 30
    · have HQ2 : Hid (∀ j, j < k + 1 → (ps.getD j .empty).size ≤ 30) := fun j hj => by
        rcases Nat.lt_or_ge j k with h | h
        · exact HQ.out j h
        · obtain rfl : j = k := by omega
          exact h0
      clear HQ
      generalize ps.getD k .empty = pk at hcx h0
      have hz : ¬ (30 : Int) < (pk.size : Int) := by omega
      go_wp2
      go_round
      case rel => exact ⟨k + 1, by omega, by go_num, HQ2⟩
      case measure => simp [intOf]; omega
    · clear HQ
      generalize ps.getD k .empty = pk at hcx h0
      have hz : (30 : Int) < (pk.size : Int) := by omega
      go_wp2
      go_ret
      exact ⟨rfl, Below.refl _ _⟩
theorem walk (a0 : ByteArray) (a1 : Option Addr) (len1 cap1 : Nat) (z1 : List ByteArray) (w : World) (w0 : a0.size ≤ maxLen) (w1 : tree.IsStr w a1 len1 cap1 z1) (hg : errs.Laid w ∧ low.Tab w) :
    Calls Tryd.prog 5 #[.string a0, .slice a1 len1 cap1] w fun e w' => e = .returned (.bool true) ∧ Below w.heap.size w w' := by
  obtain ⟨hl, hin, _⟩ := w1
  subst hl
  clear w0
  obtain ⟨hgl, hgt⟩ := hg
  by_cases hs0 : a0.size ≤ 200
  · by_cases hs1 : z1.length ≤ 63
    · by_cases hp : ∀ k, k < z1.length → (z1.getD k .empty).size ≤ 30
      · by_cases h60 : z1.length ≤ 60
        · by_cases he : HasEmpty z1
          · exact core a0 a1 cap1 z1 w hgl hs0 hs1 hin hp [] (by decide) 1 (.iface 23 (.int .i64 1))
              (fun w' hb => (refAny_empty a0 a1 cap1 z1 w' (hin.step hb) h60 he).mono (by rintro x w'' ⟨rfl, rfl⟩; exact ⟨_, rfl, OwnS.nil _ _, Bl.refl _⟩))
              (fun w' hb => (Any_empty a0 a1 cap1 z1 w' (hin.step hb) h60 he).mono (by rintro x w'' ⟨rfl, rfl⟩; exact ⟨_, rfl, OwnS.nil _ _, Bl.refl _⟩))
              (fun w h => (bare_errno 1 1 w h).mono (by rintro x w' ⟨rfl, g⟩; exact ⟨rfl, g.bl⟩))
          · have hpp : ∀ k, k < z1.length → 0 < (z1.getD k .empty).size ∧ (z1.getD k .empty).size ≤ 30 := fun k hk => ⟨Nat.pos_of_ne_zero fun h => he ⟨k, hk, h⟩, hp k hk⟩
            obtain ⟨L, hL⟩ := anyp.any_is a0 z1 (fun k hk => (hpp k hk).1) h60
            exact core a0 a1 cap1 z1 w hgl hs0 hs1 hin hp L (by have := hL.2; omega) 0 .nilIface
              (fun w' hb => (refAny_at a0 a1 cap1 z1 w' (hin.step hb) h60 hpp (by omega)).mono (by rintro x w'' ⟨v, L', rfl, h1, h2, _, h3⟩; exact ⟨v, rfl, by rw [hL.1.same h2]; exact h1, h3⟩))
              (fun w' hb => (Any_at a0 a1 cap1 z1 w' (hin.step hb) h60 hpp (by omega) (anyp.tab_bl hgt hb)).mono (by rintro x w'' ⟨v, L', rfl, h1, h2, _, h3⟩; exact ⟨v, rfl, by rw [hL.1.same h2]; exact h1, h3⟩))
              (fun w h => (bare_nil 0 w).mono (by rintro x w' ⟨rfl, rfl⟩; exact ⟨rfl, Bl.refl _⟩))
        · exact core a0 a1 cap1 z1 w hgl hs0 hs1 hin hp [] (by decide) 1 (.iface 23 (.int .i64 1))
            (fun w' hb => (refAny_many a0 a1 cap1 z1.length w' (by omega) (by omega)).mono (by rintro x w'' ⟨rfl, rfl⟩; exact ⟨_, rfl, OwnS.nil _ _, Bl.refl _⟩))
            (fun w' hb => (Any_many a0 a1 cap1 z1.length w' (by omega) (by omega)).mono (by rintro x w'' ⟨rfl, rfl⟩; exact ⟨_, rfl, OwnS.nil _ _, Bl.refl _⟩))
            (fun w h => (bare_errno 1 1 w h).mono (by rintro x w' ⟨rfl, g⟩; exact ⟨rfl, g.bl⟩))
      · exact long a0 a1 cap1 z1 w hs0 hs1 hin hp
    · have hz0 : ¬ (200 : Int) < (a0.size : Int) := by omega
      have hz1 : (63 : Int) < (z1.length : Int) := by omega
      go_enter Tryd.func5, Tryd.ntmps5
      go_wp2
      go_ret
      exact ⟨rfl, Below.refl _ _⟩
  · have hz0 : (200 : Int) < (a0.size : Int) := by omega
    go_enter Tryd.func5, Tryd.ntmps5
    go_wp2
    go_ret
    exact ⟨rfl, Below.refl _ _⟩

set_option maxRecDepth 100000 in
theorem lifted (os : Os) (started : os.Started) (H : Type) (enc : TypeId × Value → H) :
    ReturnsInHanded {} Tryd.checked os 5 .any (fun w args => (Rows.findAnySpec.pre enc Tryd.prog Tryd.f5 [] false w args ∧ laidMetH Tryd.prog laidde.list w) ∧ sizedMet enc Tryd.prog Tryd.f5 (OpenSpec.ofChange Rows.findAnySpec) false w args) (Rows.findAnySpec.post enc Tryd.prog Tryd.f5 false true false false) := by
  refine returnsInHanded_of_change_and (C := Tryd.checked) (X := fun w _ => laidMetH Tryd.prog laidde.list w) (fun _ _ _ hh h => h.of_heap hh) own started (by kernel_rfl) Tryd.func5
    (ChangeSpec.witness_shaped (enc := enc) (C := Tryd.checked) (os := os) (X := fun w _ => laidMetH Tryd.prog laidde.list w) false (World.layVars Tryd.prog (laying.layCell (World.holding Tryd.prog os ⟨#[], #[], []⟩)) laidd.plain) #[.string ByteArray.empty, .slice none 0 0] 8 (World.layVars_os _ _ _) (World.shaped_of_ZipB (by kernel_rfl) (by kernel_rfl)) (by kernel_rfl) (by kernel_rfl) (by kernel_rfl) (laidde.world_met os _)) ?_
  intro W base args ds gs before hval0 hW hcnd hsz0 hL _
  have hval : ∀ (j : Nat) t v, Tryd.f5.params[j]? = some t → args[j]? = some v → Value.okWide Tryd.prog W .any base t v := hval0
  have hW' := hW
  obtain ⟨p, q, hA0, hV, rfl, hfz, hnd⟩ := hW
  have hA : DataW.TrodAll enc Tryd.prog W 0 (fun _ => true) true Tryd.f5.params.toList args.toList ds p := hA0
  have hsz : (DataW.weightsEach Tryd.prog (Tryd.f5.params.toList ++ Rows.findAnySpec.plain.varTypes Tryd.prog) (ds ++ gs)).all (· ≤ reachBytes) = true := hsz0
  rw [Tryd.params5] at hA hval hsz
  obtain ⟨v0, vs0, d0, ds0, p0, q0, hargs, rfl, rfl, h0, r0⟩ := trodAll_cons hA
  obtain ⟨v1, vs1, d1, ds1, p1, q1, rfl, rfl, rfl, h1, r1⟩ := trodAll_cons r0
  obtain ⟨rfl, rfl, rfl⟩ := trodAll_nil r1
  obtain rfl : args = #[v0, v1] := by cases args; simp_all
  obtain ⟨rfl, rfl⟩ := trodVars_none hV
  obtain ⟨a0, rfl, rfl, rfl, w0⟩ := open_string Tryd.underlying9 (hval 0 9 v0 rfl rfl) h0
  obtain ⟨a1, len1, cap1, rfl⟩ := okWide_slice Tryd.underlying46 (hval 1 46 v1 rfl rfl)
  have k1 := h1
  have lt1 : ∀ x ∈ p1, x.block < W.heap.size := by obtain ⟨m, hm⟩ := k1; exact DataW.trod_lt m _ _ _ hm
  obtain ⟨z1, w1⟩ : ∃ zs, tree.IsStr W a1 len1 cap1 zs := tree.str_open h1
  clear hA0 hval0 hsz0 hsz
  refine (walk a0 a1 len1 cap1 z1 W w0 w1 ⟨laidde.handle_of_laid hL, laidde.tab_of_laid hL⟩).mono fun e W' ⟨he, bel⟩ => ?_
  subst he
  exact ⟨_, rfl, _, _, _, [], _, [], hW', trodAll_mk1 (shut_bool Tryd.underlying4 _), (trodAll_cons_mk (shut_string Tryd.underlying9 w0) (trodAll_cons_mk (Below.trod laidOut (by kernel_rfl) (of_decide_eq_true (by kernel_rfl)) k1 bel lt1) trodAll_mk0)), rfl, bel.frame _, fun h => by cases h⟩

theorem over : Rows.findAnyRow.holds Tryd.pinned (OpenSpec.ofChange Rows.findAnySpec) :=
  OpenClaim.holds_of_wide 5 Tryd.f5 rfl rfl rfl rfl rfl rfl rfl ⟨rfl, rfl, rfl, rfl, rfl⟩ rfl rfl rfl rfl rfl (by kernel_rfl) Tryd.func5 (by kernel_rfl)
    (of_decide_eq_true (by kernel_rfl)) (by unfold Func.isWrapper; first | (rw [if_pos (by decide +kernel)]; kernel_rfl) | (rw [if_neg (by decide +kernel)]; exact ⟨rfl, rfl⟩))
    (fun os started H enc _ => lifted os started H enc)

theorem tied : Rows.FindAnyCardSaid :=
  Claim7.holds_tied_plain_at .later [] [.data, .handle] true (true, "b9520a0ef563c468aaf1ac1254ba868965ec57cea3631c2caacab1fbc9d21a87") true
    over (fun _ h => by cases h) (by kernel_rfl) (fun _ h => by cases h) findAny_row_tie rfl ⟨rfl, rfl⟩ (by kernel_rfl) rfl
    (fun f fn hf hfn => by
      obtain rfl : f = 5 := Option.some.inj ((show Tryd.prog.funcNamed "escritoire/escritoirelaw.FindAny" = some 5 by kernel_rfl).symm.trans hf) |>.symm
      obtain rfl : fn = Tryd.f5 := (Option.some.inj (Tryd.func5.symm.trans hfn)).symm
      exact ⟨by kernel_rfl, fun j t ht => by
        rw [Tryd.params5] at ht
        rcases j with _ | j
        · obtain rfl : t = 9 := by simpa using ht.symm
          exact (show Tryd.prog.wantsStandIn 9 = false by kernel_rfl)
        · rcases j with _ | j
          · obtain rfl : t = 46 := by simpa using ht.symm
            exact (show Tryd.prog.wantsStandIn 46 = false by kernel_rfl)
          · simp at ht⟩)
    (by kernel_rfl)
end Go.Proofs.YtehmjffbfgnijaaDoor.findAny
namespace Go.Proofs.YtehmjffbfgnijaaDoor
/-- The given statement. -/
theorem findAny_holds : Rows.FindAnyCardSaid := findAny.tied
#print axioms findAny_holds
end Go.Proofs.YtehmjffbfgnijaaDoor
