/- DigitsPairs: the digits of two texts together are those of both, and are read as the texts, with blanks between bytes too; at all texts. -/
import Derived.Test.YtncmpjdapngmpaaDoorRows
import Derived.WalkKit
import Derived.ProofKit
import Derived.OpenShut
import Derived.SizedLaws
import Derived.Test.YtncmpjdapngmpaaDoorLaid
import Derived.Test.YtncmpjdapngmpaaDoorTie
import Derived.Test.YtncmpjdapngmpaaDoorCards
import Derived.SevenTiedAt
import Derived.Test.YtncmpjdapngmpaaDoorFigured
import Derived.Test.YtncmpjdapngmpaaDoorTellAt
import Derived.ShutString
namespace Go.Proofs.YtncmpjdapngmpaaDoor.digitsPairs
open Go.ChangeShapes Go.WideShapes Go.ChangeAt Go.RowKit
open Go.ChangeMaps (open_string shut_string)
set_option linter.unusedVariables false      -- a walk need not use every 'w<i>' (that an integer argument fits its kind)

theorem own : ownKnob Tryd.prog.godebug = none := by kernel_rfl

open digs dig mem errs
/-- A text's bytes, as numbers. -/
def nbs (s : ByteArray) : List Nat := s.data.toList.map fun b => b.toNat
def hexN (l : List Nat) : List Int := l.flatMap fun b => [ch (b / 16), ch (b % 16)]
theorem nbs_len (s : ByteArray) : (nbs s).length = s.size := by unfold nbs; rw [List.length_map]; rfl
theorem nbs_lt (s : ByteArray) : ∀ b ∈ nbs s, b < 256 := by
  intro b hb
  obtain ⟨x, _, rfl⟩ := List.mem_map.1 hb
  exact x.toNat_lt
theorem nb_nbs (s : ByteArray) (k : Nat) (hk : k < s.size) : nb s k = (nbs s)[k]'(by rw [nbs_len]; exact hk) := by
  have hk' : k < s.data.toList.length := hk
  unfold nb sb nbs
  rw [List.getD_eq_getElem?_getD, List.getElem?_eq_getElem hk']
  simp
theorem hexL_hexN (s : ByteArray) (k : Nat) (hk : k ≤ s.size) : hexL s k = hexN ((nbs s).take k) := by
  induction k with
  | zero => simp [hexL, hexN]
  | succ k ih =>
    rw [hexL, ih (by omega), List.take_succ_eq_append_getElem (by rw [nbs_len]; omega), nb_nbs s k (by omega)]
    unfold hexN
    rw [List.flatMap_append]
    rfl
theorem hexL_all (s : ByteArray) : hexL s s.size = hexN (nbs s) := by
  rw [hexL_hexN s s.size (Nat.le_refl _), List.take_of_length_le (by rw [nbs_len]; exact Nat.le_refl _)]
theorem hexN_bd (l : List Nat) (h : ∀ b ∈ l, b < 256) : ∀ z ∈ hexN l, 0 ≤ z ∧ z < 256 := by
  intro z hz
  obtain ⟨b, hb, hz⟩ := List.mem_flatMap.1 hz
  have h1 := h b hb
  have h2 := ch_bd (b / 16) (by omega)
  have h3 := ch_bd (b % 16) (by omega)
  simp at hz
  rcases hz with rfl | rfl <;> omega
theorem nbs_append (s t : ByteArray) : nbs (s ++ t) = nbs s ++ nbs t := by simp [nbs]
theorem nums_nbs (s : ByteArray) : strOfNums ((nbs s).map fun b : Nat => (b : Int)) = s := by
  apply ByteArray.ext
  apply Array.ext'
  simp only [strOfNums, nbs, List.map_map]
  rw [show ((fun n : Int => UInt8.ofNat n.toNat) ∘ (fun b : Nat => (b : Int)) ∘ fun b : UInt8 => b.toNat) = id from funext fun b => by simp]
  simp
/-- Bytes that are read as digits, one behind the other. -/
def unF (zs : List Int) (st : Option (List Int × Int)) : Option (List Int × Int) := zs.foldl (fun st c => unStep c st) st
theorem un_unF (zs : List Int) (h : ∀ z ∈ zs, 0 ≤ z ∧ z < 256) (k : Nat) (hk : k ≤ zs.length) : un (strOfNums zs) k = unF (zs.take k) (some ([], -1)) := by
  induction k with
  | zero => rfl
  | succ k ih =>
    have hk' : k < zs.length := by omega
    rw [un, ih (by omega), List.take_succ_eq_append_getElem hk', sb_nums zs h k, List.getD_eq_getElem?_getD, List.getElem?_eq_getElem hk']
    unfold unF
    rw [List.foldl_append]
    rfl
theorem un_whole (zs : List Int) (h : ∀ z ∈ zs, 0 ≤ z ∧ z < 256) : un (strOfNums zs) (strOfNums zs).size = unF zs (some ([], -1)) := by
  rw [strOfNums_size, un_unF zs h _ (Nat.le_refl _), List.take_length]
theorem unF_hex (l : List Nat) (h : ∀ b ∈ l, b < 256) (o : List Int) : unF (hexN l) (some (o, -1)) = some (o ++ l.map (fun b : Nat => (b : Int)), -1) := by
  induction l generalizing o with
  | nil => simp [hexN, unF]
  | cons b l ih =>
    have hb := h b (List.mem_cons_self ..)
    have h1 := ch_bd (b / 16) (by omega)
    have e1 : unStep (ch (b / 16)) (some (o, -1)) = some (o, ((b / 16 : Nat) : Int)) := by
      rw [unStep, dv_ch _ (by omega), if_neg (by omega), if_neg (by omega), if_pos (by omega)]
    have e2 : unStep (ch (b % 16)) (some (o, ((b / 16 : Nat) : Int))) = some (o ++ [(b : Int)], -1) := by
      rw [unStep, dv_ch _ (by omega), if_neg (by omega), if_neg (by omega), if_neg (by omega)]
      have : ((b / 16 : Nat) : Int) * 16 + ((b % 16 : Nat) : Int) = (b : Int) := by omega
      rw [this]
    have e3 : unF (hexN (b :: l)) (some (o, -1)) = unF (hexN l) (unStep (ch (b % 16)) (unStep (ch (b / 16)) (some (o, -1)))) := rfl
    rw [e3, e1, e2, ih (fun x hx => h x (List.mem_cons_of_mem _ hx))]
    simp
theorem unF_append (a b : List Int) (st : Option (List Int × Int)) : unF (a ++ b) st = unF b (unF a st) := by unfold unF; rw [List.foldl_append]
theorem unF_one (c : Int) (st : Option (List Int × Int)) : unF [c] st = unStep c st := rfl
theorem pairs_ok (s t : ByteArray) : ∃ o, un (strOfNums (hexN (nbs s)) ++ ⟨#[32]⟩ ++ strOfNums (hexN (nbs t))) (strOfNums (hexN (nbs s)) ++ ⟨#[32]⟩ ++ strOfNums (hexN (nbs t))).size = some (o, -1) ∧ strOfNums o = s ++ t := by
  have e : strOfNums (hexN (nbs s)) ++ ⟨#[32]⟩ ++ strOfNums (hexN (nbs t)) = strOfNums (hexN (nbs s) ++ [32] ++ hexN (nbs t)) := by
    rw [← nums_append, ← nums_append]; rfl
  have hz : ∀ z ∈ hexN (nbs s) ++ [32] ++ hexN (nbs t), 0 ≤ z ∧ z < 256 := by
    intro z hz
    rcases List.mem_append.1 hz with hz | hz
    · rcases List.mem_append.1 hz with hz | hz
      · exact hexN_bd _ (nbs_lt s) z hz
      · obtain rfl := List.mem_singleton.1 hz
        omega
    · exact hexN_bd _ (nbs_lt t) z hz
  rw [e, un_whole _ hz, unF_append, unF_append, unF_hex _ (nbs_lt s)]
  have e2 : unF [32] (some ([] ++ (nbs s).map (fun b : Nat => (b : Int)), -1)) = some ((nbs s).map (fun b : Nat => (b : Int)), -1) := by
    rw [unF_one, unStep, if_pos ⟨rfl, by omega⟩]; rfl
  rw [e2, unF_hex _ (nbs_lt t)]
  refine ⟨_, rfl, ?_⟩
  rw [← List.map_append, ← nbs_append]
  exact nums_nbs _
theorem pairs_bad (s : ByteArray) : BadAt (strOfNums (hexN (nbs s)) ++ ⟨#[102]⟩) (strOfNums (hexN (nbs s)) ++ ⟨#[102]⟩).size := by
  have e : strOfNums (hexN (nbs s)) ++ ⟨#[102]⟩ = strOfNums (hexN (nbs s) ++ [102]) := by
    rw [← nums_append]; rfl
  have hz : ∀ z ∈ hexN (nbs s) ++ [102], 0 ≤ z ∧ z < 256 := by
    intro z hz
    rcases List.mem_append.1 hz with hz | hz
    · exact hexN_bd _ (nbs_lt s) z hz
    · obtain rfl := List.mem_singleton.1 hz
      omega
  refine ⟨(nbs s).map (fun b : Nat => (b : Int)), 15, ?_, Or.inr ⟨rfl, by omega⟩⟩
  rw [e, un_whole _ hz, unF_append, unF_hex _ (nbs_lt s)]
  rw [unF_one, unStep, if_neg (by omega), if_neg (by decide), if_pos (by omega)]; rfl
theorem hexN_size (s : ByteArray) : (strOfNums (hexN (nbs s))).size = 2 * s.size := by rw [← hexL_all, strOfNums_size, hexL_len]
theorem walk (a0 : ByteArray) (a1 : ByteArray) (w0 : a0.size ≤ 140737488351232) (w1 : a1.size ≤ 140737488351232) (w : World) (hg : errs.Laid w) :
    Calls Tryd.prog 8 #[.string a0, .string a1] w fun e w' => e = .returned (.bool true) ∧ Grown w w' := by
  have HG : Hid (Laid w) := hg
  clear hg
  by_cases hlen : a0.size + a1.size ≤ 400
  · have z0 := hexN_size a0
    have z1 := hexN_size a1
    have cS : ∀ w, Calls Tryd.prog 21 #[.string a0] w fun e w' => e = .returned (.string (strOfNums (hexN (nbs a0)))) ∧ Gb w w' := fun w => by rw [← hexL_all]; exact hex_at a0 w (by omega)
    have cT : ∀ w, Calls Tryd.prog 21 #[.string a1] w fun e w' => e = .returned (.string (strOfNums (hexN (nbs a1)))) ∧ Gb w w' := fun w => by rw [← hexL_all]; exact hex_at a1 w (by omega)
    have cST : ∀ w, Calls Tryd.prog 21 #[.string (a0 ++ a1)] w fun e w' => e = .returned (.string (strOfNums (hexN (nbs a0)) ++ strOfNums (hexN (nbs a1)))) ∧ Gb w w' := fun w => by
      have h := hex_at (a0 ++ a1) w (by rw [ByteArray.size_append]; omega)
      rw [hexL_all, nbs_append, show hexN (nbs a0 ++ nbs a1) = hexN (nbs a0) ++ hexN (nbs a1) from by simp [hexN], ← nums_append] at h
      exact h
    obtain ⟨o, ho, hoe⟩ := pairs_ok a0 a1
    have hb := pairs_bad a0
    have q1 : (strOfNums (hexN (nbs a0)) ++ ⟨#[32]⟩ ++ strOfNums (hexN (nbs a1))).size = 2 * a0.size + 1 + 2 * a1.size := by rw [ByteArray.size_append, ByteArray.size_append, z0, z1]; rfl
    have q2 : (strOfNums (hexN (nbs a0)) ++ ⟨#[102]⟩).size = 2 * a0.size + 1 := by rw [ByteArray.size_append, z0]; rfl
    have cU := fun w => unhex_ok _ o w (by rw [q1]; omega) ho
    have cV := fun w => unhex_bad _ _ w (by rw [q2]; omega) (Nat.le_refl _) hb
    rw [hoe] at cU
    clear ho hoe hb q1 q2
    generalize strOfNums (hexN (nbs a0)) = HS at *
    generalize strOfNums (hexN (nbs a1)) = HT at *
    obtain ⟨A, hA⟩ : ∃ A, a0 ++ a1 = A := ⟨_, rfl⟩
    obtain ⟨P, hP⟩ : ∃ P, HS ++ ⟨#[32]⟩ = P := ⟨_, rfl⟩
    obtain ⟨U, hU⟩ : ∃ U, P ++ HT = U := ⟨_, rfl⟩
    obtain ⟨V, hV⟩ : ∃ V, HS ++ ⟨#[102]⟩ = V := ⟨_, rfl⟩
    obtain ⟨X, hX⟩ : ∃ X, HS ++ HT = X := ⟨_, rfl⟩
    have zP : P.size = 2 * a0.size + 1 := by rw [← hP, ByteArray.size_append, z0]; rfl
    rw [hA] at cST cU
    rw [hX] at cST
    rw [hP, hU] at cU
    rw [hV] at cV
    generalize V.size = n at cV
    have kk : Gb w w := Gb.refl w
    go_enter Tryd.func8, Tryd.ntmps8
    go_wp2_with (first | (go_at_call 23; refine (figured_at _ HG.out).mono ?_; rintro x v1 ⟨rfl, g1⟩; replace kk := kk.trans g1) | (go_at_call_of 21 (Value.string A); refine (cST _).mono ?_; rintro x v6 ⟨rfl, g6⟩; replace kk := kk.trans g6; try replace d0 := errs.cell_gb g6 d0) | (go_at_call_of 21 (Value.string a1); refine (cT _).mono ?_; rintro x v3 ⟨rfl, g3⟩; replace kk := kk.trans g3; try replace d0 := errs.cell_gb g3 d0) | (go_at_call_of 21 (Value.string a0); refine (cS _).mono ?_; rintro x v2 ⟨rfl, g2⟩; replace kk := kk.trans g2; try replace d0 := errs.cell_gb g2 d0) | (go_at_call_of 19 (Value.string V); refine (cV _).mono ?_; rintro x v5 ⟨⟨b, rfl, d0, d1⟩, g5⟩; replace kk := kk.trans g5) | (go_at_call_of 19 (Value.string U); refine (cU _).mono ?_; rintro x v4 ⟨rfl, g4⟩; replace kk := kk.trans g4) | (go_at_call 26; refine (tell_at 3 b _ (HG.out.gb kk) d0).mono ?_; rintro x v7 ⟨rfl, g7⟩; replace kk := kk.trans g7))
    go_ret
    exact ⟨by simp, kk.g⟩
  · have h1 : decide ((400 : Int) < (a0.size : Int) + (a1.size : Int)) = true := decide_eq_true (by omega)
    go_enter Tryd.func8, Tryd.ntmps8
    go_wp2_with (go_at_call 23; refine (figured_at _ HG.out).mono ?_; rintro x v1 ⟨rfl, g1⟩)
    go_ret
    exact ⟨rfl, g1.g⟩

set_option maxRecDepth 100000 in
theorem lifted (os : Os) (started : os.Started) (H : Type) (enc : TypeId × Value → H) :
    ReturnsInHanded {} Tryd.checked os 8 .any (fun w args => (Rows.digitsPairsSpec.pre enc Tryd.prog Tryd.f8 [] false w args ∧ laidMetH Tryd.prog laying.list w) ∧ sizedMet enc Tryd.prog Tryd.f8 (OpenSpec.ofChange Rows.digitsPairsSpec) false w args) (Rows.digitsPairsSpec.post enc Tryd.prog Tryd.f8 false true false false) := by
  refine returnsInHanded_of_change_and (C := Tryd.checked) (X := fun w _ => laidMetH Tryd.prog laying.list w) (fun _ _ _ hh h => h.of_heap hh) own started (by kernel_rfl) Tryd.func8
    (ChangeSpec.witness_at (enc := enc) (C := Tryd.checked) (os := os) (X := fun w _ => laidMetH Tryd.prog laying.list w) false (laying.layCell (World.holding Tryd.prog os ⟨#[], #[], []⟩)) #[.string ByteArray.empty, .string ByteArray.empty] 8 rfl (by kernel_rfl) (by kernel_rfl) (by kernel_rfl) (by kernel_rfl) (by kernel_rfl) (laying.laidWorld_met os _)) ?_
  intro W base args ds gs before hval0 hW hcnd hsz0 hL _
  have hval : ∀ (j : Nat) t v, Tryd.f8.params[j]? = some t → args[j]? = some v → Value.okWide Tryd.prog W .any base t v := hval0
  have hW' := hW
  obtain ⟨p, q, hA0, hV, rfl, hfz, hnd⟩ := hW
  have hA : DataW.TrodAll enc Tryd.prog W 0 (fun _ => true) true Tryd.f8.params.toList args.toList ds p := hA0
  have hsz : (DataW.weightsEach Tryd.prog (Tryd.f8.params.toList ++ Rows.digitsPairsSpec.plain.varTypes Tryd.prog) (ds ++ gs)).all (· ≤ reachBytes) = true := hsz0
  rw [Tryd.params8] at hA hval hsz
  obtain ⟨v0, vs0, d0, ds0, p0, q0, hargs, rfl, rfl, h0, r0⟩ := trodAll_cons hA
  obtain ⟨v1, vs1, d1, ds1, p1, q1, rfl, rfl, rfl, h1, r1⟩ := trodAll_cons r0
  obtain ⟨rfl, rfl, rfl⟩ := trodAll_nil r1
  obtain rfl : args = #[v0, v1] := by cases args; simp_all
  obtain ⟨rfl, rfl⟩ := trodVars_none hV
  obtain ⟨a0, rfl, rfl, rfl, w0⟩ := open_string Tryd.underlying9 (hval 0 9 v0 rfl rfl) h0
  have z0 : a0.size ≤ 140737488351232 := sized_string hsz (j := 0) (t := 9) rfl rfl
  obtain ⟨a1, rfl, rfl, rfl, w1⟩ := open_string Tryd.underlying9 (hval 1 9 v1 rfl rfl) h1
  have z1 : a1.size ≤ 140737488351232 := sized_string hsz (j := 1) (t := 9) rfl rfl
  clear hA0 hval0 hsz0 hsz
  simp only [List.append_nil] at hW'
  refine (walk a0 a1 z0 z1 W (laying.handle_of_laid hL)).mono fun e W' ⟨he, hg⟩ => ?_
  subst he
  exact ⟨_, rfl, post_of_same (pa := []) (pv := []) hW' (fun _ _ _ => (trodAll_cons_mk (shut_bool Tryd.underlying4 _) trodAll_mk0)) (fun sp _ => (trodAll_cons_mk (shut_string Tryd.underlying9 w0) (trodAll_cons_mk (shut_string Tryd.underlying9 w1) trodAll_mk0))) (fun _ _ => rfl) rfl
    (hg.frame _) hg.2.1 (ok_one (by kernel_rfl) rfl (okWide_bool_mk Tryd.underlying4 _))⟩

theorem over : Rows.digitsPairsRow.holds Tryd.pinned (OpenSpec.ofChange Rows.digitsPairsSpec) :=
  OpenClaim.holds_of_wide 8 Tryd.f8 rfl rfl rfl rfl rfl rfl rfl ⟨rfl, rfl, rfl, rfl, rfl⟩ rfl rfl rfl rfl rfl (by kernel_rfl) Tryd.func8 (by kernel_rfl)
    (of_decide_eq_true (by kernel_rfl)) (by unfold Func.isWrapper; first | (rw [if_pos (by decide +kernel)]; kernel_rfl) | (rw [if_neg (by decide +kernel)]; exact ⟨rfl, rfl⟩))
    (fun os started H enc _ => lifted os started H enc)

theorem tied : Rows.DigitsPairsCardSaid :=
  Claim7.holds_tied_plain_at .later [] [.handle] true (true, "b47a621a2adbcce19bb2b222f4054078daf8760fcc217c0053af485b12705170") true
    over (fun _ h => by cases h) (by kernel_rfl) (fun _ h => by cases h) digitsPairs_row_tie rfl ⟨rfl, rfl⟩ (by kernel_rfl) rfl
    (fun f fn hf hfn => by
      obtain rfl : f = 8 := Option.some.inj ((show Tryd.prog.funcNamed "escritoire/escritoirekeep.DigitsPairs" = some 8 by kernel_rfl).symm.trans hf) |>.symm
      obtain rfl : fn = Tryd.f8 := (Option.some.inj (Tryd.func8.symm.trans hfn)).symm
      exact ⟨by kernel_rfl, fun j t ht => by
        rw [Tryd.params8] at ht
        rcases j with _ | j
        · obtain rfl : t = 9 := by simpa using ht.symm
          exact (show Tryd.prog.wantsStandIn 9 = false by kernel_rfl)
        · rcases j with _ | j
          · obtain rfl : t = 9 := by simpa using ht.symm
            exact (show Tryd.prog.wantsStandIn 9 = false by kernel_rfl)
          · simp at ht⟩)
    (by kernel_rfl)
end Go.Proofs.YtncmpjdapngmpaaDoor.digitsPairs
namespace Go.Proofs.YtncmpjdapngmpaaDoor
/-- The given statement. -/
theorem digitsPairs_holds : Rows.DigitsPairsCardSaid := digitsPairs.tied
#print axioms digitsPairs_holds
end Go.Proofs.YtncmpjdapngmpaaDoor
