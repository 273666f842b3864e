/- The law on names that are numbers: the walk. -/
import Derived.Test.YtfngcphklfjhjaaDoorExN2
import Derived.Test.YtfngcphklfjhjaaDoorExW
namespace Go.Proofs.YtfngcphklfjhjaaDoor.ex
set_option linter.unusedVariables false
open Go.ChangeShapes Go.WideShapes Go.ChangeAt Go.RowKit
open mem lx

theorem tx_L (s : ByteArray) : tx (L s) = s := L_inj (by rw [L_tx])
set_option maxRecDepth 10000 in
set_option maxHeartbeats 4000000 in
theorem names_at (a0 a1 : ByteArray) (m : Option Nat) (env : List UInt8 → Option Int) (n : Nat) (w : World) (hg : Gd w) (hn : Nm w (.map m) env n) (ho : (m = none ∧ env = fun _ => none) ∨ ∃ b c, m = some b ∧ Om w b env c) :
    Calls Tryd.prog 6 #[.string a0, .string a1, .map m] w fun e w' => e = .returned (.bool true) ∧ Below w.heap.size w w' := by
  have cF := fixed_at w hg
  have cL := long_at a0
  have cN := Name_at a1
  have HG : Hid (Gd w) := hg
  have HN : Hid (Nm w (.map m) env n) := hn
  have HO : Hid _ := ho
  clear hg hn ho
  go_enter Tryd.func6, Tryd.ntmps6
  go_wp2_with fail
  refine cF.mono ?_
  rintro e w1 ⟨rfl, hb1⟩
  have cU := cutUp_at w1 (HG.out.step hb1).ms
  go_wp2_with fail
  refine cU.mono ?_
  rintro e w2 ⟨rfl, hb2⟩
  have HB2 : Hid (Bl w w2) := hb1.trans hb2
  have hln := HN.out.ln w2 HB2.out
  clear hb1 hb2 cF cU
  by_cases hs : 900 < a0.size
  · rw [decide_eq_true hs] at cL
    go_wp2_with fail
    refine (cL _).mono ?_
    rintro e w3 ⟨rfl, rfl⟩
    go_wp2
    go_ret
    exact ⟨rfl, HB2.out⟩
  rw [decide_eq_false hs] at cL
  by_cases h20 : 20 < n
  · have h20' : (20 : Int) < (n : Int) := by omega
    go_wp2_with fail
    refine (cL _).mono ?_
    rintro e w3 ⟨rfl, rfl⟩
    go_wp2
    go_ret
    exact ⟨rfl, HB2.out⟩
  have h20' : ¬ (20 : Int) < (n : Int) := by omega
  by_cases h12 : 12 < a1.size
  · have h12' : (12 : Int) < (a1.size : Int) := by omega
    go_wp2_with fail
    refine (cL _).mono ?_
    rintro e w3 ⟨rfl, rfl⟩
    go_wp2
    go_ret
    exact ⟨rfl, HB2.out⟩
  have h12' : ¬ (12 : Int) < (a1.size : Int) := by omega
  cases hnm : nmb (L a1) with
  | false =>
    rw [hnm] at cN
    go_wp2_with fail
    refine (cL _).mono ?_
    rintro e w3 ⟨rfl, rfl⟩
    go_wp2_with fail
    refine (cN _).mono ?_
    rintro e w3 ⟨rfl, rfl⟩
    go_wp2
    go_ret
    exact ⟨rfl, HB2.out⟩
  | true =>
    rw [hnm] at cN
    have hlk := HN.out.is.lk w2 HB2.out (L a1) (by rw [L_len]; omega)
    rw [tx_L] at hlk
    have cP := Parse_at a0 w2 (by omega) (HG.out.step HB2.out).ms (HG.out.step HB2.out).er
    cases hen : env (L a1) with
    | none =>
      rw [hen] at hlk
      dsimp only at hlk
      go_wp2_with fail
      refine (cL _).mono ?_
      rintro e w3 ⟨rfl, rfl⟩
      go_wp2_with fail
      refine (cN _).mono ?_
      rintro e w3 ⟨rfl, rfl⟩
      go_wp2_with fail
      refine cP.mono ?_
      rintro e w3 ⟨hb3, hans⟩
      cases hp : prs (L a0) with
      | error cp =>
        obtain ⟨c, p⟩ := cp
        rw [hp] at hans
        obtain ⟨B, rfl, _, _⟩ := hans
        go_wp2
        go_ret
        exact ⟨rfl, HB2.out.trans hb3⟩
      | ok x =>
        rw [hp] at hans
        obtain ⟨v, rfl, hv⟩ := hans
        obtain ⟨vb, rfl, _⟩ := hv.ptr
        go_wp2
        go_ret
        exact ⟨rfl, HB2.out.trans hb3⟩
    | some k =>
      rw [hen] at hlk
      dsimp only at hlk
      have hk64 := HN.out.rg _ _ hen
      go_wp2_with fail
      refine (cL _).mono ?_
      rintro e w3 ⟨rfl, rfl⟩
      go_wp2_with fail
      refine (cN _).mono ?_
      rintro e w3 ⟨rfl, rfl⟩
      go_wp2_with fail
      refine cP.mono ?_
      rintro e w3 ⟨hb3, hans⟩
      cases hp : prs (L a0) with
      | error cp =>
        obtain ⟨c, p⟩ := cp
        rw [hp] at hans
        obtain ⟨B, rfl, _, _⟩ := hans
        go_wp2
        go_ret
        exact ⟨rfl, HB2.out.trans hb3⟩
      | ok x =>
        rw [hp] at hans
        obtain ⟨v, rfl, hv⟩ := hans
        obtain ⟨vb, rfl, _⟩ := hv.ptr
        by_cases hneg : k < 0
        · go_wp2
          go_ret
          exact ⟨rfl, HB2.out.trans hb3⟩
        · obtain ⟨K, rfl⟩ : ∃ K : Nat, k = (K : Int) := ⟨k.toNat, by omega⟩
          have hK : K < 9223372036854775808 := by unfold R64 at hk64; omega
          have cX := Lex_at a0 w3 (by omega) (HG.out.step (HB2.out.trans hb3)).ms
          have HP : Hid (prs (L a0) = .ok x ∧ IsX w3 (.pointer (some ⟨vb, 0, none⟩)) x ∧ Bl w w3 ∧ env (L a1) = some (K : Int) ∧ isN (L a1) = true) := ⟨hp, hv, HB2.out.trans hb3, hen, hnm⟩
          clear hp hv hen hnm hlk hk64 cN cL cP hln hneg h20 h20' h12'
          go_wp2_with fail
          refine cX.mono ?_
          rintro e w4 ⟨hb4, ⟨g1, v, rfl, g2⟩ | ⟨p, B, g1, _⟩⟩
          · have hch := lx_ch (L a0) _ 0 (Nat.le_refl _) (Nat.zero_le _)
            have hlen := lx_len (L a0) _ 0 (Nat.le_refl _)
            obtain ⟨y, hy1, hy2⟩ := putted HP.out.1 (L a1) (K : Int) HP.out.2.2.2.2 (by omega) (by omega)
            rw [List.drop_zero] at hch
            rw [L_len] at hlen
            generalize (lx (L a0) 0).1 = l at g2 hch hlen hy1
            obtain ⟨vp, vc, rfl, hvc, hin⟩ := g2.view
            have hsh := ch_short hch
            rw [L_len] at hsh
            have hdl : (Lib.itoa (K : Int)).length ≤ 20 := by
              rw [itoa_pos _ (by omega)]
              exact dd_len _ 19 (by omega)
            have hgl : ∀ t ∈ l, (gv (L a1) (Lib.itoa (K : Int)) t).length ≤ 900 := fun t ht => gv_len _ _ _ hdl (by have := hsh t ht; omega)
            have HV : Hid (tr.In w4 vp l ∧ Bl w w4 ∧ Bl w3 w4 ∧ (∀ t ∈ l, (gv (L a1) (Lib.itoa (K : Int)) t).length ≤ 900) ∧ prs (jb [32] (l.map (gv (L a1) (Lib.itoa (K : Int))))) = .ok y ∧ Sb (L a1) (K : Int) x y) := ⟨hin, HP.out.2.2.1.trans hb4, hb4, hgl, hy1, hy2⟩
            obtain ⟨N, hN⟩ : ∃ N, N = l.length := ⟨_, rfl⟩
            rw [← hN] at hlen hvc ⊢
            have HNl : Hid (N = l.length) := hN
            have hds : (tx (Lib.itoa (K : Int))).size ≤ 20 := by rw [tx_size]; exact hdl
            have cD := fun w => decimal_at K w hK
            obtain ⟨dd, hdd⟩ : ∃ dd, dd = Lib.itoa (K : Int) := ⟨_, rfl⟩
            rw [← hdd] at HV hds cD
            have HDD : Hid (dd = Lib.itoa (K : Int)) := hdd
            clear hdd hdl hgl hsh hch hin hy1 hy2 hN g1 g2 hb4 hb3 cX
            go_wp2
            go_loopw [12, 13] (fun tv iv wr => ∃ i : Nat, i ≤ N ∧ iv = .int .i64 (i : Int) ∧ tv = .string (tx (jb [32] ((l.take i).map (gv (L a1) dd)))) ∧ Hid (Bl w4 wr)) (fun _ iv _ => N - (intOf iv).toNat)
            case atStart => exact ⟨0, Nat.zero_le _, rfl, rfl, Bl.refl _⟩
            case round =>
              obtain ⟨i, hi, rfl, rfl, HB⟩ := hrel
              have hTs : (tx (jb [32] ((l.take i).map (gv (L a1) dd)))).size ≤ 1000000 := by
                rw [tx_size]
                have h1 := jb_le (gv (L a1) dd) (l.take i) (fun t ht => HV.out.2.2.2.1 t (List.mem_of_mem_take ht))
                have h2 : (l.take i).length ≤ N := by rw [List.length_take, ← HNl.out]; omega
                omega
              by_cases h1 : i < N
              · have d1 : decide ((i : Int) < (N : Int)) = true := decide_eq_true (by omega)
                have hil : i < l.length := by have := HNl.out; omega
                obtain ⟨z, rfl, b1, b2⟩ := (HV.out.1.step HB.out).at' i hil
                have hgt := HV.out.2.2.2.1 l[i] (List.getElem_mem hil)
                have hnext : jb [32] ((l.take (i + 1)).map (gv (L a1) dd)) = jb [32] ((l.take i).map (gv (L a1) dd)) ++ (gv (L a1) dd l[i] ++ [32]) := by
                  rw [List.take_add_one, List.getElem?_eq_getElem hil, List.map_append]
                  exact jb_snoc [32] _ _
                obtain ⟨T, hT⟩ : ∃ T, T = tx (jb [32] ((l.take i).map (gv (L a1) dd))) := ⟨_, rfl⟩
                obtain ⟨S, hS⟩ : ∃ S, S = tx l[i].t := ⟨_, rfl⟩
                by_cases hq : l[i].t = L a1
                · have hSa : S = a1 := by rw [hS, hq, tx_L]
                  have HF : Hid (T ++ (tx dd ++ ⟨#[32]⟩) = tx (jb [32] ((l.take (i + 1)).map (gv (L a1) dd)))) := by
                    show T ++ (tx dd ++ tx [32]) = _
                    rw [hT, tx_app, tx_app, hnext]
                    unfold gv
                    rw [if_pos hq]
                  rw [← hT] at hTs ⊢
                  rw [← hS, hSa] at b1
                  have heq : (a1.toList == a1.toList) = true := by simp
                  obtain ⟨U, hU⟩ : ∃ U, U = tx dd := ⟨_, rfl⟩
                  rw [← hU] at hds cD HF
                  clear hnext hT hS hSa hgt hq hU
                  go_wp2_with fail
                  refine (cD _).mono ?_
                  rintro e w6 ⟨rfl, hb6⟩
                  go_wp2
                  go_roundw
                  case rel => exact ⟨i + 1, by omega, by go_num, by rw [HF.out], HB.out.trans hb6⟩
                  case measure => simp [intOf]; omega
                · have hne : (S.toList == a1.toList) = false := by
                    rw [beq_eq_false_iff_ne]
                    intro e
                    exact hq (by rw [← L_tx l[i].t, ← hS, (tl_eq.1 e)])
                  have HF : Hid (T ++ (S ++ ⟨#[32]⟩) = tx (jb [32] ((l.take (i + 1)).map (gv (L a1) dd)))) := by
                    show T ++ (S ++ tx [32]) = _
                    rw [hT, hS, tx_app, tx_app, hnext]
                    unfold gv
                    rw [if_neg hq]
                  have hSs : S.size ≤ 900 := by
                    rw [hS, tx_size]
                    unfold gv at hgt
                    rw [if_neg hq] at hgt
                    exact hgt
                  rw [← hT] at hTs ⊢
                  rw [← hS] at b1
                  clear hnext hT hS hgt hq
                  go_wp2
                  go_roundw
                  case rel => exact ⟨i + 1, by omega, by go_num, by rw [HF.out], HB.out⟩
                  case measure => simp [intOf]; omega
              · have d1 : decide ((i : Int) < (N : Int)) = false := decide_eq_false (by omega)
                have hil : l.take i = l := List.take_of_length_le (by have := HNl.out; omega)
                rw [hil] at hTs ⊢
                obtain ⟨T, hT⟩ : ∃ T, T = tx (jb [32] (l.map (gv (L a1) dd))) := ⟨_, rfl⟩
                have HT : Hid (L T = jb [32] (l.map (gv (L a1) dd))) := by rw [hT, L_tx]; rfl
                rw [← hT] at hTs ⊢
                have HBr : Hid (Bl w wr ∧ Bl w3 wr) := ⟨HV.out.2.1.trans HB.out, HV.out.2.2.1.trans HB.out⟩
                clear hT hil
                by_cases h3 : 3000 < T.size
                · have h3' : (3000 : Int) < (T.size : Int) := by omega
                  have cQ := Parse_long T wr h3
                  go_wp2_with fail
                  refine cQ.mono ?_
                  rintro e w5 ⟨rfl, hb5⟩
                  go_wp2
                  go_ret
                  exact ⟨rfl, HBr.out.1.trans hb5⟩
                · have cQ := Parse_at T wr (by omega) (HG.out.step HBr.out.1).ms (HG.out.step HBr.out.1).er
                  go_wp2_with fail
                  refine cQ.mono ?_
                  rintro e w5 ⟨hb5, hans5⟩
                  rw [HT.out, HV.out.2.2.2.2.1] at hans5
                  obtain ⟨v', rfl, hv'⟩ := hans5
                  obtain ⟨vb', rfl, _⟩ := hv'.ptr
                  have hb05 : Bl w w5 := HBr.out.1.trans hb5
                  obtain ⟨b, c, rfl, hom⟩ : ∃ b c, m = some b ∧ Om w b env c := by
                    rcases HO.out with ⟨_, h⟩ | h
                    · have := HP.out.2.2.2.1
                      rw [h] at this
                      cases this
                    · exact h
                  have hom5 := hom.below hb05
                  obtain ⟨es, clock, hblk⟩ := hom5.block
                  have cC := Clone_at b es clock w5 hblk
                  have hom6 := hom5.clone hblk
                  obtain ⟨w7, hdr, hom7, hg7⟩ := hom6.drop a1 (by omega) 0
                  have hb7 : Bl w5 w7 := bl_grown ((Bl.refl w5).alloc _) hg7 (fun k hk => by injection hk with hk; omega)
                  have HX : Hid (IsX w7 (.pointer (some ⟨vb, 0, none⟩)) x ∧ IsX w7 (.pointer (some ⟨vb', 0, none⟩)) y ∧ Bl w w7) := ⟨HP.out.2.1.keep (Kx.bl ((HBr.out.2.trans hb5).trans hb7)), hv'.keep (Kx.bl hb7), hb05.trans hb7⟩
                  have hkn := prs_kn HP.out.1
                  have cE := Eval_at env (.map (some b)) x _ w7 HX.out.1 hkn.wf.okb (HN.out.is.step HX.out.2.2)
                  have cE' := fun w8 (hb8 : Bl w7 w8) => Eval_at _ (.map (some w5.heap.size)) y _ w8 (HX.out.2.1.keep (Kx.bl hb8)) (HV.out.2.2.2.2.2.okb hkn.wf.okb) (hom7.isM.step hb8)
                  have HEV : Hid (Eqv (ev env x) (ev (fun t => if t = L a1 then none else env t) y)) := HV.out.2.2.2.2.2.ev HP.out.2.2.2.1
                  have hLd : a1.data.toList = L a1 := rfl
                  rw [hLd] at cE'
                  generalize hBq : w5.heap.size = Bq at hom6 hom7 hg7 cC cE' hdr
                  clear hom hom5 hom6 hom7 hg7 hb5 hv' hkn hblk
                  go_wp2_with fail
                  refine cC.mono ?_
                  rintro e w6 ⟨rfl, rfl⟩
                  go_wp2_with fail
                  refine cE.mono ?_
                  rintro e w8 hE8
                  obtain ⟨hb8, ev8, rfl, _, ct8⟩ := hE8.get (HG.out.step HX.out.2.2)
                  obtain ⟨V, hV⟩ : ∃ V, V = valu (ev env x) := ⟨_, rfl⟩
                  obtain ⟨C, hC⟩ : ∃ C, C = code (ev env x) := ⟨_, rfl⟩
                  rw [← hC] at ct8
                  rw [← hV]
                  have HVC : Hid (V = valu (ev env x) ∧ C = code (ev env x)) := ⟨hV, hC⟩
                  have HB8 : Hid (Bl w w8) := HX.out.2.2.trans hb8
                  have cE8 := cE' w8 hb8
                  clear hE8 hb8 hV hC cE cE' hdr cC cQ
                  go_wp2_with fail
                  refine cE8.mono ?_
                  rintro e w9 hE9
                  obtain ⟨hb9, ev9, rfl, _, ct9⟩ := hE9.get (HG.out.step HB8.out)
                  rw [← HEV.out.same.1, ← HVC.out.1]
                  rw [← HEV.out.same.2, ← HVC.out.2] at ct9
                  have HB9 : Hid (Bl w8 w9) := hb9
                  clear hE9 cE8 hb9
                  have hvv : (V == V) = true := by simp
                  have hcc : (C == C) = true := by simp
                  go_wp2_with fail
                  refine (ct8 _ HB9.out).mono ?_
                  rintro e w10 ⟨rfl, hb10⟩
                  go_wp2_with fail
                  refine (ct9 _ hb10).mono ?_
                  rintro e w11 ⟨rfl, hb11⟩
                  go_wp2
                  go_ret
                  exact ⟨rfl, ((HB8.out.trans HB9.out).trans hb10).trans hb11⟩
          · exfalso
            rw [(prs_ok HP.out.1).1] at g1
            cases g1
end Go.Proofs.YtfngcphklfjhjaaDoor.ex
