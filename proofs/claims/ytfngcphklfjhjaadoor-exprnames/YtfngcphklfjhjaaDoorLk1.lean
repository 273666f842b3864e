/- Rows of tokens that are alike: slices.Equal, slices.EqualFunc; pick, long and cutUp of the laws. -/
import Derived.Test.YtfngcphklfjhjaaDoorLx5
namespace Go.Proofs.YtfngcphklfjhjaaDoor.lx
set_option linter.unusedVariables false
open Go.ChangeShapes Go.WideShapes Go.ChangeAt Go.RowKit
open mem

theorem neTk (x : Tk) (w : World) : (binOp .neq 35 (.agg #[.string (tx x.t), .int .i64 (x.a : Int)]) (.agg #[.string (tx x.t), .int .i64 (x.a : Int)])).run Tryd.prog w = .ok (.bool false) w := by
  rw [run_neq_struct]
  go_simp
set_option maxRecDepth 10000 in
theorem equal_at (l : List Tk) (u v : Value) (w : World) (hu : tr.View w u l) (hv : tr.View w v l) (hl : l.length ≤ 100000) :
    Calls Tryd.prog 33 #[u, v] w fun e w' => e = .returned (.bool true) ∧ Bl w w' := by
  obtain ⟨p, c, rfl, hc, hp⟩ := hu
  obtain ⟨q, d, rfl, hd, hq⟩ := hv
  have HP : Hid (tr.In w p l) := hp
  have HQ : Hid (tr.In w q l) := hq
  clear hp hq
  obtain ⟨n, hn⟩ : ∃ n, n = l.length := ⟨_, rfl⟩
  rw [← hn] at hc hd hl ⊢
  have HN : Hid (n = l.length) := hn
  clear hn
  go_enter Tryd.func33, Tryd.ntmps33
  go_wp2
  go_loopw [13] (fun i wr => ∃ k : Nat, k ≤ n ∧ i = .int .i64 (k : Int) ∧ Hid (Bl w wr)) (fun i _ => n - (intOf i).toNat)
  case atStart => exact ⟨0, Nat.zero_le _, rfl, Bl.refl _⟩
  case round =>
    obtain ⟨k, hk, rfl, HB⟩ := hrel
    by_cases h1 : k < n
    · have d1 : decide ((k : Int) < (n : Int)) = true := decide_eq_true (by omega)
      have hkl : k < l.length := by have := HN.out; omega
      obtain ⟨x, rfl, a1, a2⟩ := (HP.out.step HB.out).at' k hkl
      obtain ⟨y, rfl, b1, b2⟩ := (HQ.out.step HB.out).at' k hkl
      have hE := neTk l[k]
      generalize l[k] = t at *
      go_wp2
      go_quiet (fail)
      go_wp2
      go_roundw
      case rel => exact ⟨k + 1, by omega, by go_num, HB.out.drewN _⟩
      case measure => simp [intOf]; omega
    · have d1 : decide ((k : Int) < (n : Int)) = false := decide_eq_false (by omega)
      go_wp2
      go_ret
      exact ⟨rfl, HB.out⟩
def pik (a : Int) (n : Nat) : Nat := ((a % 18446744073709551616) % (n : Int)).toNat
theorem pik_lt (a : Int) (n : Nat) (hn : 0 < n) : pik a n < n := by
  unfold pik
  have h2 := Int.emod_lt_of_pos (a % 18446744073709551616) (show (0 : Int) < (n : Int) by omega)
  have h3 := Int.emod_nonneg (a % 18446744073709551616) (show (n : Int) ≠ 0 by omega)
  omega
theorem pick_at (a : Int) (n : Nat) (w : World) (hn : 0 < n) (hn' : n ≤ 2147483648) : Calls Tryd.prog 15 #[.int .i64 a, .int .i64 n] w fun e w' => e = .returned (.int .i64 (pik a n)) ∧ w' = w := by
  go_enter Tryd.func15, Tryd.ntmps15
  go_wp2
  go_ret
  refine ⟨ret_int ?_, rfl⟩
  have h0 : 0 ≤ a % 18446744073709551616 := by omega
  have h1 := pik_lt a n hn
  have h2 := Int.emod_nonneg (a % 18446744073709551616) (show (n : Int) ≠ 0 by omega)
  rw [IntKind.wrap_u64, Int.tmod_eq_emod_of_nonneg h0]
  unfold pik at h1 ⊢
  unfold wrap64
  omega
theorem long_at (s : ByteArray) (w : World) : Calls Tryd.prog 14 #[.string s] w fun e w' => e = .returned (.bool (decide (900 < s.size))) ∧ w' = w := by
  go_enter Tryd.func14, Tryd.ntmps14
  go_wp2
  all_goals
    go_ret
    refine ⟨ret_bool ?_, rfl⟩
    first | rfl | (rw [Bool.eq_iff_iff]; simp <;> omega)
theorem lit_view (l : List Tk) (B c : Nat) (w : World) (hc : l.length ≤ c) (h : w.heap[B]? = some (.cells (tr.rowE l).toArray 35 (0, 0))) : tr.View w (.slice (some ⟨B, 0, none⟩) l.length c) l := by
  refine ⟨_, _, rfl, hc, Or.inr ⟨_, rfl, fun j u hu => ?_⟩⟩
  rw [Addr.add_lit, Nat.zero_add, cell_of h]
  simpa using hu
/-- The fixed tokens. -/
def fixT : List Tk := [⟨[97], 0⟩, ⟨[61, 61], 1⟩, ⟨[49, 50], 3⟩, ⟨[59], 10⟩]
theorem fix_lx : lx (L ⟨#[97, 61, 61, 49, 50, 32, 35, 32, 98, 10, 59]⟩) 0 = (fixT, none) := by decide
theorem cutUp_at (w : World) (hm : Mks w) : Calls Tryd.prog 13 #[] w fun e w' => e = .returned (.bool true) ∧ Bl w w' := by
  have c1 := Lex_at ⟨#[97, 61, 61, 49, 50, 32, 35, 32, 98, 10, 59]⟩ w (by decide) hm
  have c2 := Name_at ⟨#[120, 49]⟩
  rw [show nmb (L ⟨#[120, 49]⟩) = true by decide] at c2
  go_enter Tryd.func13, Tryd.ntmps13
  go_wp2_with fail
  refine c1.mono ?_
  rintro e w1 ⟨hb1, ⟨h1, v, rfl, h2⟩ | ⟨p, B, h1, _⟩⟩
  · rw [fix_lx] at h2
    have HO : Hid (tr.Own w1 w.heap.size v fixT) := h2
    clear h1 h2 c1
    go_wp2_with fail
    refine (equal_at fixT v _ _ ((HO.out.step ((Bl.refl _).alloc _)).view) (lit_view fixT w1.heap.size 4 _ (by decide) (new_at w1 _)) (by decide)).mono ?_
    rintro e w2 ⟨rfl, hb2⟩
    go_wp2_with fail
    refine (c2 _).mono ?_
    rintro e w3 ⟨rfl, rfl⟩
    go_wp2
    go_ret
    exact ⟨rfl, hb1.trans (((Bl.refl _).alloc _).trans hb2)⟩
  · rw [fix_lx] at h1
    cases h1
theorem tl_eq {a b : ByteArray} : a.toList = b.toList ↔ a = b := by
  rw [ByteArray.toList_eq, ByteArray.toList_eq]
  constructor
  · intro h
    exact ByteArray.ext (Array.ext' h)
  · intro h
    rw [h]
theorem alike_at (x y : Tk) (h : x.t = y.t) (w : World) : Calls Tryd.prog 17 #[.agg #[.string (tx x.t), .int .i64 (x.a : Int)], .agg #[.string (tx y.t), .int .i64 (y.a : Int)]] w fun e w' => e = .returned (.bool true) ∧ Bl w w' := by
  rw [← h]
  go_enter Tryd.func17, Tryd.ntmps17
  go_wp2
  go_ret
  exact ⟨rfl, ((Bl.refl _).alloc _).alloc _⟩
set_option maxRecDepth 10000 in
theorem equalFunc_at (l m : List Tk) (u v : Value) (w : World) (hu : tr.View w u l) (hv : tr.View w v m) (hl : l.length ≤ 100000) (hlm : l.map Tk.t = m.map Tk.t) :
    Calls Tryd.prog 16 #[u, v, .func (.func 17) #[] #[]] w fun e w' => e = .returned (.bool true) ∧ Bl w w' := by
  obtain ⟨p, c, rfl, hc, hp⟩ := hu
  obtain ⟨q, d, rfl, hd, hq⟩ := hv
  have hml : m.length = l.length := by have := congrArg List.length hlm; simpa using this.symm
  rw [hml] at hd ⊢
  have HP : Hid (tr.In w p l) := hp
  have HQ : Hid (tr.In w q m) := hq
  have HLM : Hid (l.map Tk.t = m.map Tk.t) := hlm
  clear hp hq hlm
  obtain ⟨n, hn⟩ : ∃ n, n = l.length := ⟨_, rfl⟩
  rw [← hn] at hc hd hl hml ⊢
  have HN : Hid (n = l.length ∧ m.length = n) := ⟨hn, hml⟩
  clear hn hml
  go_enter Tryd.func16, Tryd.ntmps16
  go_wp2
  go_loopw [17] (fun i wr => ∃ k : Nat, k ≤ n ∧ i = .int .i64 (k : Int) ∧ Hid (Bl w wr)) (fun i _ => n - (intOf i).toNat)
  case atStart => exact ⟨0, Nat.zero_le _, rfl, Bl.refl _⟩
  case round =>
    obtain ⟨k, hk, rfl, HB⟩ := hrel
    by_cases h1 : k < n
    · have d1 : decide ((k : Int) < (n : Int)) = true := decide_eq_true (by omega)
      have hkl : k < l.length := by have := HN.out; omega
      have hkm : k < m.length := by have := HN.out; omega
      obtain ⟨x, rfl, a1, a2⟩ := (HP.out.step HB.out).at' k hkl
      obtain ⟨y, rfl, b1, b2⟩ := (HQ.out.step HB.out).at' k hkm
      have hE : l[k].t = m[k].t := by
        have := congrArg (fun z : List (List UInt8) => z[k]?) HLM.out
        simpa [hkl, hkm] using this
      have cA := alike_at l[k] m[k] hE
      generalize l[k] = t1 at *
      generalize m[k] = t2 at *
      clear hE
      have b1' := at_bl ((Bl.refl wr).alloc (.cells #[.string (tx t1.t), .int .i64 (t1.a : Int)] 35)) b1
      have b2' := at_bl ((Bl.refl wr).alloc (.cells #[.string (tx t1.t), .int .i64 (t1.a : Int)] 35)) b2
      go_wp2_with fail
      refine (cA _).mono ?_
      rintro e w1 ⟨rfl, hb1⟩
      have HB1 : Hid (Bl w w1) := HB.out.trans ((((Bl.refl _).alloc _).alloc _).trans hb1)
      clear hb1
      go_wp2
      go_roundw
      case rel => exact ⟨k + 1, by omega, by go_num, HB1.out⟩
      case measure => simp [intOf]; omega
    · have d1 : decide ((k : Int) < (n : Int)) = false := decide_eq_false (by omega)
      go_wp2
      go_ret
      exact ⟨rfl, HB.out⟩
end Go.Proofs.YtfngcphklfjhjaaDoor.lx
