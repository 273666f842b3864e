/- What Digit and Print of package digits answer. -/
import Derived.Test.YtmchpmfogjhpoabDoorRows
import Derived.Test.YtmchpmfogjhpoabDoorMem
import Derived.Test.YtmchpmfogjhpoabDoorDig
import Derived.WalkLawsBesides
namespace Go.Proofs.YtmchpmfogjhpoabDoor.digs
open Go.ChangeShapes Go.WideShapes Go.ChangeAt Go.RowKit
open mem dig

theorem ret_int {k : IntKind} {a b : Int} (h : a = b) : Ending.returned (.int k a) = .returned (.int k b) := by rw [h]
/-- Is it a base of digits? -/
def okB (b : Int) : Prop := 2 ≤ b ∧ b ≤ 16
theorem known_yes (b : Int) (w : World) (h : okB b) : Calls Tryd.prog 29 #[.int .i64 b] w fun e w' => e = .returned (.bool true) ∧ w' = w := by
  obtain ⟨h1, h2⟩ := h
  go_enter Tryd.func29, Tryd.ntmps29
  go_wp2
  go_ret
  exact ⟨by simp, rfl⟩
theorem known_no (b : Int) (w : World) (h : ¬ okB b) : Calls Tryd.prog 29 #[.int .i64 b] w fun e w' => e = .returned (.bool false) ∧ w' = w := by
  have h' : b < 2 ∨ 16 < b := by unfold okB at h; omega
  clear h
  rcases h' with h | h
  · go_enter Tryd.func29, Tryd.ntmps29
    go_wp2
    go_ret
    exact ⟨rfl, rfl⟩
  · have hd : decide (b ≤ 16) = false := by simp; omega
    go_enter Tryd.func29, Tryd.ntmps29
    go_wp2
    go_ret
    exact ⟨rfl, rfl⟩
theorem Digit_at (c : Int) (w : World) (h0 : 0 ≤ c) (h1 : c < 256) : Calls Tryd.prog 52 #[.int .u8 c] w fun e w' => e = .returned (.int .i64 (dv c)) ∧ w' = w := by
  go_enter Tryd.func52, Tryd.ntmps52
  go_wp2
  all_goals go_ret
  all_goals exact ⟨ret_int (by unfold dv; (repeat' split) <;> omega), rfl⟩
/-- The 64 bytes of which the last k are a number's digits. -/
def bufL (b n k : Nat) : List Int := List.replicate (64 - k) 0 ++ pr b n k
theorem bufL_len (b n k : Nat) (hk : k ≤ 64) : (bufL b n k).length = 64 := by simp [bufL, pr_len]; omega
theorem bufL_set (b n k : Nat) (hk : k < 64) : (bufL b n k).set (63 - k) (ch (n / b ^ k % b)) = bufL b n (k + 1) := by
  unfold bufL
  rw [List.set_append_left _ _ (by simp; omega), show 64 - k = (63 - k) + 1 from by omega, List.replicate_succ', List.set_append_right _ _ (by simp), show 64 - (k + 1) = 63 - k from by omega]
  simp [pr]
theorem bufL_cut (b n k j : Nat) : (bufL b n k).getD (64 - k + j) 0 = (pr b n k).getD j 0 := by
  unfold bufL
  rw [List.getD_eq_getElem?_getD, List.getD_eq_getElem?_getD, List.getElem?_append_right (by simp)]
  simp
theorem Row.of_cells (w : World) (e : TypeId) (c : Array Value) (zs : List Int) (h : c = (zs.map (Value.int .u8)).toArray) : Row (w.alloc (.cells c e)) e w.heap.size zs := by
  subst h
  unfold Row
  show (w.heap.push _)[w.heap.size]? = _
  rw [Array.getElem?_push, if_pos rfl]
theorem Row.cut {P : Program} {w : World} {e : TypeId} {B : Nat} {zs : List Int} (h : Row w e B zs) {src d dst : TypeId} (hs : P.underlying src = some (.slice d)) (he : P.underlying d = some (.int .u8))
    (hd : P.underlying dst = some .string) (o n c : Nat) (ys : List Int) (hn : ys.length = n) (ho : o + n ≤ zs.length) (hy : ∀ j, j < n → zs.getD (o + j) 0 = ys.getD j 0) : (convert src dst (.slice (some ⟨B, o, none⟩) n c)).run P w = .ok (.string (strOfNums ys)) w :=
  run_convert_bytes_arg w src d hs he B o n c ys hn (fun i hi => by rw [← hy i hi]; exact h.cell (by omega)) dst hd
theorem row_step {w : World} {t : TypeId} {b0 B n k g : Nat} {v : Int} (h : Row w t b0 (bufL B n k)) (hg : g + 1 + k = 64) (hv : v = ch (n / B ^ k % B)) : Row (w.setCell ⟨b0, g, none⟩ (.int .u8 v)) t b0 (bufL B n (k + 1)) := by
  have e := bufL_set B n k (by omega)
  rw [show 63 - k = g from by omega, ← hv] at e
  rw [← e]
  exact h.set g v
theorem len64 : Tryd.prog.arrayLen 66 = 64 := by kernel_rfl
theorem arr64 : Tryd.prog.underlying 66 = some (.array (Tryd.prog.arrayLen 66) (Tryd.prog.elem 66)) := by kernel_rfl
theorem size64 (w : World) : (sizeOf (Tryd.prog.elem 66)).run Tryd.prog w = .ok 1 w := by kernel_rfl
theorem slice64 (b0 g k : Nat) (hg : g + k = 64) (hk : 1 ≤ k) (w : World) : (Instr.sliceAt 66 (.pointer (some ⟨b0, 0, none⟩)) (some (.int .i64 (g : Int))) none none).run Tryd.prog w = .ok (.slice (some ⟨b0, g, none⟩) k k) w := by
  rw [run_sliceAt_array_l w 66 _ arr64 .i64 (g : Int) (by omega) (by rw [len64]; omega), size64]
  simp only [Result.andThen, slicedAt, len64, Int.toNat_natCast, Nat.mul_one]
  rw [if_neg (by omega), show 64 - g = k from by omega]
  simp [Addr.add]
  exact fun h => h.symm
set_option maxRecDepth 4000 in
theorem print_at (n B W K : Nat) (w : World) (hb : 2 ≤ B) (hb' : B ≤ 16) (hn : n < 2 ^ 64) (hW : W ≤ 64) (hK : isK B n W K) :
    Calls Tryd.prog 14 #[.int .u64 n, .int .i64 B, .int .i64 W] w fun e w' => e = .returned (.tuple #[.string (strOfNums (pr B n K)), .nilIface]) ∧ Gb w w' := by
  have hK64 := isK_le B n W K hb hn hW hK
  have HK : Hid (isK B n W K) := hK
  have hn' : n < 18446744073709551616 := hn
  have hok : Hid (okB B) := show okB B from ⟨by omega, by omega⟩
  have hmx : (if (W : Int) < 1 then 1 else (W : Int)) = ((max 1 W : Nat) : Int) := by split <;> omega
  clear hK hn
  go_enter Tryd.func14, Tryd.ntmps14
  go_wp2_with (go_at_call 29; refine (known_yes _ _ hok.out).mono ?_; rintro e w1 ⟨rfl, rfl⟩)
  go_loopw [0, 10, 25] (fun m f i wr => ∃ k q g : Nat, k ≤ K ∧ i = .int .i64 (k : Int) ∧ m = .int .u64 (q : Int) ∧ f = .int .i64 (g : Int) ∧ Hid (q = n / B ^ k) ∧ g + k = 64 ∧ Row wr 66 w1.heap.size (bufL B n k) ∧ Gb w1 wr) (fun _ _ i _ => 64 - (intOf i).toNat)
  case atStart => exact ⟨0, n, 64, Nat.zero_le _, rfl, rfl, rfl, by simp [Hid], rfl, Row.of_cells _ _ _ _ rfl, (Gb.refl _).alloc _ _⟩
  case round =>
    obtain ⟨k, q, g, hk, rfl, rfl, rfl, HQ, hg, hrow, hgb⟩ := hrel
    by_cases hlt : k < K
    · obtain ⟨g', rfl⟩ : ∃ g', g = g' + 1 := ⟨g - 1, by omega⟩
      have hc := hrow.cell (j := g') (by rw [bufL_len _ _ _ (by omega)]; omega)
      have hf := hrow.frozen g'
      have hstop : Hid (max 1 W ≤ k → 0 < q) := fun hL => by rw [HQ.out]; exact isK_stop B n W K k hb HK.out hlt hL
      obtain ⟨q', hq'⟩ : ∃ q' : Nat, q' = q / B := ⟨_, rfl⟩
      have hm : 0 ≤ (q : Int) % (B : Int) ∧ (q : Int) % (B : Int) < 16 := ⟨Int.emod_nonneg _ (by omega), by have := Int.emod_lt_of_pos (q : Int) (show (0 : Int) < (B : Int) by omega); omega⟩
      have hql : q ≤ n := by rw [HQ.out]; exact Nat.div_le_self _ _
      have hdq : IntKind.u64.wrap ((q : Int) / (B : Int)) = (q' : Int) := by
        have e : (q : Int) / (B : Int) = (q' : Int) := by rw [hq']; rfl
        have := Nat.div_le_self q B
        rw [e, IntKind.wrap_u64]; omega
      have HQ' : Hid (q' = n / B ^ (k + 1)) := by rw [hq', HQ.out]; exact div_next B n k
      have HD : Hid (q' = q / B) := hq'
      clear hq' hql
      by_cases hq : q = 0
      · have hL : ¬ max 1 W ≤ k := fun h => by have := hstop.out h; omega
        subst hq
        go_wp2
        go_roundw
        case rel => exact ⟨k + 1, 0, g', by omega, by go_num, rfl, rfl, by rw [← HQ'.out, HD.out]; simp [Hid], by omega, row_step hrow (by omega) (by rw [← HQ.out, Nat.zero_mod]; rfl), hgb.setCell (Nat.le_refl _) _⟩
        case measure => simp [intOf]; omega
      · go_wp2
        go_roundw
        case rel => exact ⟨k + 1, q', g', by omega, by go_num, rfl, rfl, HQ', by omega, row_step hrow (by omega) (by rw [← HQ.out]; exact lit_get (q % B) _), hgb.setCell (Nat.le_refl _) _⟩
        case measure => simp [intOf]; omega
    · obtain rfl : k = K := by omega
      have hq0 : q = 0 := by rw [HQ.out]; exact Nat.div_eq_of_lt HK.out.2.2.1
      have hL : max 1 W ≤ k := by have := HK.out; unfold isK at this; omega
      have hsl := slice64 w1.heap.size g k (by omega) (by omega)
      have hcv := Row.cut hrow (P := Tryd.prog) Tryd.underlying38 Tryd.underlying5 Tryd.underlying9 g k k (pr B n k) (pr_len _ _ _) (by rw [bufL_len _ _ _ (by omega)]; omega) (fun j hj => by rw [show g = 64 - k from by omega]; exact bufL_cut B n k j)
      subst hq0
      go_wp2
      all_goals go_ret2
      all_goals exact ⟨rfl, hgb⟩
theorem print_noB (n b W : Int) (w : World) (h : ¬ okB b) : Calls Tryd.prog 14 #[.int .u64 n, .int .i64 b, .int .i64 W] w fun e w' => e = .returned (.tuple #[.string ⟨#[]⟩, .iface 36 (.int .i64 1)]) ∧ w' = w := by
  have H : Hid (¬ okB b) := h
  clear h
  go_enter Tryd.func14, Tryd.ntmps14
  go_wp2_with (go_at_call 29; refine (known_no _ _ H.out).mono ?_; rintro e w1 ⟨rfl, rfl⟩)
  go_ret2
  exact ⟨rfl, rfl⟩
theorem print_noW (n b W : Int) (w : World) (h : okB b) (hW : W < 0 ∨ 64 < W) : Calls Tryd.prog 14 #[.int .u64 n, .int .i64 b, .int .i64 W] w fun e w' => e = .returned (.tuple #[.string ⟨#[]⟩, .iface 36 (.int .i64 2)]) ∧ w' = w := by
  have H : Hid (okB b) := h
  clear h
  by_cases h0 : W < 0
  · clear hW
    go_enter Tryd.func14, Tryd.ntmps14
    go_wp2_with (go_at_call 29; refine (known_yes _ _ H.out).mono ?_; rintro e w1 ⟨rfl, rfl⟩)
    go_ret2
    exact ⟨rfl, rfl⟩
  · have h1 : 64 < W := by omega
    clear hW
    go_enter Tryd.func14, Tryd.ntmps14
    go_wp2_with (go_at_call 29; refine (known_yes _ _ H.out).mono ?_; rintro e w1 ⟨rfl, rfl⟩)
    go_ret2
    exact ⟨rfl, rfl⟩
end Go.Proofs.YtmchpmfogjhpoabDoor.digs
