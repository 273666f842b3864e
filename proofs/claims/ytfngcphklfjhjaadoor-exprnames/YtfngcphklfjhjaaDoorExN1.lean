/- Numbers as the laws write them; names cut away. -/
import Derived.Test.YtfngcphklfjhjaaDoorExM
import Derived.Shelf.SlMaps.Clone
namespace Go.Proofs.YtfngcphklfjhjaaDoor.ex
set_option linter.unusedVariables false
open Go.ChangeShapes Go.WideShapes Go.ChangeAt Go.RowKit
open mem lx
open Go.Maps

def szOf : Value → Nat
  | .string s => s.size
  | _ => 0
/-- How far a number is written: the rest, and the digits behind it. -/
def Dn (N m : Nat) (l : List UInt8) : Prop := (l = [] ∧ m = N) ∨ (l ≠ [] ∧ Lib.decDigits N = (if m = 0 then [] else Lib.decDigits m) ++ l)
theorem Dn.len {N m : Nat} {l : List UInt8} (h : Dn N m l) (hN : N < 10 ^ 20) : l.length ≤ 20 := by
  rcases h with ⟨rfl, _⟩ | ⟨_, h⟩
  · simp
  · have h1 := dd_len N 19 hN
    rw [h, List.length_append] at h1
    omega
theorem Dn.on {N m : Nat} {l : List UInt8} (h : Dn N m l) (hm : 0 < m ∨ l = []) : Dn N (m / 10) (UInt8.ofNat (48 + m % 10) :: l) := by
  right
  refine ⟨by simp, ?_⟩
  have key : Lib.decDigits m = (if m / 10 = 0 then [] else Lib.decDigits (m / 10)) ++ [UInt8.ofNat (48 + m % 10)] := by
    by_cases h10 : m < 10
    · rw [Lib.decDigits, dif_pos h10, if_pos (by omega), Nat.mod_eq_of_lt h10]
      rfl
    · rw [Lib.decDigits, dif_neg h10, if_neg (by omega)]
  rcases h with ⟨rfl, rfl⟩ | ⟨h1, h2⟩
  · exact key
  · rcases hm with hm | hm
    · rw [h2, if_neg (by omega), key, List.append_assoc]
      rfl
    · exact absurd hm h1
theorem Dn.done {N : Nat} {l : List UInt8} (h : Dn N 0 l) (hl : l ≠ []) : l = Lib.decDigits N := by
  rcases h with ⟨rfl, _⟩ | ⟨_, h⟩
  · exact absurd rfl hl
  · rw [h, if_pos rfl]; rfl
set_option maxRecDepth 10000 in
theorem decimal_at (N : Nat) (w : World) (hN : N < 9223372036854775808) : Calls Tryd.prog 23 #[.int .i64 (N : Int)] w fun e w' => e = .returned (.string (tx (Lib.itoa (N : Int)))) ∧ Bl w w' := by
  go_enter Tryd.func23, Tryd.ntmps23
  go_wp2
  go_loopw [0, 3] (fun nv sv wr => ∃ (m : Nat) (l : List UInt8), m ≤ N ∧ nv = .int .i64 (m : Int) ∧ sv = .string (tx l) ∧ Hid (Dn N m l ∧ Bl w wr)) (fun nv sv _ => 2 * (intOf nv).toNat + (1 - szOf sv))
  case atStart => exact ⟨N, [], Nat.le_refl _, rfl, rfl, Or.inl ⟨rfl, rfl⟩, Bl.refl _⟩
  case round =>
    obtain ⟨m, l, hm, rfl, rfl, HD⟩ := hrel
    have hl := HD.out.1.len (by omega)
    have hts : (tx l).size ≤ 20 := by rw [tx_size]; exact hl
    have hcv : (convert 71 9 (.slice (some { block := wr.heap.size, off := 0 }) 1 1)).run Tryd.prog (wr.alloc (.cells #[.int .u8 (48 + (m : Int) % 10)] 5)) = .ok (.string (tx [UInt8.ofNat (48 + m % 10)])) (wr.alloc (.cells #[.int .u8 (48 + (m : Int) % 10)] 5)) := by
      have e : strOfNums [48 + (m : Int) % 10] = tx [UInt8.ofNat (48 + m % 10)] := by
        unfold strOfNums tx
        congr 1
      rw [← e]
      refine run_convert_bytes_arg _ 71 5 Tryd.underlying71 Tryd.underlying5 _ 0 1 1 [48 + (m : Int) % 10] rfl (fun i hi => ?_) 9 Tryd.underlying9
      obtain rfl : i = 0 := by omega
      rw [cell_of (new_at wr _)]
      rfl
    have hcz : (convert 71 9 (.slice (some { block := wr.heap.size, off := 0 }) 1 1)).run Tryd.prog (wr.alloc (.cells #[.int .u8 48] 5)) = .ok (.string (tx [48])) (wr.alloc (.cells #[.int .u8 48] 5)) := by
      refine run_convert_bytes_arg _ 71 5 Tryd.underlying71 Tryd.underlying5 _ 0 1 1 [48] rfl (fun i hi => ?_) 9 Tryd.underlying9
      obtain rfl : i = 0 := by omega
      rw [cell_of (new_at wr _)]
      rfl
    by_cases h0 : 0 < m
    · have d1 : decide ((0 : Int) < (m : Int)) = true := decide_eq_true (by omega)
      obtain ⟨q, hq⟩ : ∃ q, q = m / 10 := ⟨_, rfl⟩
      have hq' : (m : Int) / 10 = (q : Int) := by omega
      obtain ⟨c, hc⟩ : ∃ c, c = UInt8.ofNat (48 + m % 10) := ⟨_, rfl⟩
      have HQ : Hid (Dn N q (c :: l)) := by rw [hq, hc]; exact HD.out.1.on (Or.inl h0)
      have hqm : q < m := by omega
      rw [← hc] at hcv
      clear hcz hq hc
      have hc1 : (tx [c]).size = 1 := by rw [tx_size]; rfl
      obtain ⟨U, hU⟩ : ∃ U, U = tx [c] := ⟨_, rfl⟩
      have HU : Hid (U = tx [c]) := hU
      rw [← hU] at hcv hc1
      clear hU
      go_wp2
      go_roundw
      case rel => exact ⟨q, c :: l, by omega, by go_num, by rw [HU.out, tx_app]; rfl, HQ.out, HD.out.2.trans ((Bl.refl _).alloc _)⟩
      case measure => simp [intOf, szOf]; omega
    · obtain rfl : m = 0 := by omega
      cases l with
      | nil =>
        clear hcv
        have h00 : (0 : Int) / 10 = 0 := by decide
        have hem : (tx ([] : List UInt8)).toList.isEmpty = true := by rw [ByteArray.toList_eq]; rfl
        go_wp2
        go_roundw
        case rel => exact ⟨0, [48], by omega, by go_num, rfl, HD.out.1.on (Or.inr rfl), HD.out.2.trans ((Bl.refl _).alloc _)⟩
        case measure => show 2 * 0 + (1 - (tx [48] ++ tx []).size) < 2 * 0 + (1 - (tx []).size); decide
      | cons c r =>
        have hne : (tx (c :: r)).toList.isEmpty = false := by rw [ByteArray.toList_eq]; rfl
        clear hcv hcz
        have HR := HD.out.1.done (by simp)
        have HR' : Hid (tx (c :: r) = tx (Lib.itoa (N : Int))) := by rw [itoa_pos _ (by omega)]; show tx _ = tx (Lib.decDigits ((N : Int).toNat)); rw [Int.toNat_natCast, ← HR]
        generalize tx (c :: r) = S at *
        clear HR
        go_wp2
        go_ret
        exact ⟨by rw [← HR'.out]; rfl, HD.out.2⟩
theorem run_eql_nil (b : Nat) (w : World) : (binOp .eql 42 (.map (some b)) (.map none)).run Tryd.prog w = .ok (.bool false) w := run_eql_map_nil_sl w _ _ _ (some b) Tryd.underlying42
set_option maxRecDepth 10000 in
theorem Clone_at (b : Nat) (es : Array MapEntry) (clock : Nat) (w : World) (hb : w.heap[b]? = some (.map es clock)) :
    Calls Tryd.prog 24 #[.map (some b)] w fun e w' => e = .returned (.map (some w.heap.size)) ∧ w' = w.alloc (.map es clock) := by
  have hq := run_eql_nil b
  go_enter Tryd.func24, Tryd.ntmps24
  go_wp2
  rw [run_callFunc_extern Tryd.func42 (by kernel_rfl) (by kernel_rfl) (by kernel_rfl) (e := Extern.MapsClone.clone) (by kernel_rfl), run_maps_clone_sl w 42 hb]
  simp only [Result.andThen]
  rw [Oper.upon_value]
  go_wp2
  rw [run_typeAssert_map_sl _ 42 20 _ _ _ Tryd.underlying42]
  simp only [Result.andThen]
  rw [Oper.upon_value]
  go_wp2
  go_ret
  exact ⟨rfl, rfl⟩
/-- A copy of a map, and a name taken out of it. -/
theorem Om.drop {w : World} {b c : Nat} {f : List UInt8 → Option Int} (h : Om w b f c) (t : ByteArray) (ht : t.size ≤ 5000) (ty : TypeId) :
    ∃ w', (Builtin.delete_ #[42, 9] ty #[.map (some b), .string t]).run Tryd.prog w = .ok (.tuple #[]) w' ∧ Om w' b (fun y => if y = t.data.toList then none else f y) c ∧ w.grownBy w' (some b) := by
  obtain ⟨D, h1, h2⟩ := h
  obtain ⟨w', hr, ho, hg⟩ := h1.drop lawS Tryd.underlying42 (WideMaps.keyOf_string_mk Tryd.underlying9 (s := t) (by unfold maxLen; omega)) ty
  refine ⟨w', hr, ⟨_, ho, fun y hy => ?_⟩, hg.grown⟩
  show Maps.has (D.del (skey t.data.toList)) (skey y) = _ ∧ (D.del (skey t.data.toList)).atKey (skey y) _ = _
  by_cases e : y = t.data.toList
  · subst e
    rw [has_del_same, atKey_del_same]
    simp
  · rw [has_del_other (skey_inj e), atKey_del_other (skey_inj e)]
    simp only [if_neg e]
    exact h2 y hy
end Go.Proofs.YtfngcphklfjhjaaDoor.ex
