/- What the document's own bitAt answers: a text's bit. -/
import Derived.Test.YtfebfnjmehaeiabDoorBits
namespace Go.Proofs.YtfebfnjmehaeiabDoor.bitw
open Go.ChangeShapes Go.WideShapes Go.ChangeAt Go.RowKit
open mem bit

theorem bitAt_any (s : ByteArray) (k : Nat) (o : Bool) (O : Int) (w : World) (hs : s.size ≤ 140737488351232) (hk : k < 8 * s.size) (hO : (if o then (1 : Int) else 0) = O) :
    Calls Tryd.prog 11 #[.string s, .int .i64 k, .int .i64 O] w fun e w' => e = .returned (.int .u64 ((tbit s o k).toNat : Nat)) ∧ w' = w := by
  have hix := run_byte (P := Tryd.prog) s (k / 8) ((k : Int) / 8) (by omega) (by omega) Tryd.underlying9
  have hx := byteN_lt s (k / 8)
  cases o
  · have hO0 : (O == 1) = false := by simp at hO; simp; omega
    clear hO
    have HE : Hid (bk false (byteN s (k / 8)) (k % 8) % 2 = (tbit s false k).toNat) := bk_end2 s k
    go_enter Tryd.func11, Tryd.ntmps11
    go_wp2
    go_loop [7, 8] (fun b i => ∃ m : Nat, m ≤ k % 8 ∧ i = .int .i64 m ∧ b = .int .u64 (bk false (byteN s (k / 8)) m : Nat)) (fun _ i => k % 8 - (intOf i).toNat)
    case atStart => exact ⟨0, Nat.zero_le _, rfl, by rw [bk_zero _ _ hx]⟩
    case round =>
      obtain ⟨m, hm, rfl, rfl⟩ := hrel
      have hl := bk_lt false (byteN s (k / 8)) m hx
      by_cases hlt : m < k % 8
      · have hS : Hid (bk false (byteN s (k / 8)) m / 2 = bk false (byteN s (k / 8)) (m + 1)) := bk_little _ _
        go_wp2
        go_round
        case rel => exact ⟨m + 1, by omega, by go_num, by have h := hS.out; congr 1; omega⟩
        case measure => simp [intOf]; omega
      · obtain rfl : m = k % 8 := by omega
        go_wp2
        go_ret
        exact ⟨ret_int (by have h := HE.out; omega), rfl⟩
  · have hO1 : (O == 1) = true := by simp at hO; simp; omega
    clear hO
    have HE : Hid (bk true (byteN s (k / 8)) (k % 8) / 128 = (tbit s true k).toNat) := bk_end s k
    go_enter Tryd.func11, Tryd.ntmps11
    go_wp2
    go_loop [7, 8] (fun b i => ∃ m : Nat, m ≤ k % 8 ∧ i = .int .i64 m ∧ b = .int .u64 (bk true (byteN s (k / 8)) m : Nat)) (fun _ i => k % 8 - (intOf i).toNat)
    case atStart => exact ⟨0, Nat.zero_le _, rfl, by rw [bk_zero _ _ hx]⟩
    case round =>
      obtain ⟨m, hm, rfl, rfl⟩ := hrel
      have hl := bk_lt true (byteN s (k / 8)) m hx
      by_cases hlt : m < k % 8
      · have hS : Hid (bk true (byteN s (k / 8)) m * 2 % 256 = bk true (byteN s (k / 8)) (m + 1)) := bk_big _ _
        go_wp2
        go_round
        case rel => exact ⟨m + 1, by omega, by go_num, by have h := hS.out; congr 1; omega⟩
        case measure => simp [intOf]; omega
      · obtain rfl : m = k % 8 := by omega
        go_wp2
        go_ret
        exact ⟨ret_int (by have h := HE.out; omega), rfl⟩
theorem bitAt_at (s : ByteArray) (K : Int) (k : Nat) (o : Bool) (O : Int) (w : World) (hK : K = k) (hs : s.size ≤ 140737488351232) (hk : k < 8 * s.size) (hO : (if o then (1 : Int) else 0) = O) :
    Calls Tryd.prog 11 #[.string s, .int .i64 K, .int .i64 O] w fun e w' => e = .returned (.int .u64 ((tbit s o k).toNat : Nat)) ∧ w' = w := by
  subst hK
  exact bitAt_any s k o O w hs hk hO
theorem Row.new (w : World) (e : TypeId) (x : Int) : Row (w.alloc (.cells #[.int .u8 x] e)) e w.heap.size [x] := by
  unfold Row
  show (w.heap.push _)[w.heap.size]? = _
  rw [Array.getElem?_push, if_pos rfl]
  rfl
theorem char_any (b : Nat) (w : World) (hb : b < 256) : Calls Tryd.prog 17 #[.int .u64 b] w fun e w' => e = .returned (.string (strOfNums [(b : Int)])) ∧ Gb w w' := by
  have hcv := (Row.new w 5 (b : Int)).text (P := Tryd.prog) Tryd.underlying47 Tryd.underlying5 Tryd.underlying9 1 rfl
  have hm : (b : Int) % 256 = (b : Int) := by omega
  go_enter Tryd.func17, Tryd.ntmps17
  go_wp2
  go_ret
  exact ⟨rfl, (Gb.refl _).alloc _ _⟩
theorem nums_append (a b : List Int) : strOfNums a ++ strOfNums b = strOfNums (a ++ b) := by
  apply ByteArray.ext
  apply Array.ext'
  simp [strOfNums]
theorem bytesOf_succ (g : Nat → Bool) (o : Bool) (i : Nat) : strOfNums (bytesOf g o i) ++ strOfNums [((nb (fun j => g (at8 o i j)) 8 : Nat) : Int)] = strOfNums (bytesOf g o (i + 1)) := by
  rw [nums_append]
  unfold bytesOf
  rw [List.range_succ, List.map_append]
  rfl
theorem hb_byte (g : Nat → Bool) (i : Nat) : hb (fun k => g (8 * i + k)) 8 = nb (fun j => g (at8 true i j)) 8 := by
  rw [hb_nb]
  apply nb_congr
  intro j hj
  rfl
end Go.Proofs.YtfebfnjmehaeiabDoor.bitw
