/- Texts laid together: LrP, LrC, RefWg, LrD, LrE. -/
import Derived.Test.YtococaecjecjgaaGreatDoorXLayoutReads30
import Derived.Test.YtococaecjecjgaaGreatDoorXLayoutReads13
import Derived.WalkSpells
import Derived.Test.YtococaecjecjgaaGreatDoorXLayoutReads16
import Derived.Test.YtococaecjecjgaaGreatDoorXLayoutReads15
namespace Go.Proofs.YtococaecjecjgaaGreatDoor.ly
set_option linter.unusedVariables false
open lx ex tm num

def fndF : List Ty → List UInt8 → Option Its
  | [], _ => none
  | t :: r, x => if t.nm = x then some t.l else fndF r x
theorem chkT_cons {earl : List (List UInt8)} {t : Ty} {r : List Ty} (h : chkT earl (t :: r) = none) : t.nm ∉ earl ∧ (∃ n, chkI earl t.l [] [] = .ok n) ∧ chkT (t.nm :: earl) r = none := by
  rw [chkT] at h
  split at h
  · cases h
  · rename_i h0
    split at h
    · cases h
    · rename_i n hn
      refine ⟨h0, ?_, h⟩
      unfold chkB at hn
      split at hn
      · cases hn
      · rename_i n' hn'
        exact ⟨n', hn'⟩
theorem chkT_out {r : List Ty} : ∀ {earl : List (List UInt8)} {x : List UInt8}, chkT earl r = none → x ∈ earl → fnd r x = none := by
  induction r with
  | nil => intro earl x _ _; rfl
  | cons t r ih =>
    intro earl x h hx
    obtain ⟨h1, _, h3⟩ := chkT_cons h
    rw [fnd, ih h3 (List.mem_cons_of_mem _ hx)]
    dsimp only
    rw [if_neg (fun e => h1 (by rw [e]; exact hx))]
theorem fndF_eq {l : List Ty} : ∀ {earl : List (List UInt8)}, chkT earl l = none → ∀ x, fndF l x = fnd l x := by
  induction l with
  | nil => intro earl _ x; rfl
  | cons t r ih =>
    intro earl h x
    obtain ⟨h1, _, h3⟩ := chkT_cons h
    rw [fndF, fnd]
    by_cases hx : t.nm = x
    · subst hx
      rw [if_pos rfl, chkT_out h3 (List.mem_cons_self ..)]
      dsimp only
      rw [if_pos rfl]
    · rw [if_neg hx, ih h3 x]
      cases fnd r x with
      | none => dsimp only; rw [if_neg hx]
      | some i => rfl
theorem chk_fnd {l : List Ty} : ∀ {earl : List (List UInt8)}, chkT earl l = none → ∀ {x : List UInt8} {i : Its}, fnd l x = some i → ∃ earl' n, chkI earl' i [] [] = .ok n ∧ ∀ y ∈ earl', y ∈ earl ∨ fnd l y ≠ none := by
  induction l with
  | nil => intro earl _ x i h; cases h
  | cons t r ih =>
    intro earl h x i hf
    obtain ⟨h1, ⟨n, h2⟩, h3⟩ := chkT_cons h
    rw [fnd] at hf
    cases hr : fnd r x with
    | some j =>
      rw [hr] at hf
      dsimp only at hf
      injection hf with hf
      subst hf
      obtain ⟨e, m, g1, g2⟩ := ih h3 hr
      refine ⟨e, m, g1, fun y hy => ?_⟩
      rcases g2 y hy with g | g
      · rcases List.mem_cons.1 g with rfl | g
        · right
          rw [fnd]
          cases fnd r t.nm with
          | some j => simp
          | none => dsimp only; rw [if_pos rfl]; simp
        · exact Or.inl g
      · right
        rw [fnd]
        cases hq : fnd r y with
        | some j => simp
        | none => exact absurd hq g
    | none =>
      rw [hr] at hf
      dsimp only at hf
      split at hf
      · injection hf with hf
        subst hf
        exact ⟨earl, n, h2, fun y hy => Or.inl hy⟩
      · cases hf
theorem chkI_cons {earl : List (List UInt8)} {d : D} {s t : Its} {names seen n2 : List (List UInt8)} (h : chkI earl (.cons d s t) names seen = .ok n2) :
    (d.kd = 4 ∧ misO seen d.ct = none ∧ ∃ n1, chkI earl s names seen = .ok n1 ∧ chkI earl t n1 seen = .ok n2) ∨
    (d.kd ≠ 4 ∧ d.nm ∉ names ∧ (d.kd = 3 → d.ty ∈ earl) ∧ misO seen d.ct = none ∧ chkI earl t (d.nm :: names) (if d.kd = 1 ∧ d.mn = false then d.nm :: seen else seen) = .ok n2) := by
  rw [chkI] at h
  by_cases hk : d.kd = 4
  · rw [if_pos hk] at h
    split at h
    · cases h
    · rename_i h0
      split at h
      · cases h
      · rename_i n1 h1
        split at h
        · cases h
        · exact Or.inl ⟨hk, h0, n1, h1, h⟩
  · rw [if_neg hk] at h
    split at h
    · cases h
    · rename_i h0
      unfold itemW at h0
      split at h0
      · cases h0
      · rename_i g1
        split at h0
        · cases h0
        · rename_i g2
          refine Or.inr ⟨hk, g1, fun e => ?_, ?_, h⟩
          · exact Classical.byContradiction fun hn => g2 ⟨e, hn⟩
          · simpa using h0
theorem chkI_sub {earl : List (List UInt8)} (i : Its) : ∀ {names seen n2 : List (List UInt8)}, chkI earl i names seen = .ok n2 → ∀ y ∈ names, y ∈ n2 := by
  induction i with
  | nil =>
    intro names seen n2 h y hy
    rw [chkI] at h
    injection h with h
    subst h
    exact hy
  | cons d s t is it =>
    intro names seen n2 h y hy
    rcases chkI_cons h with ⟨_, _, n1, h1, h2⟩ | ⟨_, _, _, _, h2⟩
    · exact it h2 y (is h1 y hy)
    · exact it h2 y (List.mem_cons_of_mem _ hy)
theorem ev_agree {seen : List (List UInt8)} {en en' : Env} (ha : ∀ y ∈ seen, en' y = en y) : ∀ {x : Ex}, mis seen x = none → ev en' x = ev en x
  | .num a k, _ => rfl
  | .nam a t, h => by
    unfold mis at h
    split at h
    · rename_i ht
      unfold ev
      rw [ha t ht]
    · cases h
  | .bin a o l r, h => by
    unfold mis at h
    split at h
    · cases h
    · rename_i hl
      have h1 := ev_agree ha hl
      have h2 := ev_agree ha h
      unfold ev
      rw [h1, h2]
theorem evO_agree {seen : List (List UInt8)} {en en' : Env} (ha : ∀ y ∈ seen, en' y = en y) {o : Option Ex} (h : misO seen o = none) : evO en' o = evO en o := by
  cases o with
  | none => rfl
  | some x => exact ev_agree ha h
end Go.Proofs.YtococaecjecjgaaGreatDoor.ly
namespace Go.Proofs.YtococaecjecjgaaGreatDoor.ly
set_option linter.unusedVariables false
open Go.ChangeShapes Go.WideShapes Go.ChangeAt Go.RowKit
open mem lx ex tm num

def IoA (w : World) (ok : Nat → Prop) (q : Option Its) (e : Ending) (w' : World) : Prop :=
  Bl w w' ∧ match q with
  | none => e = .returned (.tuple #[.slice none 0 0, .bool false])
  | some i => ∃ p n c cs, e = .returned (.tuple #[.slice p n c, .bool true]) ∧ ir.Lie w' ok p n c cs ∧ Rep w' ok i cs
theorem fndF_drop {l : List Ty} {j : Nat} {t : Ty} {x : List UInt8} (h : l[j]? = some t) : fndF (l.drop j) x = if t.nm = x then some t.l else fndF (l.drop (j + 1)) x := by
  obtain ⟨hjl, e⟩ := List.getElem?_eq_some_iff.1 h
  rw [List.drop_eq_getElem_cons hjl, e, fndF]
set_option maxRecDepth 10000 in
set_option maxHeartbeats 2000000 in
theorem itemsOf_at (w : World) (ok : Nat → Prop) (v : Value) (l : List Ty) (x : List UInt8) (h : IsTs w ok v l) (hl8 : l.length ≤ 8) :
    Calls Tryz.prog 20 #[v, .string (tx x)] w (IoA w ok (fndF l x)) := by
  obtain ⟨p, c, cs, rfl, hlie, hrep⟩ := h
  obtain ⟨n, hn⟩ : ∃ n, n = l.length := ⟨_, rfl⟩
  obtain ⟨q, hq⟩ : ∃ q, q = fndF l x := ⟨_, rfl⟩
  rw [← hq]
  rw [← hn] at hlie hl8 ⊢
  have H0 : Hid (sr.Lie w ok p n c cs ∧ RepT w ok l cs ∧ n = l.length ∧ fndF (l.drop 0) x = q) := ⟨hlie, hrep, hn, by rw [List.drop_zero, hq]⟩
  clear hlie hrep hn hq
  go_enter Tryz.func20, Tryz.ntmps20
  go_wp2
  go_loopw [10] (fun v10 wr => ∃ j : Nat, v10 = .int .i64 (j : Int) ∧ j ≤ n ∧ Hid (Bl w wr ∧ fndF (l.drop j) x = q)) (fun v10 _ => n - (intOf v10).toNat)
  case atStart => exact ⟨0, rfl, Nat.zero_le _, Bl.refl _, H0.out.2.2.2⟩
  case round =>
    obtain ⟨j, rfl, hj, HM⟩ := hrel
    by_cases hlt : j < n
    · obtain ⟨t, ct, e1, e2, e3, e4, cs2, e5, e6⟩ := RepT.at H0.out.2.1 (j := j) (by have := H0.out.2.2.1; omega)
      obtain ⟨_, hnc, hlc⟩ := H0.out.1
      obtain ⟨g, rfl, hgs, hcell⟩ : ∃ g, p = some ⟨g, 0, none⟩ ∧ g < w.heap.size ∧ ∀ j u, (sr.rowE cs)[j]? = some u → w.cell? ⟨g, j, none⟩ = some u := by
        rcases hlc with hlc | ⟨g, g1, _, g3, g4⟩
        · rw [hlc] at e2; cases e2
        · exact ⟨g, g1, g3, g4⟩
      have hcj : ∀ i u, (clT ct)[i]? = some u → wr.cell? ⟨g, j * 3 + i, none⟩ = some u := fun i u hu => by
        have hi : i < 3 := by
          have := (List.getElem?_eq_some_iff.1 hu).1
          rw [sr.cl_len] at this
          exact this
        obtain ⟨hjl, e⟩ := List.getElem?_eq_some_iff.1 e2
        exact at_bl HM.out.1 (hcell _ _ (by rw [sr.rowE_get cs j hjl i hi, e]; exact hu))
      have f0 : wr.cell? ⟨g, j * 3, none⟩ = some (.string (tx ct.nm)) := hcj 0 _ rfl
      have f1 : wr.cell? ⟨g, j * 3 + 1, none⟩ = some (.int .i64 (ct.a : Int)) := hcj 1 _ rfl
      have f2 : wr.cell? ⟨g, j * 3 + 2, none⟩ = some (.slice ct.p ct.n ct.c) := hcj 2 _ rfl
      have hgr : g < wr.heap.size := by have := HM.out.1.size; omega
      rw [e3] at f0
      rw [e4] at f1
      have hst := fndF_drop (x := x) e1
      rw [HM.out.2] at hst
      have H5 : Hid (ir.Lie w ok ct.p ct.n ct.c cs2 ∧ Rep w ok t.l cs2 ∧ q = if t.nm = x then some t.l else fndF (l.drop (j + 1)) x) := ⟨e5, e6, hst⟩
      have hj1 : (0 : Int) ≤ (j : Int) := by omega
      have hj2 : (j : Int) < (n : Int) := by omega
      have hju : decide ((j : Int) < (n : Int)) = true := decide_eq_true hj2
      obtain ⟨TN, hTN⟩ : ∃ TN, TN = tx t.nm := ⟨_, rfl⟩
      obtain ⟨TX, hTX⟩ : ∃ TX, TX = tx x := ⟨_, rfl⟩
      rw [← hTN] at f0
      rw [← hTX]
      have HE : Hid (TN = tx t.nm ∧ TX = tx x) := ⟨hTN, hTX⟩
      clear e1 e2 e3 e4 e5 e6 hnc hlc hcell hcj hst hTN hTX
      by_cases hx : TN.toList = TX.toList
      · have hxb : (TN.toList == TX.toList) = true := by rw [hx]; simp
        have hq : q = some t.l := by rw [H5.out.2.2, if_pos]; rw [← tl_tx t.nm, ← tl_tx x, ← HE.out.1, ← HE.out.2]; exact hx
        subst hq
        go_wp2
        go_ret2
        have hb := (Bl.refl wr).alloc (.cells #[.string TN, .int .i64 (t.at_ : Int), .slice ct.p ct.n ct.c] 96)
        have hbw := HM.out.1.trans hb
        exact ⟨hbw, ct.p, ct.n, ct.c, cs2, rfl, H5.out.1.keep (fun g _ hg => Below.block hbw g hg) hbw.size, H5.out.2.1.keep (fun g _ hg => Below.block hbw g hg) hbw.size (Kx.bl hbw)⟩
      · have hxb : (TN.toList == TX.toList) = false := by simpa using hx
        have hq : fndF (l.drop (j + 1)) x = q := by rw [H5.out.2.2, if_neg]; intro e; exact hx (by rw [HE.out.1, HE.out.2, e])
        have HQ : Hid (fndF (l.drop (j + 1)) x = q) := hq
        clear hq hx
        go_wp2
        have hbw := HM.out.1.trans ((Bl.refl wr).alloc (.cells #[.string TN, .int .i64 (t.at_ : Int), .slice ct.p ct.n ct.c] 96))
        exact ⟨⟨j + 1, by go_num, by omega, hbw, HQ.out⟩, by simp [intOf]; omega⟩
    · obtain rfl : j = n := by omega
      have hq : q = none := by
        have e := HM.out.2
        rw [List.drop_eq_nil_of_le (by have := H0.out.2.2.1; omega)] at e
        exact e.symm
      subst hq
      go_wp2
      go_ret2
      exact ⟨HM.out.1, rfl⟩
end Go.Proofs.YtococaecjecjgaaGreatDoor.ly
namespace Go.Proofs.YtococaecjecjgaaGreatDoor.words
open Go.ChangeShapes Go.WideShapes Go.ChangeAt Go.RowKit
open mem num

def okW (W : Int) : Prop := W = 1 ∨ W = 2 ∨ W = 4 ∨ W = 8
def okO (O : Int) : Prop := O = 0 ∨ O = 1
theorem right_yes (W O : Int) (w : World) (hW : okW W) (hO : okO O) : Calls Tryz.prog 79 #[.int .i64 W, .int .i64 O] w fun e w' => e = .returned (.bool true) ∧ w' = w := by
  rcases hW with rfl | rfl | rfl | rfl <;> rcases hO with rfl | rfl
  all_goals
    go_enter Tryz.func79, Tryz.ntmps79
    go_wp2
    go_ret
    exact ⟨rfl, rfl⟩
def turnK (s : ByteArray) (k : Nat) : ByteArray := ⟨((s.data.toList.take k).reverse).toArray⟩
theorem turnK_size (s : ByteArray) (k : Nat) (hk : k ≤ s.size) : (turnK s k).size = k := by
  have h : s.data.toList.length = s.size := rfl
  simp only [turnK, ByteArray.size, List.size_toArray, List.length_reverse, List.length_take]
  omega
theorem turnK_succ (s : ByteArray) (k : Nat) (hk : k < s.size) : s.extract k (k + 1) ++ turnK s k = turnK s (k + 1) := by
  apply ByteArray.ext
  apply Array.ext'
  have h : k < s.data.toList.length := hk
  simp only [turnK, ByteArray.data_append, ByteArray.data_extract, Array.toList_append, Array.toList_extract]
  rw [List.take_succ_eq_append_getElem h]
  simp [List.extract_eq_take_drop, List.take_one, List.head?_drop]
  rw [Array.getElem?_eq_getElem (show k < s.data.size from hk)]
  rfl
theorem turn_any (s : ByteArray) (w : World) (hs : s.size ≤ 140737488351232) : Calls Tryz.prog 80 #[.string s] w fun e w' => e = .returned (.string (turnK s s.size)) ∧ w' = w := by
  go_enter Tryz.func80, Tryz.ntmps80
  go_wp2
  go_loop [3, 4] (fun o i => ∃ k : Nat, k ≤ s.size ∧ i = .int .i64 k ∧ o = .string (turnK s k)) (fun _ i => s.size - (intOf i).toNat)
  case atStart => exact ⟨0, Nat.zero_le _, rfl, rfl⟩
  case round =>
    obtain ⟨k, hk, rfl, rfl⟩ := hrel
    have hz := turnK_size s k hk
    by_cases hlt : k < s.size
    · go_wp2
      go_round
      case rel => exact ⟨k + 1, by omega, by go_num, by rw [turnK_succ s k hlt]⟩
      case measure => simp [intOf]; omega
    · obtain rfl : k = s.size := by omega
      go_wp2
      go_ret
      exact ⟨rfl, rfl⟩

def hv (f : Nat → Int) : Nat → Int
  | 0 => 0
  | k + 1 => hv f k * 256 + f k
theorem gv_front (g : Nat → Int) (k : Nat) : gv g (k + 1) = g 0 + gv (fun i => g (i + 1)) k * 256 := by
  induction k with
  | zero => simp [gv]
  | succ k ih =>
    rw [gv, ih, gv]
    have e : (256 : Int) ^ (k + 1) = 256 ^ k * 256 := Int.pow_succ ..
    rw [e, Int.add_mul]
    have e2 : g (k + 1) * (256 ^ k * 256) = g (k + 1) * 256 ^ k * 256 := (Int.mul_assoc ..).symm
    omega
theorem hv_gv (f : Nat → Int) (k : Nat) : hv f k = gv (fun i => f (k - 1 - i)) k := by
  induction k with
  | zero => rfl
  | succ k ih =>
    rw [gv_front, hv, ih]
    have e : gv (fun i => f (k + 1 - 1 - (i + 1))) k = gv (fun i => f (k - 1 - i)) k := gv_congr _ _ _ (fun i _ => by congr 1; omega)
    rw [e]
    show _ = f (k + 1 - 1 - 0) + _
    rw [show k + 1 - 1 - 0 = k from by omega]
    omega
theorem hv_bd (f : Nat → Int) (hf : ∀ i, 0 ≤ f i ∧ f i < 256) (k : Nat) : 0 ≤ hv f k ∧ hv f k < 256 ^ k := by
  rw [hv_gv]; exact gv_bd _ (fun i => hf _) k
def cutB (s : ByteArray) (A W : Nat) (o : Bool) : ByteArray := if o then s.extract A (A + W) else turnK (s.extract A (A + W)) W
theorem sb_extract (s : ByteArray) (A W i : Nat) (hi : i < W) (_hA : A + W ≤ s.size) : sb (s.extract A (A + W)) i = sb s (A + i) := by
  unfold sb
  congr 2
  rw [List.getD_eq_getElem?_getD, List.getD_eq_getElem?_getD]
  congr 1
  simp only [ByteArray.data_extract, Array.toList_extract, List.extract_eq_take_drop]
  rw [List.getElem?_take_of_lt (by omega), List.getElem?_drop]
theorem sb_turn (t : ByteArray) (W i : Nat) (hi : i < W) (hW : t.size = W) : sb (turnK t W) i = sb t (W - 1 - i) := by
  unfold sb turnK
  congr 2
  have hl : t.data.toList.length = W := hW
  rw [List.take_of_length_le (by omega), List.getD_eq_getElem?_getD, List.getD_eq_getElem?_getD]
  congr 1
  show t.data.toList.reverse[i]? = _
  rw [List.getElem?_reverse (by omega), hl]
theorem cutB_hv (s : ByteArray) (A W : Nat) (o : Bool) (hA : A + W ≤ s.size) : hv (fun i => sb (cutB s A W o) i) W = gv (fun i => sb s (A + pl W o i)) W := by
  rw [hv_gv]
  apply gv_congr
  intro i hi
  cases o
  · show sb (turnK (s.extract A (A + W)) W) (W - 1 - i) = _
    rw [sb_turn _ W _ (by omega) (by rw [ByteArray.size_extract]; omega), show W - 1 - (W - 1 - i) = i from by omega, sb_extract s A W i hi hA]
    rfl
  · show sb (s.extract A (A + W)) (W - 1 - i) = _
    rw [sb_extract s A W _ (by omega) hA]
    rfl
theorem cutB_size (s : ByteArray) (A W : Nat) (o : Bool) (hA : A + W ≤ s.size) : (cutB s A W o).size = W := by
  have h : (s.extract A (A + W)).size = W := by rw [ByteArray.size_extract]; omega
  cases o
  · exact turnK_size _ _ (by omega)
  · exact h
theorem hv_step (h b : Int) (k : Nat) (hk : k ≤ 7) (h0 : 0 ≤ h) (h1 : h < 256 ^ k) (hb0 : 0 ≤ b) (hb : b < 256) :
    IntKind.u64.wrap (IntKind.u64.wrap (h * 256) + IntKind.u64.wrap b) = h * 256 + b := by
  have hp := pow256_le k hk
  simp only [IntKind.wrap_u64]
  omega
theorem refGet_any (s : ByteArray) (A W : Nat) (o : Bool) (O : Int) (w : World) (hO : (if o then (1 : Int) else 0) = O) (hW : okW W) (hs : s.size ≤ 140737488351232) (hA : A + W ≤ s.size) :
    Calls Tryz.prog 47 #[.string s, .int .i64 A, .int .i64 W, .int .i64 O] w fun e w' => e = .returned (.tuple #[.int .u64 (gv (fun i => sb s (A + pl W o i)) W), .int .i64 0]) ∧ w' = w := by
  have hok : okO O := by cases o <;> simp at hO <;> unfold okO <;> omega
  have HW : Hid (okW W) := hW
  have HK : Hid (okO O) := hok
  have hw1 : 1 ≤ W := by unfold okW at hW; omega
  have hw8 : W ≤ 8 := by unfold okW at hW; omega
  have hx : (s.extract A (A + W)).size = W := by rw [ByteArray.size_extract]; omega
  have hc := cutB_size s A W o hA
  rw [← cutB_hv s A W o hA]
  clear hW hok
  cases o
  · have hO0 : (O == 0) = true := by simp at hO; simp; omega
    have hc' : (turnK (s.extract A (A + W)) W).size = W := hc
    clear hO hc
    have hf : ∀ i, 0 ≤ sb (cutB s A W false) i ∧ sb (cutB s A W false) i < 256 := fun i => sb_bd _ i
    have HF : Hid (∀ i, 0 ≤ sb (cutB s A W false) i ∧ sb (cutB s A W false) i < 256) := hf
    clear hf
    go_enter Tryz.func47, Tryz.ntmps47
    go_wp2_with (first | (go_at_call 79; refine (right_yes _ _ _ HW.out HK.out).mono ?_; rintro e w1 ⟨rfl, rfl⟩) | (go_at_call 80; refine (turn_any _ _ (by omega)).mono ?_; rintro e w2 ⟨rfl, rfl⟩))
    go_loop [11, 12] (fun n i => ∃ k : Nat, k ≤ W ∧ i = .int .i64 k ∧ n = .int .u64 (hv (fun i => sb (cutB s A W false) i) k)) (fun _ i => W - (intOf i).toNat)
    case atStart => exact ⟨0, Nat.zero_le _, rfl, rfl⟩
    case round =>
      obtain ⟨k, hk, rfl, rfl⟩ := hrel
      by_cases hlt : k < W
      · have hb := hv_bd _ HF.out k
        have hp := pow256_le k (by omega)
        have hbk := HF.out k
        have hg : Hid (sb (cutB s A W false) k = (((turnK (s.extract A (A + W)) W)[k]'(by omega)).toNat : Int)) := sb_get (turnK (s.extract A (A + W)) W) k (by omega)
        go_wp2
        go_round
        case rel => exact ⟨k + 1, by omega, by go_num, by rw [← hg.out, hv_step _ _ k (by omega) hb.1 hb.2 hbk.1 hbk.2]; rfl⟩
        case measure => simp [intOf]; omega
      · obtain rfl : k = W := by omega
        go_wp2
        go_ret2
        exact ⟨rfl, rfl⟩
  · have hO0 : (O == 0) = false := by simp at hO; simp; omega
    clear hO hc
    have hf : ∀ i, 0 ≤ sb (cutB s A W true) i ∧ sb (cutB s A W true) i < 256 := fun i => sb_bd _ i
    have HF : Hid (∀ i, 0 ≤ sb (cutB s A W true) i ∧ sb (cutB s A W true) i < 256) := hf
    clear hf
    go_enter Tryz.func47, Tryz.ntmps47
    go_wp2_with (first | (go_at_call 79; refine (right_yes _ _ _ HW.out HK.out).mono ?_; rintro e w1 ⟨rfl, rfl⟩))
    go_loop [11, 12] (fun n i => ∃ k : Nat, k ≤ W ∧ i = .int .i64 k ∧ n = .int .u64 (hv (fun i => sb (cutB s A W true) i) k)) (fun _ i => W - (intOf i).toNat)
    case atStart => exact ⟨0, Nat.zero_le _, rfl, rfl⟩
    case round =>
      obtain ⟨k, hk, rfl, rfl⟩ := hrel
      by_cases hlt : k < W
      · have hb := hv_bd _ HF.out k
        have hp := pow256_le k (by omega)
        have hbk := HF.out k
        have hg : Hid (sb (cutB s A W true) k = (((s.extract A (A + W))[k]'(by omega)).toNat : Int)) := sb_get (s.extract A (A + W)) k (by omega)
        go_wp2
        go_round
        case rel => exact ⟨k + 1, by omega, by go_num, by rw [← hg.out, hv_step _ _ k (by omega) hb.1 hb.2 hbk.1 hbk.2]; rfl⟩
        case measure => simp [intOf]; omega
      · obtain rfl : k = W := by omega
        go_wp2
        go_ret2
        exact ⟨rfl, rfl⟩
def pwr (W : Nat) : Value := if W = 8 then .tuple #[.int .u64 0, .bool false] else .tuple #[.int .u64 ((256 : Int) ^ W), .bool true]
set_option maxHeartbeats 2000000 in
theorem power_at (W : Nat) (hW : W = 1 ∨ W = 2 ∨ W = 4 ∨ W = 8) (w : World) :
    Calls Tryz.prog 82 #[.int .i64 (W : Int)] w fun e w' => e = .returned (pwr W) ∧ w' = w := by
  go_enter Tryz.func82, Tryz.ntmps82
  go_upto_region 2 with fail
  go_loopw [0, 4] (fun v0 v4 wr => ∃ j : Nat, j ≤ W ∧ j ≤ 7 ∧ v0 = .int .i64 (((W - j : Nat) : Nat) : Int) ∧ v4 = .int .u64 ((256 : Int) ^ j) ∧ wr = w) (fun v0 _ _ => (intOf v0).toNat)
  case atStart => exact ⟨0, Nat.zero_le _, by omega, rfl, rfl, rfl⟩
  case round =>
    obtain ⟨j, hj, hj7, rfl, rfl, rfl⟩ := hrel
    rcases hW with rfl | rfl | rfl | rfl
    · rcases (show j = 0 ∨ j = 1 by omega) with rfl | rfl
      · go_wp2
        exact ⟨⟨1, by decide, by decide, by first | rfl | simp, by first | rfl | simp, by first | rfl | trivial⟩, by first | rfl | simp [intOf]⟩
      · go_wp2
        go_ret2
        exact ⟨rfl, rfl⟩
    · rcases (show j = 0 ∨ j = 1 ∨ j = 2 by omega) with rfl | rfl | rfl
      · go_wp2
        exact ⟨⟨1, by decide, by decide, by first | rfl | simp, by first | rfl | simp, by first | rfl | trivial⟩, by first | rfl | simp [intOf]⟩
      · go_wp2
        exact ⟨⟨2, by decide, by decide, by first | rfl | simp, by first | rfl | simp, by first | rfl | trivial⟩, by first | rfl | simp [intOf]⟩
      · go_wp2
        go_ret2
        exact ⟨rfl, rfl⟩
    · rcases (show j = 0 ∨ j = 1 ∨ j = 2 ∨ j = 3 ∨ j = 4 by omega) with rfl | rfl | rfl | rfl | rfl
      · go_wp2
        exact ⟨⟨1, by decide, by decide, by first | rfl | simp, by first | rfl | simp, by first | rfl | trivial⟩, by first | rfl | simp [intOf]⟩
      · go_wp2
        exact ⟨⟨2, by decide, by decide, by first | rfl | simp, by first | rfl | simp, by first | rfl | trivial⟩, by first | rfl | simp [intOf]⟩
      · go_wp2
        exact ⟨⟨3, by decide, by decide, by first | rfl | simp, by first | rfl | simp, by first | rfl | trivial⟩, by first | rfl | simp [intOf]⟩
      · go_wp2
        exact ⟨⟨4, by decide, by decide, by first | rfl | simp, by first | rfl | simp, by first | rfl | trivial⟩, by first | rfl | simp [intOf]⟩
      · go_wp2
        go_ret2
        exact ⟨rfl, rfl⟩
    · rcases (show j = 0 ∨ j = 1 ∨ j = 2 ∨ j = 3 ∨ j = 4 ∨ j = 5 ∨ j = 6 ∨ j = 7 by omega) with rfl | rfl | rfl | rfl | rfl | rfl | rfl | rfl
      · go_wp2
        exact ⟨⟨1, by decide, by decide, by first | rfl | simp, by first | rfl | simp, by first | rfl | trivial⟩, by first | rfl | simp [intOf]⟩
      · go_wp2
        exact ⟨⟨2, by decide, by decide, by first | rfl | simp, by first | rfl | simp, by first | rfl | trivial⟩, by first | rfl | simp [intOf]⟩
      · go_wp2
        exact ⟨⟨3, by decide, by decide, by first | rfl | simp, by first | rfl | simp, by first | rfl | trivial⟩, by first | rfl | simp [intOf]⟩
      · go_wp2
        exact ⟨⟨4, by decide, by decide, by first | rfl | simp, by first | rfl | simp, by first | rfl | trivial⟩, by first | rfl | simp [intOf]⟩
      · go_wp2
        exact ⟨⟨5, by decide, by decide, by first | rfl | simp, by first | rfl | simp, by first | rfl | trivial⟩, by first | rfl | simp [intOf]⟩
      · go_wp2
        exact ⟨⟨6, by decide, by decide, by first | rfl | simp, by first | rfl | simp, by first | rfl | trivial⟩, by first | rfl | simp [intOf]⟩
      · go_wp2
        exact ⟨⟨7, by decide, by decide, by first | rfl | simp, by first | rfl | simp, by first | rfl | trivial⟩, by first | rfl | simp [intOf]⟩
      · go_wp2
        go_ret2
        exact ⟨rfl, rfl⟩
set_option maxHeartbeats 1000000 in
theorem refUnsigned_at (u : Int) (W : Nat) (hW : W = 1 ∨ W = 2 ∨ W = 4 ∨ W = 8) (h0 : 0 ≤ u) (h1 : u < 256 ^ W) (w : World) :
    Calls Tryz.prog 81 #[.int .u64 u, .int .i64 (W : Int)] w fun e w' => e = .returned (.int .u64 u) ∧ w' = w := by
  have cP := fun wx => power_at W hW wx
  rcases hW with rfl | rfl | rfl | rfl
  all_goals
    simp at h1
    have hm := Int.emod_eq_of_lt h0 h1
    simp [pwr] at cP
    go_enter Tryz.func81, Tryz.ntmps81
    go_wp2_with (first | (go_at_call 82; refine (cP _).mono ?_; rintro e w1 ⟨rfl, rfl⟩) | go_in)
    go_ret
    first | exact ⟨rfl, rfl⟩ | exact ⟨by simp [hm], rfl⟩
set_option maxHeartbeats 1000000 in
theorem refSigned_at (u : Int) (W : Nat) (hW : W = 1 ∨ W = 2 ∨ W = 4 ∨ W = 8) (h0 : 0 ≤ u) (h1 : u < 256 ^ W) (w : World) :
    Calls Tryz.prog 48 #[.int .u64 u, .int .i64 (W : Int)] w fun e w' => e = .returned (.int .i64 (ly.sgn u W)) ∧ w' = w := by
  have cU := fun wx => refUnsigned_at u W hW h0 h1 wx
  have cP := fun wx => power_at W hW wx
  rcases hW with rfl | rfl | rfl | rfl
  all_goals
    simp at h1
    simp [pwr] at cP
    go_enter Tryz.func48, Tryz.ntmps48
    go_wp2_with (first | (go_at_call 82; refine (cP _).mono ?_; rintro e w1 ⟨rfl, rfl⟩) | (go_at_call 81; refine (cU _).mono ?_; rintro e w1 ⟨rfl, rfl⟩) | go_in)
    all_goals
      go_ret
      exact ⟨num.ret_int (by simp only [ly.sgn]; simp [wrap64] <;> omega), rfl⟩
end Go.Proofs.YtococaecjecjgaaGreatDoor.words
namespace Go.Proofs.YtococaecjecjgaaGreatDoor.ly
set_option linter.unusedVariables false
open Go.ChangeShapes Go.WideShapes Go.ChangeAt Go.RowKit
open mem lx ex tm num

attribute [local go_sem] World.cell?_alloc_some
structure Bv (w w2 : World) (X Q P : Nat) (s : ByteArray) (l : List Ty) (st : St) (c : C) (sub : Its) : Prop where
  iv : Iv w2 X c
  rv : Nv w2 Q ⟨[], 0, 0, 0, 0, []⟩ none 0 0
  vw : Vw w2 P s l st (0, -1)
  it : ItL w2 (fun g => g < P) c sub
  bl : Bl w w2
  lt : P < X ∧ X < Q ∧ Q < w2.heap.size ∧ X = w.heap.size
theorem Bv.on {w w2 w3 : World} {X Q P : Nat} {s : ByteArray} {l : List Ty} {st : St} {c : C} {sub : Its} (h : Bv w w2 X Q P s l st c sub) (hb : Bl w2 w3) : Bv w w3 X Q P s l st c sub :=
  ⟨h.iv.bl hb, h.rv.bl hb, h.vw.bl hb, h.it.bl hb, h.bl.trans hb, h.lt.1, h.lt.2.1, Nat.lt_of_lt_of_le h.lt.2.2.1 hb.size, h.lt.2.2.2⟩
theorem Bv.new (w : World) (P : Nat) (s : ByteArray) (l : List Ty) (st : St) (c : C) (sub : Its) (h : Vw w P s l st (0, -1)) (hi : ItL w (fun g => g < P) c sub) :
    Bv w ((w.alloc (.cells #[.int .i64 (c.d.kd : Int), .int .i64 (c.d.at_ : Int), .string (tx c.d.nm), .string (tx c.d.ty), .int .i64 (c.d.wd : Int), .int .i64 (c.d.od : Int), .bool c.d.sg, .bool c.d.mn, .pointer c.pc, .int .i64 (c.d.ru : Int), .string (tx c.d.f1), .string (tx c.d.l1), .slice c.p c.n c.c] 60)).alloc (.cells #[.string ⟨#[]⟩, .int .i64 0, .int .i64 0, .int .i64 0, .int .i64 0, .string ⟨#[]⟩, .slice none 0 0] 27))
      w.heap.size (w.heap.size + 1) P s l st c sub := by
  have v1 := Iv.new w c
  generalize hw1 : w.alloc (.cells #[.int .i64 (c.d.kd : Int), .int .i64 (c.d.at_ : Int), .string (tx c.d.nm), .string (tx c.d.ty), .int .i64 (c.d.wd : Int), .int .i64 (c.d.od : Int), .bool c.d.sg, .bool c.d.mn, .pointer c.pc, .int .i64 (c.d.ru : Int), .string (tx c.d.f1), .string (tx c.d.l1), .slice c.p c.n c.c] 60) = w1 at *
  have e1 : w1.heap.size = w.heap.size + 1 := by rw [← hw1]; simp
  have b1 : Bl w w1 := by rw [← hw1]; exact (Bl.refl _).alloc _
  have b2 : Bl w1 (w1.alloc (.cells #[.string ⟨#[]⟩, .int .i64 0, .int .i64 0, .int .i64 0, .int .i64 0, .string ⟨#[]⟩, .slice none 0 0] 27)) := (Bl.refl _).alloc _
  have hP := h.lt'
  refine ⟨v1.bl b2, ?_, h.bl (b1.trans b2), hi.bl (b1.trans b2), b1.trans b2, hP, by omega, by simp [e1], rfl⟩
  rw [← e1]
  exact new_at _ _
theorem fin_view {w w2 : World} {P Q : Nat} {s : ByteArray} {l : List Ty} {st : St} {b : Er} {nd d0 : ND} {p p0 : Option Addr} {n0 c0 n c : Nat} (hq : Nv w2 Q d0 p0 n0 c0) (hv : Vw w2 P s l st b) (hg : Gp P w w2) (hQ : w.heap.size ≤ Q) (hP : P < Q) :
    Nv (st7 w2 Q nd p n c) Q nd p n c ∧ Gp P w (st7 w2 Q nd p n c) ∧ Vw (st7 w2 Q nd p n c) P s l st b ∧ Gp Q w2 (st7 w2 Q nd p n c) := by
  have hgs : Gq P Q w2 (st7 w2 Q nd p n c) := st7_gq P Q nd p n c
  have hgp : Gp Q w2 (st7 w2 Q nd p n c) := ⟨hgs.os, hgs.tape, hgs.output, hgs.size, fun j h1 h2 => (st7_gq (w := w2) Q Q nd p n c).block j h1 h2 h2⟩
  have hkx : Kx w2 (st7 w2 Q nd p n c) := fun b cs hb => by
    by_cases e : b = Q
    · subst e; unfold Nv at hq; rw [hb] at hq; simp at hq
    · exact (hgp.block b (lt_of_heap hb) e).trans hb
  obtain ⟨tp, tn, tc, h1, h2⟩ := hv.at_
  have hPs := lt_of_heap h1
  exact ⟨hq.store nd p n c, hgs.fresh hg hQ, ⟨⟨tp, tn, tc, (hgp.block P hPs (by omega)).trans h1, h2.keep (fun g hg' _ => hgp.block g (by omega) (by omega)) hgp.size hkx⟩, hv.a, hv.k, hv.sz⟩, hgp⟩
theorem size_view {w w6 : World} {P N Q : Nat} {s : ByteArray} {l : List Ty} {st : St} {b : Er} {d z : ND} {p p0 : Option Addr} {n c n0 c0 : Nat} (sz : Nat) (hv : Vw w6 P s l st b) (hN : Nv w6 N d p n c) (hR : Nv w6 Q z p0 n0 c0) (hg : Gp P w w6) (hNw : w.heap.size ≤ N) (hP : P < N) (hNQ : Q ≠ N) :
    Vw (w6.setCell ⟨N, 3, none⟩ (.int .i64 (sz : Int))).drew P s l st b ∧ Nv (w6.setCell ⟨N, 3, none⟩ (.int .i64 (sz : Int))).drew N { d with sz := sz } p n c ∧ Nv (w6.setCell ⟨N, 3, none⟩ (.int .i64 (sz : Int))).drew Q z p0 n0 c0 ∧ Gp P w (w6.setCell ⟨N, 3, none⟩ (.int .i64 (sz : Int))).drew ∧ Gp N w6 (w6.setCell ⟨N, 3, none⟩ (.int .i64 (sz : Int))).drew := by
  have hgn : Gp N w6 (w6.setCell ⟨N, 3, none⟩ (.int .i64 (sz : Int))).drew := (Gp.set _).trans (Gp.bl (Bl.refl _).drew)
  have hkx : Kx w6 (w6.setCell ⟨N, 3, none⟩ (.int .i64 (sz : Int))).drew := fun b cs hb => by
    by_cases e : b = N
    · subst e; unfold Nv at hN; rw [hb] at hN; simp at hN
    · exact (hgn.block b (lt_of_heap hb) e).trans hb
  obtain ⟨tp, tn, tc, h1, h2⟩ := hv.at_
  have hPs := lt_of_heap h1
  exact ⟨⟨⟨tp, tn, tc, (hgn.block P hPs (by omega)).trans h1, h2.keep (fun g hg' _ => hgn.block g (by omega) (by omega)) hgn.size hkx⟩, hv.a, hv.k, hv.sz⟩, (hN.setSz sz).bl (Bl.refl _).drew, (hgn.block Q hR.lt hNQ).trans hR,
    ⟨hgn.os.trans hg.os, hgn.tape.trans hg.tape, hgn.output.trans hg.output, Nat.le_trans hg.size hgn.size, fun j h1 h2 => (hgn.block j (Nat.lt_of_lt_of_le h1 hg.size) (by omega)).trans (hg.block j h1 h2)⟩, hgn⟩
theorem setn_view {w w6 : World} {P N Q X : Nat} {s : ByteArray} {l : List Ty} {st : St} {b : Er} {d z : ND} {p p0 : Option Addr} {n c n0 c0 : Nat} {cc : C} {x : Int} (hv : Vw w6 P s l st b) (hN : Nv w6 N d p n c) (hR : Nv w6 Q z p0 n0 c0) (hI : Iv w6 X cc) (hg : Gp P w w6) (hNw : w.heap.size ≤ N) (hP : P < N) (hNQ : Q ≠ N) (hNX : X ≠ N) :
    Vw (w6.setCell ⟨N, 4, none⟩ (.int .i64 x)) P s l st b ∧ Nv (w6.setCell ⟨N, 4, none⟩ (.int .i64 x)) N { d with n := x } p n c ∧ Nv (w6.setCell ⟨N, 4, none⟩ (.int .i64 x)) Q z p0 n0 c0 ∧ Iv (w6.setCell ⟨N, 4, none⟩ (.int .i64 x)) X cc ∧ Gp P w (w6.setCell ⟨N, 4, none⟩ (.int .i64 x)) := by
  have hgn : Gp N w6 (w6.setCell ⟨N, 4, none⟩ (.int .i64 x)) := Gp.set _
  have hkx : Kx w6 (w6.setCell ⟨N, 4, none⟩ (.int .i64 x)) := fun b cs hb => by
    by_cases e : b = N
    · subst e; unfold Nv at hN; rw [hb] at hN; simp at hN
    · exact (hgn.block b (lt_of_heap hb) e).trans hb
  obtain ⟨tp, tn, tc, h1, h2⟩ := hv.at_
  have hPs := lt_of_heap h1
  exact ⟨⟨⟨tp, tn, tc, (hgn.block P hPs (by omega)).trans h1, h2.keep (fun g hg' _ => hgn.block g (by omega) (by omega)) hgn.size hkx⟩, hv.a, hv.k, hv.sz⟩, hN.setN x, (hgn.block Q hR.lt hNQ).trans hR, hI.gp hgn hNX,
    ⟨hgn.os.trans hg.os, hgn.tape.trans hg.tape, hgn.output.trans hg.output, Nat.le_trans hg.size hgn.size, fun j h1 h2 => (hgn.block j (Nat.lt_of_lt_of_le h1 hg.size) (by omega)).trans (hg.block j h1 h2)⟩⟩
theorem gv_un (s : ByteArray) (a W : Nat) (o : Bool) (h : a + W ≤ s.size) : gv (fun i => num.sb (tx (((L s).drop a).take W)) (0 + pl W o i)) W = un (L s) a W o := by
  unfold un
  apply gv_congr
  intro i hi
  have hp := pl_lt o hi
  have e : num.sb (tx (((L s).drop a).take W)) (0 + pl W o i) = ((((L s).drop a).take W).getD (0 + pl W o i) 0).toNat := rfl
  rw [e, Nat.zero_add]
  congr 2
  rw [List.getD_eq_getElem?_getD, List.getD_eq_getElem?_getD, List.getElem?_take, if_pos hp, List.getElem?_drop]
theorem r64_0 : R64 0 := by unfold R64; omega
def ResN (q : Except Er (ND × Nds × St)) (nd : ND) (ks : Nds) (st : St) (b : Er) : Prop := match q with
  | .ok (nd', ks', st') => nd = nd' ∧ ks = ks' ∧ st = st' ∧ b = (0, -1)
  | .error er => b = er ∧ er.1 ≠ 0
def VoA (w : World) (P : Nat) (s : ByteArray) (l : List Ty) (a : Nat) (q : Except Er (ND × Nds × St)) (e : Ending) (w' : World) : Prop :=
  ∃ nd p c ks st' b, e = .returned (ndV nd p ks.len c) ∧ IsNs w' (fun g => w.heap.size ≤ g) p ks.len c ks ∧ Vw w' P s l st' b ∧ R64 nd.n ∧ a ≤ st'.1 ∧ ResN q nd ks st' b
set_option maxRecDepth 10000 in
set_option maxHeartbeats 4000000 in
theorem vone_num (w : World) (P : Nat) (s : ByteArray) (l : List Ty) (a k : Nat) (c : C) (sub : Its) (m : Value) (h : Vw w P s l (a, k) (0, -1)) (hi : ItL w (fun g => g < P) c sub) (hd : WD c.d) (h1 : c.d.kd = 1) (hk : k ≤ 400) (rec : Its → Env → St → Except Er (Nds × St)) (en : Env) :
    Calls Tryz.prog 22 #[.pointer (some ⟨P, 0, none⟩), itV c, m] w fun e w' => Gp P w w' ∧ VoA w P s l a (one (L s) l rec c.d sub en (a, k)) e w' := by
    obtain ⟨q, hq⟩ : ∃ q, q = one (L s) l rec c.d sub en (a, k) := ⟨_, rfl⟩
    have HQ : Hid (q = one (L s) l rec c.d sub en (a, k)) := hq
    rw [← hq]
    clear hq
    rw [itV_eq]
    have hB := Bv.new w P s l (a, k) c sub h hi
    obtain ⟨w2, hw2⟩ : ∃ w2, w2 = (w.alloc (.cells #[.int .i64 (c.d.kd : Int), .int .i64 (c.d.at_ : Int), .string (tx c.d.nm), .string (tx c.d.ty), .int .i64 (c.d.wd : Int), .int .i64 (c.d.od : Int), .bool c.d.sg, .bool c.d.mn, .pointer c.pc, .int .i64 (c.d.ru : Int), .string (tx c.d.f1), .string (tx c.d.l1), .slice c.p c.n c.c] 60)).alloc (.cells #[.string ⟨#[]⟩, .int .i64 0, .int .i64 0, .int .i64 0, .int .i64 0, .string ⟨#[]⟩, .slice none 0 0] 27) := ⟨_, rfl⟩
    obtain ⟨X, hX⟩ : ∃ X, X = w.heap.size := ⟨_, rfl⟩
    rw [← hw2, ← hX] at hB
    have HB2 : Hid (Bv w w2 X (X + 1) P s l (a, k) c sub) := hB
    have HB : Hid (Bv w w2.drew X (X + 1) P s l (a, k) c sub) := hB.on (Bl.refl _).drew
    obtain ⟨x0, x1, x2, x3, x4, x5, x6, x7, x8, x9, x10, x11, x12⟩ := HB.out.iv.facts
    obtain ⟨v1, v2, v3, v4, v5, vz⟩ := HB.out.vw.cells
    have hP2 := HB.out.vw.lt'
    have hX2 := HB.out.iv.lt
    have hQ2 := HB.out.rv.lt
    dsimp only at v2 v3
    have hk1 : ((c.d.kd : Int) == 1) = true := by rw [h1]; rfl
    have HH : Hid (WD c.d ∧ c.d.kd = 1 ∧ k ≤ 400) := ⟨hd, h1, hk⟩
    have mixed : Tryz.prog.follows Departure.mixedOrders = true := by kernel_rfl
    clear h1 hd hk h hi hB x1 x3 x4 x5 x6 x7 x8 x9 x10 x11 x12 v1 v3 v4 v5 vz
    go_enter Tryz.func22, Tryz.ntmps22
    go_upto_region 1 with fail
    rw [← hw2, ← hX]
    clear hw2 hX
    have x0a : w2.cell? ⟨X, 0, none⟩ = some (.int .i64 (c.d.kd : Int)) := x0
    have x0b : (w2.alloc (.cells #[.string ⟨#[]⟩, .int .i64 0, .int .i64 0, .int .i64 0, .int .i64 0, .string ⟨#[]⟩, .slice none 0 0] 27)).cell? ⟨X, 0, none⟩ = some (.int .i64 (c.d.kd : Int)) := at_bl ((Bl.refl _).alloc _) x0a
    have x0c : (w2.alloc (.cells #[.string ⟨#[]⟩, .int .i64 0, .int .i64 0, .int .i64 0, .int .i64 0, .string ⟨#[]⟩, .slice none 0 0] 27)).drew.cell? ⟨X, 0, none⟩ = some (.int .i64 (c.d.kd : Int)) := x0b
    have x2a : w2.cell? ⟨X, 2, none⟩ = some (.string (tx c.d.nm)) := x2
    have x2b : (w2.alloc (.cells #[.string ⟨#[]⟩, .int .i64 0, .int .i64 0, .int .i64 0, .int .i64 0, .string ⟨#[]⟩, .slice none 0 0] 27)).cell? ⟨X, 2, none⟩ = some (.string (tx c.d.nm)) := at_bl ((Bl.refl _).alloc _) x2a
    have x2c : (w2.alloc (.cells #[.string ⟨#[]⟩, .int .i64 0, .int .i64 0, .int .i64 0, .int .i64 0, .string ⟨#[]⟩, .slice none 0 0] 27)).drew.cell? ⟨X, 2, none⟩ = some (.string (tx c.d.nm)) := x2b
    have v2a : w2.cell? ⟨P, 2, none⟩ = some (.int .i64 (a : Int)) := v2
    have v2b : (w2.alloc (.cells #[.string ⟨#[]⟩, .int .i64 0, .int .i64 0, .int .i64 0, .int .i64 0, .string ⟨#[]⟩, .slice none 0 0] 27)).cell? ⟨P, 2, none⟩ = some (.int .i64 (a : Int)) := at_bl ((Bl.refl _).alloc _) v2a
    have v2c : (w2.alloc (.cells #[.string ⟨#[]⟩, .int .i64 0, .int .i64 0, .int .i64 0, .int .i64 0, .string ⟨#[]⟩, .slice none 0 0] 27)).drew.cell? ⟨P, 2, none⟩ = some (.int .i64 (a : Int)) := v2b
    go_region_o
    have HN : Hid (Bv w (w2.alloc (.cells #[.string (tx c.d.nm), .int .i64 (c.d.kd : Int), .int .i64 (a : Int), .int .i64 0, .int .i64 0, .string ⟨#[]⟩, .slice none 0 0] 27)).drew X (X + 1) P s l (a, k) c sub ∧ Nv (w2.alloc (.cells #[.string (tx c.d.nm), .int .i64 (c.d.kd : Int), .int .i64 (a : Int), .int .i64 0, .int .i64 0, .string ⟨#[]⟩, .slice none 0 0] 27)).drew w2.heap.size ⟨c.d.nm, c.d.kd, a, 0, 0, []⟩ none 0 0 ∧ X + 1 < w2.heap.size) := ⟨HB2.out.on ((Bl.refl _).alloc _).drew, new_at _ _, HB2.out.lt.2.2.1⟩
    generalize (w2.alloc (.cells #[.string (tx c.d.nm), .int .i64 (c.d.kd : Int), .int .i64 (a : Int), .int .i64 0, .int .i64 0, .string ⟨#[]⟩, .slice none 0 0] 27)).drew = w3 at HN ⊢
    generalize w2.heap.size = N at HN ⊢
    clear x0 x2 v2 hP2 hX2 hQ2 x0a x0b x0c x2a x2b x2c v2a v2b v2c
    have cB := begin_at w3 P s l a k (0, -1) HN.out.1.vw (by have := HH.out.2.2; omega)
    go_wp2_with fail
    refine cB.mono ?_
    rintro e w4 ⟨rfl, hv4, hg4⟩
    clear cB
    obtain ⟨d1, d2, d3, d4, d5, dz⟩ := hv4.cells
    have hP4 := hv4.lt'
    have hlt := HN.out.1.lt
    have hXN := HN.out.2.2
    have hI4 := HN.out.1.iv.gp hg4 (by omega)
    have hR4 := HN.out.1.rv.gp hg4 (by omega)
    have hN4 := HN.out.2.1.gp hg4 (by omega)
    have hit4 : ItL w4 (fun g => g < P) c sub := HN.out.1.it.keep (fun g h1 h2 => hg4.block g h2 (by omega)) hg4.size (HN.out.1.vw.kx hg4)
    have H4 : Hid (Vw w4 P s l (a, k + 1) (if 400 < k + 1 then wrg (0, -1) 4 a else (0, -1)) ∧ Gp P w3 w4 ∧ Iv w4 X c ∧ Nv w4 (X + 1) ⟨[], 0, 0, 0, 0, []⟩ none 0 0 ∧ Nv w4 N ⟨c.d.nm, c.d.kd, a, 0, 0, []⟩ none 0 0 ∧ ItL w4 (fun g => g < P) c sub) := ⟨hv4, hg4, hI4, hR4, hN4, hit4⟩
    clear d1 d3 dz hv4 hg4 hI4 hR4 hN4 hit4 hlt
    by_cases hk4 : 400 < k + 1
    · have e4 : (if 400 < k + 1 then wrg (0, -1) 4 a else ((0, -1) : Er)) = (4, (a : Int)) := by rw [if_pos hk4]; rfl
      rw [e4] at H4 d4 d5
      dsimp only at d2 d4 d5
      have cI := Is_at 4 (a : Int)
      have hqe : q = .error (4, (a : Int)) := by rw [HQ.out]; unfold one; rw [if_pos (by have := HH.out.2.2; show k = 400; omega)]
      subst hqe
      have hI := H4
      clear e4 hk4
      go_wp2_with fail
      refine (cI _).mono ?_
      rintro e w5 ⟨rfl, hb5⟩
      have hN5 := H4.out.2.2.2.2.1.bl hb5
      have hR5 := H4.out.2.2.2.1.bl hb5
      have hgw : Gp P w w5 := ((Gp.bl HN.out.1.bl).trans H4.out.2.1).trans (Gp.bl hb5)
      have HF := fin_view (nd := ⟨c.d.nm, c.d.kd, a, 0, 0, []⟩) (p := none) (n := 0) (c := 0) hR5 (H4.out.1.bl hb5) hgw (by have := HN.out.1.lt; omega) (by have := HN.out.1.lt; omega)
      have HFH : Hid _ := HF
      obtain ⟨n0, n1, n2, n3, n4, n5, n6⟩ := hN5.cells
      obtain ⟨r0, r1, r2, r3, r4, r5, r6⟩ := hR5.cells
      obtain ⟨q0, q1, q2, q3, q4, q5, q6⟩ := hR5.fz
      dsimp only at n0 n1 n2 n3 n4 n5 n6 r0 r1 r2 r3 r4 r5 r6
      have hN5s := hN5.lt
      have hR5s := hR5.lt
      clear hb5 hN5 hR5 hgw HF d2 d4 d5 cI hI
      go_wp2
      exact bodyPost_ret (v := ndV ⟨c.d.nm, c.d.kd, a, 0, 0, []⟩ none 0 0) (results_cell_row rfl _ _ (X + 1) 27 _ (0, 0) _ rfl HFH.out.1 Tryz.underlying27 rfl infoN) rfl ⟨HFH.out.2.1, ⟨c.d.nm, c.d.kd, a, 0, 0, []⟩, none, 0, .nil, (a, k + 1), (4, (a : Int)), rfl, IsNs.none _ _, HFH.out.2.2.1, r64_0, Nat.le_refl _, rfl, show (4 : Int) ≠ 0 by decide⟩
    · have e4 : (if 400 < k + 1 then wrg (0, -1) 4 a else ((0, -1) : Er)) = (0, -1) := if_neg hk4
      rw [e4] at H4 d4 d5
      dsimp only at d2 d4 d5
      have cI := Is_at 0 (-1)
      have x := H4.out.2.2.1.facts
      obtain ⟨x0, x1, x2, x3, x4, x5, x6, x7, x8, x9, x10, x11, x12⟩ := x
      have HK : Hid (k < 400) := (by omega : k < 400)
      clear e4 hk4
      go_wp2_with fail
      refine (cI _).mono ?_
      rintro e w5 ⟨rfl, hb5⟩
      have x0' := at_bl hb5 x0
      have x4' := at_bl hb5 x4
      have x5' := at_bl hb5 x5
      have x6' := at_bl hb5 x6
      have H5 : Hid (Vw w5 P s l (a, k + 1) (0, -1) ∧ Gp P w w5 ∧ Iv w5 X c ∧ Nv w5 (X + 1) ⟨[], 0, 0, 0, 0, []⟩ none 0 0 ∧ Nv w5 N ⟨c.d.nm, c.d.kd, a, 0, 0, []⟩ none 0 0) := ⟨H4.out.1.bl hb5, ((Gp.bl HN.out.1.bl).trans H4.out.2.1).trans (Gp.bl hb5), H4.out.2.2.1.bl hb5, H4.out.2.2.2.1.bl hb5, H4.out.2.2.2.2.1.bl hb5⟩
      have hX5 := H5.out.2.2.1.lt
      have hW := num_cases HH.out.1 HH.out.2.1
      have cY := vbytes_at w5 P s l a (k + 1) (0, -1) (c.d.wd : Int) H5.out.1
      clear cI hb5 x0 x1 x2 x3 x4 x5 x6 x7 x8 x9 x10 x11 x12 d2 d4 d5 hW
      go_wp2_with fail
      refine cY.mono ?_
      rintro e w6 ⟨hg6, hans⟩
      have hlt := HN.out.1.lt
      have hXN := HN.out.2.2
      have hI6 := H5.out.2.2.1.gp hg6 (by omega)
      have hR6 := H5.out.2.2.2.1.gp hg6 (by omega)
      have hN6 := H5.out.2.2.2.2.gp hg6 (by omega)
      clear cY x0' x4' x5' x6'
      rcases hans with ⟨hC, rfl, hv6⟩ | ⟨_, hne, _, _⟩ | ⟨hC, _, rfl, hv6⟩
      · have hqe : q = .error (3, (a : Int)) := by
          rw [HQ.out]; unfold one
          rw [if_neg (by have := HK.out; dsimp only; omega)]
          unfold body
          rw [if_pos HH.out.2.1, if_neg (by rw [L_len]; omega)]
        subst hqe
        have hw3 : wrg (0, -1) 3 a = (3, (a : Int)) := rfl
        rw [hw3] at hv6
        have H6 : Hid (Vw w6.drew P s l (a, k + 1) (3, (a : Int)) ∧ Gp P w w6.drew ∧ Nv w6.drew (X + 1) ⟨[], 0, 0, 0, 0, []⟩ none 0 0 ∧ Nv w6.drew N ⟨c.d.nm, c.d.kd, a, 0, 0, []⟩ none 0 0) := ⟨hv6.bl (Bl.refl _).drew, (H5.out.2.1.trans hg6).trans (Gp.bl (Bl.refl _).drew), hR6.bl (Bl.refl _).drew, hN6.bl (Bl.refl _).drew⟩
        obtain ⟨d1, d2, d3, d4, d5, dz⟩ := H6.out.1.cells
        obtain ⟨n0, n1, n2, n3, n4, n5, n6⟩ := H6.out.2.2.2.cells
        obtain ⟨y0, y1, y2, y3, y4, y5, y6⟩ := H6.out.2.2.2.fz
        dsimp only at d2 n2 n3
        have d2' : w6.cell? ⟨P, 2, none⟩ = some (.int .i64 (a : Int)) := d2
        have n2' : w6.cell? ⟨N, 2, none⟩ = some (.int .i64 (a : Int)) := n2
        have n3' : w6.cell? ⟨N, 3, none⟩ = some (.int .i64 ((0 : Nat) : Int)) := n3
        have hN6s := hN6.lt
        have hP6s := hv6.lt'
        have HS : Hid _ := size_view (N := N) 0 hv6 hN6 hR6 (H5.out.2.1.trans hg6) (by omega) (by omega) (by omega)
        clear hlt hXN hg6 hI6 hR6 hv6 hN6 d1 d3 d4 d5 dz n0 n1 n4 n5 n6 y0 y1 y2 y4 y5 y6 hC
        go_upto_region 21 with fail
        go_region_o
        have HS7 := HS.out
        rw [show ((0 : Nat) : Int) = 0 from rfl] at HS7
        have HS8 : Hid _ := HS7
        clear HS HS7 d2 n2 n3 y3 d2' n2' n3' hN6s hP6s
        generalize (w6.setCell ⟨N, 3, none⟩ (.int .i64 0)).drew = w7 at HS8 ⊢
        have HF := fin_view (nd := ⟨c.d.nm, c.d.kd, a, 0, 0, []⟩) (p := none) (n := 0) (c := 0) HS8.out.2.2.1 HS8.out.1 HS8.out.2.2.2.1 (by have := HN.out.1.lt; omega) (by have := HN.out.1.lt; omega)
        have HFH : Hid _ := HF
        obtain ⟨n0, n1, n2, n3, n4, n5, n6⟩ := HS8.out.2.1.cells
        obtain ⟨r0, r1, r2, r3, r4, r5, r6⟩ := HS8.out.2.2.1.cells
        obtain ⟨q0, q1, q2, q3, q4, q5, q6⟩ := HS8.out.2.2.1.fz
        dsimp only at n0 n1 n2 n3 n4 n5 n6 r0 r1 r2 r3 r4 r5 r6
        have hN7s := HS8.out.2.1.lt
        have hR7s := HS8.out.2.2.1.lt
        clear HF
        go_wp2
        exact bodyPost_ret (v := ndV ⟨c.d.nm, c.d.kd, a, 0, 0, []⟩ none 0 0) (results_cell_row rfl _ _ (X + 1) 27 _ (0, 0) _ rfl HFH.out.1 Tryz.underlying27 rfl infoN) rfl ⟨HFH.out.2.1, ⟨c.d.nm, c.d.kd, a, 0, 0, []⟩, none, 0, .nil, (a, k + 1), (3, (a : Int)), rfl, IsNs.none _ _, HFH.out.2.2.1, r64_0, Nat.le_refl _, rfl, show (3 : Int) ≠ 0 by decide⟩
      · exact absurd rfl hne
      · have hle : a + c.d.wd ≤ s.size := by omega
        obtain ⟨hw, ho⟩ := num_cases HH.out.1 HH.out.2.1
        have hWn : c.d.wd = 1 ∨ c.d.wd = 2 ∨ c.d.wd = 4 ∨ c.d.wd = 8 := by omega
        have hO : (if (c.d.od == 1) then (1 : Int) else 0) = (c.d.od : Int) := by rcases ho with e | e <;> rw [e] <;> rfl
        rw [Int.toNat_natCast] at hv6 ⊢
        obtain ⟨TS, hTS⟩ : ∃ TS, TS = tx (((L s).drop a).take c.d.wd) := ⟨_, rfl⟩
        have hTl : TS.size = c.d.wd := by rw [hTS, tx_size, List.length_take, List.length_drop, L_len]; omega
        have hTe : TS.toList.isEmpty = false := by
          rw [hTS, tl_tx]
          cases hq : ((L s).drop a).take c.d.wd with
          | nil => exfalso; have := congrArg List.length hq; rw [List.length_take, List.length_drop, L_len] at this; simp at this; omega
          | cons x r => rfl
        have hub := un_bd (L s) a c.d.wd (c.d.od == 1)
        have hgv := gv_un s a c.d.wd (c.d.od == 1) hle
        rw [← hTS] at hgv ⊢
        have cW : ∀ wx, Calls Tryz.prog 47 #[.string TS, .int .i64 0, .int .i64 (c.d.wd : Int), .int .i64 (c.d.od : Int)] wx fun e w' => e = .returned (.tuple #[.int .u64 (un (L s) a c.d.wd (c.d.od == 1)), .int .i64 0]) ∧ w' = wx := fun wx => by
          have := words.refGet_any TS 0 c.d.wd (c.d.od == 1) (c.d.od : Int) wx hO (by unfold words.okW; omega) (by omega) (by omega)
          rw [hgv] at this
          exact this
        obtain ⟨u, hu⟩ : ∃ u, u = un (L s) a c.d.wd (c.d.od == 1) := ⟨_, rfl⟩
        rw [← hu] at hub cW
        have cS := fun wx => words.refSigned_at u c.d.wd hWn hub.1 hub.2 wx
        have hqe : q = .ok (⟨c.d.nm, 1, a, c.d.wd, num c.d u, []⟩, .nil, (a + c.d.wd, k + 1)) := by
          rw [HQ.out]; unfold one
          rw [if_neg (by have := HK.out; dsimp only; omega)]
          unfold body
          rw [if_pos HH.out.2.1, if_pos (by rw [L_len]; exact hle), ← hu]
        subst hqe
        have i4 := hI6.facts.2.2.2.2.1
        have i5 := hI6.facts.2.2.2.2.2.1
        have i6 := hI6.facts.2.2.2.2.2.2.1
        have hIs := hI6.lt
        have n4 := hN6.cells.2.2.2.2.1
        have y4 := hN6.fz.2.2.2.2.1
        have hNs := hN6.lt
        have H6 : Hid (Vw w6 P s l (a + c.d.wd, k + 1) (0, -1) ∧ Gp P w w6 ∧ Nv w6 (X + 1) ⟨[], 0, 0, 0, 0, []⟩ none 0 0 ∧ Nv w6 N ⟨c.d.nm, c.d.kd, a, 0, 0, []⟩ none 0 0 ∧ Iv w6 X c) := ⟨hv6, H5.out.2.1.trans hg6, hR6, hN6, hI6⟩
        have hu32 : c.d.sg = false → u < 4294967296 := by
          intro hs
          rcases hw with e | e | e | ⟨e, e2⟩
          · rw [e] at hub; simp at hub; omega
          · rw [e] at hub; simp at hub; omega
          · rw [e] at hub; simp at hub; omega
          · rw [hs] at e2; cases e2
        have hr64 := num_r64 HH.out.1 HH.out.2.1 (L s) a (c.d.od == 1)
        rw [← hu] at hr64
        have HU : Hid ((c.d.sg = false → u < 4294967296) ∧ 0 ≤ u ∧ R64 (num c.d u)) := ⟨hu32, hub.1, hr64⟩
        clear hv6 hg6 hI6 hR6 hN6 hlt hXN hC hle hw ho hWn hO hTS hTl hub hgv hu hu32 hr64
        go_wp2_with fail
        refine (cW _).mono ?_
        rintro e w7 ⟨rfl, h7⟩
        have h7' := h7.symm
        subst h7'
        clear h7 cW
        have H7 := setn_view (x := wrap64 u) H6.out.1 H6.out.2.2.2.1 H6.out.2.2.1 H6.out.2.2.2.2 H6.out.2.1 (by have := HN.out.1.lt; have := HN.out.2.2; omega) (by have := HN.out.1.lt; have := HN.out.2.2; omega) (by have := HN.out.2.2; omega) (by have := HN.out.2.2; omega)
        by_cases hsg : c.d.sg = true
        · have HSG : Hid (c.d.sg = true) := hsg
          rw [hsg] at i6
          clear hsg
          have H7H : Hid _ := H7
          clear H7
          have cS' : ∀ wx, Calls Tryz.prog 48 #[.int .u64 u, .int .i64 (c.d.wd : Int)] wx fun e w' => e = .returned (.int .i64 (sgn u c.d.wd)) ∧ w' = wx := cS
          clear cS
          obtain ⟨V, hV⟩ : ∃ V, V = sgn u c.d.wd := ⟨_, rfl⟩
          rw [← hV] at cS'
          have HV : Hid (num c.d u = V) := by show num c.d u = V; unfold num; rw [if_pos HSG.out, hV]
          clear hV
          go_upto_region 14 with fail
          generalize w6.setCell ⟨N, 4, none⟩ (.int .i64 (wrap64 u)) = w8 at H7H ⊢
          have H9 : Hid _ := setn_view (x := V) H7H.out.1 H7H.out.2.1 H7H.out.2.2.1 H7H.out.2.2.2.1 H7H.out.2.2.2.2 (by have := HN.out.1.lt; have := HN.out.2.2; omega) (by have := HN.out.1.lt; have := HN.out.2.2; omega) (by have := HN.out.2.2; omega) (by have := HN.out.2.2; omega)
          clear i4 i5 i6 n4 y4 hIs hNs
          have i4 := H7H.out.2.2.2.1.facts.2.2.2.2.1
          have n4 := H7H.out.2.1.cells.2.2.2.2.1
          have y4 := H7H.out.2.1.fz.2.2.2.2.1
          have hIs := H7H.out.2.2.2.1.lt
          have hNs := H7H.out.2.1.lt
          dsimp only at n4
          go_upto_region 21 with (go_at_call 48; refine (cS' _).mono ?_; rintro e w8' ⟨rfl, h8⟩; have h8' := h8.symm; subst h8'; clear h8)
          clear cS' i4 n4 y4 hIs hNs
          generalize w8.setCell ⟨N, 4, none⟩ (.int .i64 V) = w9 at H9 ⊢
          obtain ⟨B, hB⟩ : ∃ B, B = a + c.d.wd := ⟨_, rfl⟩
          have hwr : IntKind.i64.wrap ((B : Int) - (a : Int)) = (c.d.wd : Int) := by rw [IntKind.wrap_i64]; have := H9.out.1.a; have := H9.out.1.sz; dsimp only at *; omega
          have HS : Hid _ := size_view (N := N) c.d.wd H9.out.1 H9.out.2.1 H9.out.2.2.1 H9.out.2.2.2.2 (by have := HN.out.1.lt; have := HN.out.2.2; omega) (by have := HN.out.1.lt; have := HN.out.2.2; omega) (by have := HN.out.2.2; omega)
          have H9d : Hid (Vw w9.drew P s l (a + c.d.wd, k + 1) (0, -1) ∧ Nv w9.drew N ⟨c.d.nm, c.d.kd, a, 0, V, []⟩ none 0 0) := ⟨H9.out.1.bl (Bl.refl _).drew, H9.out.2.1.bl (Bl.refl _).drew⟩
          obtain ⟨d1, d2, d3, d4, d5, dz⟩ := H9d.out.1.cells
          obtain ⟨n0, n1, n2, n3, n4, n5, n6⟩ := H9d.out.2.cells
          obtain ⟨y0, y1, y2, y3, y4, y5, y6⟩ := H9d.out.2.fz
          dsimp only at d2 n2 n3
          rw [← hB] at d2
          have d2' : w9.cell? ⟨P, 2, none⟩ = some (.int .i64 (B : Int)) := d2
          have n2' : w9.cell? ⟨N, 2, none⟩ = some (.int .i64 (a : Int)) := n2
          have n3' : w9.cell? ⟨N, 3, none⟩ = some (.int .i64 ((0 : Nat) : Int)) := n3
          have hN9s := H9.out.2.1.lt
          have hP9s := H9.out.1.lt'
          clear d1 d3 d4 d5 dz n0 n1 n4 n5 n6 y0 y1 y2 y4 y5 y6 hB
          go_region_o
          have hW7 : (w9.setCell ⟨N, 3, none⟩ (.int .i64 (c.d.wd : Int))).drew = (w9.setCell ⟨N, 3, none⟩ (.int .i64 (c.d.wd : Int))).drew := rfl
          clear hW7 d2 n2 n3 y3 d2' n2' n3' hN9s hP9s hwr
          generalize (w9.setCell ⟨N, 3, none⟩ (.int .i64 (c.d.wd : Int))).drew = w7 at HS ⊢
          have HF := fin_view (nd := ⟨c.d.nm, c.d.kd, a, c.d.wd, V, []⟩) (p := none) (n := 0) (c := 0) HS.out.2.2.1 HS.out.1 HS.out.2.2.2.1 (by have := HN.out.1.lt; omega) (by have := HN.out.1.lt; omega)
          have HFH : Hid _ := HF
          obtain ⟨n0, n1, n2, n3, n4, n5, n6⟩ := HS.out.2.1.cells
          obtain ⟨r0, r1, r2, r3, r4, r5, r6⟩ := HS.out.2.2.1.cells
          obtain ⟨q0, q1, q2, q3, q4, q5, q6⟩ := HS.out.2.2.1.fz
          dsimp only at n0 n1 n2 n3 n4 n5 n6 r0 r1 r2 r3 r4 r5 r6
          have hN7s := HS.out.2.1.lt
          have hR7s := HS.out.2.2.1.lt
          clear HF
          go_wp2
          refine bodyPost_ret (v := ndV ⟨c.d.nm, c.d.kd, a, c.d.wd, V, []⟩ none 0 0) (results_cell_row rfl _ _ (X + 1) 27 _ (0, 0) _ rfl HFH.out.1 Tryz.underlying27 rfl infoN) rfl ⟨HFH.out.2.1, ⟨c.d.nm, c.d.kd, a, c.d.wd, V, []⟩, none, 0, .nil, (a + c.d.wd, k + 1), (0, -1), rfl, IsNs.none _ _, HFH.out.2.2.1, by rw [← HV.out]; exact HU.out.2.2, Nat.le_add_right _ _, ?_, rfl, rfl, rfl⟩
          rw [HV.out, HH.out.2.1]
        · have hsf : c.d.sg = false := by simpa using hsg
          have HSG : Hid (c.d.sg = false) := hsf
          have hu64 : wrap64 u = u := by have := HU.out.1 hsf; have := HU.out.2.1; unfold wrap64; omega
          rw [hsf] at i6
          rw [hu64] at H7
          have H9 : Hid _ := H7
          obtain ⟨V, hV⟩ : ∃ V, V = u := ⟨_, rfl⟩
          have HV : Hid (num c.d u = V) := by show num c.d u = V; unfold num; rw [if_neg (by rw [hsf]; decide), hV]
          clear H7 hsg hsf
          rw [← hV] at H9
          go_upto_region 21 with fail
          rw [← hV]
          clear hV cS i4 i5 i6 n4 y4 hIs hNs hu64
          generalize w6.setCell ⟨N, 4, none⟩ (.int .i64 V) = w9 at H9 ⊢
          obtain ⟨B, hB⟩ : ∃ B, B = a + c.d.wd := ⟨_, rfl⟩
          have hwr : IntKind.i64.wrap ((B : Int) - (a : Int)) = (c.d.wd : Int) := by rw [IntKind.wrap_i64]; have := H9.out.1.a; have := H9.out.1.sz; dsimp only at *; omega
          have HS : Hid _ := size_view (N := N) c.d.wd H9.out.1 H9.out.2.1 H9.out.2.2.1 H9.out.2.2.2.2 (by have := HN.out.1.lt; have := HN.out.2.2; omega) (by have := HN.out.1.lt; have := HN.out.2.2; omega) (by have := HN.out.2.2; omega)
          have H9d : Hid (Vw w9.drew P s l (a + c.d.wd, k + 1) (0, -1) ∧ Nv w9.drew N ⟨c.d.nm, c.d.kd, a, 0, V, []⟩ none 0 0) := ⟨H9.out.1.bl (Bl.refl _).drew, H9.out.2.1.bl (Bl.refl _).drew⟩
          obtain ⟨d1, d2, d3, d4, d5, dz⟩ := H9d.out.1.cells
          obtain ⟨n0, n1, n2, n3, n4, n5, n6⟩ := H9d.out.2.cells
          obtain ⟨y0, y1, y2, y3, y4, y5, y6⟩ := H9d.out.2.fz
          dsimp only at d2 n2 n3
          rw [← hB] at d2
          have d2' : w9.cell? ⟨P, 2, none⟩ = some (.int .i64 (B : Int)) := d2
          have n2' : w9.cell? ⟨N, 2, none⟩ = some (.int .i64 (a : Int)) := n2
          have n3' : w9.cell? ⟨N, 3, none⟩ = some (.int .i64 ((0 : Nat) : Int)) := n3
          have hN9s := H9.out.2.1.lt
          have hP9s := H9.out.1.lt'
          clear d1 d3 d4 d5 dz n0 n1 n4 n5 n6 y0 y1 y2 y4 y5 y6 hB
          go_region_o
          have hW7 : (w9.setCell ⟨N, 3, none⟩ (.int .i64 (c.d.wd : Int))).drew = (w9.setCell ⟨N, 3, none⟩ (.int .i64 (c.d.wd : Int))).drew := rfl
          clear hW7 d2 n2 n3 y3 d2' n2' n3' hN9s hP9s hwr
          generalize (w9.setCell ⟨N, 3, none⟩ (.int .i64 (c.d.wd : Int))).drew = w7 at HS ⊢
          have HF := fin_view (nd := ⟨c.d.nm, c.d.kd, a, c.d.wd, V, []⟩) (p := none) (n := 0) (c := 0) HS.out.2.2.1 HS.out.1 HS.out.2.2.2.1 (by have := HN.out.1.lt; omega) (by have := HN.out.1.lt; omega)
          have HFH : Hid _ := HF
          obtain ⟨n0, n1, n2, n3, n4, n5, n6⟩ := HS.out.2.1.cells
          obtain ⟨r0, r1, r2, r3, r4, r5, r6⟩ := HS.out.2.2.1.cells
          obtain ⟨q0, q1, q2, q3, q4, q5, q6⟩ := HS.out.2.2.1.fz
          dsimp only at n0 n1 n2 n3 n4 n5 n6 r0 r1 r2 r3 r4 r5 r6
          have hN7s := HS.out.2.1.lt
          have hR7s := HS.out.2.2.1.lt
          clear HF
          go_wp2
          refine bodyPost_ret (v := ndV ⟨c.d.nm, c.d.kd, a, c.d.wd, V, []⟩ none 0 0) (results_cell_row rfl _ _ (X + 1) 27 _ (0, 0) _ rfl HFH.out.1 Tryz.underlying27 rfl infoN) rfl ⟨HFH.out.2.1, ⟨c.d.nm, c.d.kd, a, c.d.wd, V, []⟩, none, 0, .nil, (a + c.d.wd, k + 1), (0, -1), rfl, IsNs.none _ _, HFH.out.2.2.1, by rw [← HV.out]; exact HU.out.2.2, Nat.le_add_right _ _, ?_, rfl, rfl, rfl⟩
          rw [HV.out, HH.out.2.1]
end Go.Proofs.YtococaecjecjgaaGreatDoor.ly
namespace Go.Proofs.YtococaecjecjgaaGreatDoor.ly
set_option linter.unusedVariables false
open Go.ChangeShapes Go.WideShapes Go.ChangeAt Go.RowKit
open mem lx ex tm num

attribute [local go_sem] World.cell?_alloc_some
theorem sett_view {w w6 : World} {P N Q X : Nat} {s : ByteArray} {l : List Ty} {st : St} {b : Er} {d z : ND} {p p0 : Option Addr} {n c n0 c0 : Nat} {cc : C} {x : List UInt8} (hv : Vw w6 P s l st b) (hN : Nv w6 N d p n c) (hR : Nv w6 Q z p0 n0 c0) (hI : Iv w6 X cc) (hg : Gp P w w6) (hNw : w.heap.size ≤ N) (hP : P < N) (hNQ : Q ≠ N) (hNX : X ≠ N) :
    Vw (w6.setCell ⟨N, 5, none⟩ (.string (tx x))) P s l st b ∧ Nv (w6.setCell ⟨N, 5, none⟩ (.string (tx x))) N { d with tx := x } p n c ∧ Nv (w6.setCell ⟨N, 5, none⟩ (.string (tx x))) Q z p0 n0 c0 ∧ Iv (w6.setCell ⟨N, 5, none⟩ (.string (tx x))) X cc ∧ Gp P w (w6.setCell ⟨N, 5, none⟩ (.string (tx x))) := by
  have hgn : Gp N w6 (w6.setCell ⟨N, 5, none⟩ (.string (tx x))) := Gp.set _
  have hkx : Kx w6 (w6.setCell ⟨N, 5, none⟩ (.string (tx x))) := fun b cs hb => by
    by_cases e : b = N
    · subst e; unfold Nv at hN; rw [hb] at hN; simp at hN
    · exact (hgn.block b (lt_of_heap hb) e).trans hb
  obtain ⟨tp, tn, tc, h1, h2⟩ := hv.at_
  have hPs := lt_of_heap h1
  exact ⟨⟨⟨tp, tn, tc, (hgn.block P hPs (by omega)).trans h1, h2.keep (fun g hg' _ => hgn.block g (by omega) (by omega)) hgn.size hkx⟩, hv.a, hv.k, hv.sz⟩, hN.setT x, (hgn.block Q hR.lt hNQ).trans hR, hI.gp hgn hNX,
    ⟨hgn.os.trans hg.os, hgn.tape.trans hg.tape, hgn.output.trans hg.output, Nat.le_trans hg.size hgn.size, fun j h1 h2 => (hgn.block j (Nat.lt_of_lt_of_le h1 hg.size) (by omega)).trans (hg.block j h1 h2)⟩⟩
set_option maxRecDepth 10000 in
set_option maxHeartbeats 4000000 in
theorem vone_bytes (w : World) (P : Nat) (s : ByteArray) (l : List Ty) (a k : Nat) (c : C) (sub : Its) (m2 k0 : Nat) (h : Vw w P s l (a, k) (0, -1)) (hi : ItL w (fun g => g < P) c sub) (hd : WD c.d) (h1 : c.d.kd = 2) (hk : k ≤ 400) (rec : Its → Env → St → Except Er (Nds × St)) (en : Env) (hm : Om w m2 en k0) (hP2m : P < m2) :
    Calls Tryz.prog 22 #[.pointer (some ⟨P, 0, none⟩), itV c, .map (some m2)] w fun e w' => Gp P w w' ∧ VoA w P s l a (one (L s) l rec c.d sub en (a, k)) e w' := by
    obtain ⟨q, hq⟩ : ∃ q, q = one (L s) l rec c.d sub en (a, k) := ⟨_, rfl⟩
    have HQ : Hid (q = one (L s) l rec c.d sub en (a, k)) := hq
    rw [← hq]
    clear hq
    rw [itV_eq]
    have hB := Bv.new w P s l (a, k) c sub h hi
    obtain ⟨w2, hw2⟩ : ∃ w2, w2 = (w.alloc (.cells #[.int .i64 (c.d.kd : Int), .int .i64 (c.d.at_ : Int), .string (tx c.d.nm), .string (tx c.d.ty), .int .i64 (c.d.wd : Int), .int .i64 (c.d.od : Int), .bool c.d.sg, .bool c.d.mn, .pointer c.pc, .int .i64 (c.d.ru : Int), .string (tx c.d.f1), .string (tx c.d.l1), .slice c.p c.n c.c] 60)).alloc (.cells #[.string ⟨#[]⟩, .int .i64 0, .int .i64 0, .int .i64 0, .int .i64 0, .string ⟨#[]⟩, .slice none 0 0] 27) := ⟨_, rfl⟩
    obtain ⟨X, hX⟩ : ∃ X, X = w.heap.size := ⟨_, rfl⟩
    rw [← hw2, ← hX] at hB
    have HB2 : Hid (Bv w w2 X (X + 1) P s l (a, k) c sub) := hB
    have HB : Hid (Bv w w2.drew X (X + 1) P s l (a, k) c sub) := hB.on (Bl.refl _).drew
    obtain ⟨x0, x1, x2, x3, x4, x5, x6, x7, x8, x9, x10, x11, x12⟩ := HB.out.iv.facts
    obtain ⟨v1, v2, v3, v4, v5, vz⟩ := HB.out.vw.cells
    have hP2 := HB.out.vw.lt'
    have hX2 := HB.out.iv.lt
    have hQ2 := HB.out.rv.lt
    dsimp only at v2 v3
    have hk1 : ((c.d.kd : Int) == 1) = false := by rw [h1]; rfl
    have hk2 : ((c.d.kd : Int) == 2) = true := by rw [h1]; rfl
    have HH : Hid (WD c.d ∧ c.d.kd = 2 ∧ k ≤ 400) := ⟨hd, h1, hk⟩
    have HMM : Hid (Om w m2 en k0 ∧ P < m2) := ⟨hm, hP2m⟩
    have mixed : Tryz.prog.follows Departure.mixedOrders = true := by kernel_rfl
    clear hm hP2m h1 hd hk h hi hB x1 x3 x4 x5 x6 x7 x8 x9 x10 x11 x12 v1 v3 v4 v5 vz
    go_enter Tryz.func22, Tryz.ntmps22
    go_upto_region 1 with fail
    rw [← hw2, ← hX]
    clear hw2 hX
    have x0a : w2.cell? ⟨X, 0, none⟩ = some (.int .i64 (c.d.kd : Int)) := x0
    have x0b : (w2.alloc (.cells #[.string ⟨#[]⟩, .int .i64 0, .int .i64 0, .int .i64 0, .int .i64 0, .string ⟨#[]⟩, .slice none 0 0] 27)).cell? ⟨X, 0, none⟩ = some (.int .i64 (c.d.kd : Int)) := at_bl ((Bl.refl _).alloc _) x0a
    have x0c : (w2.alloc (.cells #[.string ⟨#[]⟩, .int .i64 0, .int .i64 0, .int .i64 0, .int .i64 0, .string ⟨#[]⟩, .slice none 0 0] 27)).drew.cell? ⟨X, 0, none⟩ = some (.int .i64 (c.d.kd : Int)) := x0b
    have x2a : w2.cell? ⟨X, 2, none⟩ = some (.string (tx c.d.nm)) := x2
    have x2b : (w2.alloc (.cells #[.string ⟨#[]⟩, .int .i64 0, .int .i64 0, .int .i64 0, .int .i64 0, .string ⟨#[]⟩, .slice none 0 0] 27)).cell? ⟨X, 2, none⟩ = some (.string (tx c.d.nm)) := at_bl ((Bl.refl _).alloc _) x2a
    have x2c : (w2.alloc (.cells #[.string ⟨#[]⟩, .int .i64 0, .int .i64 0, .int .i64 0, .int .i64 0, .string ⟨#[]⟩, .slice none 0 0] 27)).drew.cell? ⟨X, 2, none⟩ = some (.string (tx c.d.nm)) := x2b
    have v2a : w2.cell? ⟨P, 2, none⟩ = some (.int .i64 (a : Int)) := v2
    have v2b : (w2.alloc (.cells #[.string ⟨#[]⟩, .int .i64 0, .int .i64 0, .int .i64 0, .int .i64 0, .string ⟨#[]⟩, .slice none 0 0] 27)).cell? ⟨P, 2, none⟩ = some (.int .i64 (a : Int)) := at_bl ((Bl.refl _).alloc _) v2a
    have v2c : (w2.alloc (.cells #[.string ⟨#[]⟩, .int .i64 0, .int .i64 0, .int .i64 0, .int .i64 0, .string ⟨#[]⟩, .slice none 0 0] 27)).drew.cell? ⟨P, 2, none⟩ = some (.int .i64 (a : Int)) := v2b
    go_region_o
    have HN : Hid (Bv w (w2.alloc (.cells #[.string (tx c.d.nm), .int .i64 (c.d.kd : Int), .int .i64 (a : Int), .int .i64 0, .int .i64 0, .string ⟨#[]⟩, .slice none 0 0] 27)).drew X (X + 1) P s l (a, k) c sub ∧ Nv (w2.alloc (.cells #[.string (tx c.d.nm), .int .i64 (c.d.kd : Int), .int .i64 (a : Int), .int .i64 0, .int .i64 0, .string ⟨#[]⟩, .slice none 0 0] 27)).drew w2.heap.size ⟨c.d.nm, c.d.kd, a, 0, 0, []⟩ none 0 0 ∧ X + 1 < w2.heap.size) := ⟨HB2.out.on ((Bl.refl _).alloc _).drew, new_at _ _, HB2.out.lt.2.2.1⟩
    generalize (w2.alloc (.cells #[.string (tx c.d.nm), .int .i64 (c.d.kd : Int), .int .i64 (a : Int), .int .i64 0, .int .i64 0, .string ⟨#[]⟩, .slice none 0 0] 27)).drew = w3 at HN ⊢
    generalize w2.heap.size = N at HN ⊢
    clear x0 x2 v2 hP2 hX2 hQ2 x0a x0b x0c x2a x2b x2c v2a v2b v2c
    have cB := begin_at w3 P s l a k (0, -1) HN.out.1.vw (by have := HH.out.2.2; omega)
    go_wp2_with fail
    refine cB.mono ?_
    rintro e w4 ⟨rfl, hv4, hg4⟩
    clear cB
    obtain ⟨d1, d2, d3, d4, d5, dz⟩ := hv4.cells
    have hP4 := hv4.lt'
    have hlt := HN.out.1.lt
    have hXN := HN.out.2.2
    have hI4 := HN.out.1.iv.gp hg4 (by omega)
    have hR4 := HN.out.1.rv.gp hg4 (by omega)
    have hN4 := HN.out.2.1.gp hg4 (by omega)
    have hit4 : ItL w4 (fun g => g < P) c sub := HN.out.1.it.keep (fun g h1 h2 => hg4.block g h2 (by omega)) hg4.size (HN.out.1.vw.kx hg4)
    have H4 : Hid (Vw w4 P s l (a, k + 1) (if 400 < k + 1 then wrg (0, -1) 4 a else (0, -1)) ∧ Gp P w3 w4 ∧ Iv w4 X c ∧ Nv w4 (X + 1) ⟨[], 0, 0, 0, 0, []⟩ none 0 0 ∧ Nv w4 N ⟨c.d.nm, c.d.kd, a, 0, 0, []⟩ none 0 0 ∧ ItL w4 (fun g => g < P) c sub) := ⟨hv4, hg4, hI4, hR4, hN4, hit4⟩
    clear d1 d3 dz hv4 hg4 hI4 hR4 hN4 hit4 hlt
    by_cases hk4 : 400 < k + 1
    · have e4 : (if 400 < k + 1 then wrg (0, -1) 4 a else ((0, -1) : Er)) = (4, (a : Int)) := by rw [if_pos hk4]; rfl
      rw [e4] at H4 d4 d5
      dsimp only at d2 d4 d5
      have cI := Is_at 4 (a : Int)
      have hqe : q = .error (4, (a : Int)) := by rw [HQ.out]; unfold one; rw [if_pos (by have := HH.out.2.2; show k = 400; omega)]
      subst hqe
      have hI := H4
      clear e4 hk4
      go_wp2_with fail
      refine (cI _).mono ?_
      rintro e w5 ⟨rfl, hb5⟩
      have hN5 := H4.out.2.2.2.2.1.bl hb5
      have hR5 := H4.out.2.2.2.1.bl hb5
      have hgw : Gp P w w5 := ((Gp.bl HN.out.1.bl).trans H4.out.2.1).trans (Gp.bl hb5)
      have HF := fin_view (nd := ⟨c.d.nm, c.d.kd, a, 0, 0, []⟩) (p := none) (n := 0) (c := 0) hR5 (H4.out.1.bl hb5) hgw (by have := HN.out.1.lt; omega) (by have := HN.out.1.lt; omega)
      have HFH : Hid _ := HF
      obtain ⟨n0, n1, n2, n3, n4, n5, n6⟩ := hN5.cells
      obtain ⟨r0, r1, r2, r3, r4, r5, r6⟩ := hR5.cells
      obtain ⟨q0, q1, q2, q3, q4, q5, q6⟩ := hR5.fz
      dsimp only at n0 n1 n2 n3 n4 n5 n6 r0 r1 r2 r3 r4 r5 r6
      have hN5s := hN5.lt
      have hR5s := hR5.lt
      clear hb5 hN5 hR5 hgw HF d2 d4 d5 cI hI
      go_wp2
      exact bodyPost_ret (v := ndV ⟨c.d.nm, c.d.kd, a, 0, 0, []⟩ none 0 0) (results_cell_row rfl _ _ (X + 1) 27 _ (0, 0) _ rfl HFH.out.1 Tryz.underlying27 rfl infoN) rfl ⟨HFH.out.2.1, ⟨c.d.nm, c.d.kd, a, 0, 0, []⟩, none, 0, .nil, (a, k + 1), (4, (a : Int)), rfl, IsNs.none _ _, HFH.out.2.2.1, r64_0, Nat.le_refl _, rfl, show (4 : Int) ≠ 0 by decide⟩
    · have e4 : (if 400 < k + 1 then wrg (0, -1) 4 a else ((0, -1) : Er)) = (0, -1) := if_neg hk4
      rw [e4] at H4 d4 d5
      dsimp only at d2 d4 d5
      have cI := Is_at 0 (-1)
      have x := H4.out.2.2.1.facts
      obtain ⟨x0, x1, x2, x3, x4, x5, x6, x7, x8, x9, x10, x11, x12⟩ := x
      have HK : Hid (k < 400) := (by omega : k < 400)
      clear e4 hk4
      go_wp2_with fail
      refine (cI _).mono ?_
      rintro e w5 ⟨rfl, hb5⟩
      have x0' := at_bl hb5 x0
      have x4' := at_bl hb5 x4
      have x5' := at_bl hb5 x5
      have x6' := at_bl hb5 x6
      have H5 : Hid (Vw w5 P s l (a, k + 1) (0, -1) ∧ Gp P w w5 ∧ Iv w5 X c ∧ Nv w5 (X + 1) ⟨[], 0, 0, 0, 0, []⟩ none 0 0 ∧ Nv w5 N ⟨c.d.nm, c.d.kd, a, 0, 0, []⟩ none 0 0) := ⟨H4.out.1.bl hb5, ((Gp.bl HN.out.1.bl).trans H4.out.2.1).trans (Gp.bl hb5), H4.out.2.2.1.bl hb5, H4.out.2.2.2.1.bl hb5, H4.out.2.2.2.2.1.bl hb5⟩
      have hX5 := H5.out.2.2.1.lt
      have hit5 : IsO w5 c.pc c.d.ct := H4.out.2.2.2.2.2.1.keep (Kx.bl hb5)
      have x8' : w5.cell? ⟨X, 8, none⟩ = some (.pointer c.pc) := H5.out.2.2.1.facts.2.2.2.2.2.2.2.2.1
      clear x4' x5' x6' cI hb5 x0 x1 x2 x3 x4 x5 x6 x7 x8 x9 x10 x11 x12 d2 d4 d5
      obtain ⟨x, hct, hwx⟩ : ∃ x, c.d.ct = some x ∧ WX x := by
        rcases HH.out.1 with g | g | g | g
        · exact absurd g.1 (by rw [HH.out.2.1]; decide)
        · exact g.2.2.1
        · exact absurd g.1 (by rw [HH.out.2.1]; decide)
        · exact absurd g.1 (by rw [HH.out.2.1]; decide)
      rw [hct] at hit5
      have hX0 : IsX w5 (.pointer c.pc) x := hit5
      have hom5 : Om w5 m2 en k0 := HMM.out.1.step (gp_grown H5.out.2.1) (fun e => by injection e with e; have := HMM.out.2; omega)
      have cC := vcount_at w5 P s l (a, k + 1) (0, -1) c.pc (.map (some m2)) en x H5.out.1 hX0 (wx_okb hwx) hom5.isM
      have hevO : evO en c.d.ct = ev en x := by rw [hct]; rfl
      have HEV : Hid (evO en c.d.ct = ev en x) := hevO
      obtain ⟨qe, hqe0⟩ : ∃ qe, qe = ev en x := ⟨_, rfl⟩
      rw [← hqe0] at cC HEV
      clear hit5 hX0 hom5 hct hwx hevO hqe0
      go_wp2_with fail
      refine cC.mono ?_
      rintro e w6 ⟨hg6, hans⟩
      obtain ⟨n, b, rfl, hv6, hnb⟩ : ∃ n b, e = .returned (.int .i64 n) ∧ Vw w6 P s l (a, k + 1) b ∧ ((qe = .ok n ∧ b = (0, -1)) ∨ ∃ p : Nat, qe = .error p ∧ b = (5, (p : Int)) ∧ n = 0) := by
        cases qe with
        | ok n => exact ⟨n, _, hans.1, hans.2, Or.inl ⟨rfl, rfl⟩⟩
        | error p => exact ⟨0, _, hans.1, hans.2, Or.inr ⟨p, rfl, rfl, rfl⟩⟩
      have cY := vbytes_at w6 P s l a (k + 1) b n hv6
      clear hans cC
      go_wp2_with fail
      refine cY.mono ?_
      rintro e w7 ⟨hg7, hans⟩
      obtain ⟨t, a', b', rfl, hv7, haa, hres⟩ : ∃ (t : ByteArray) (a' : Nat) (b' : Er), e = .returned (.string t) ∧ Vw w7 P s l (a', k + 1) b' ∧ a ≤ a' ∧ ((b' = (0, -1) ∧ q = .ok (⟨c.d.nm, 2, a, a' - a, 0, L t⟩, .nil, (a', k + 1))) ∨ (b'.1 ≠ 0 ∧ q = .error b')) := by
        have ha6 := hv6.a
        dsimp only at ha6
        have hone : one (L s) l rec c.d sub en (a, k) = body (L s) l rec c.d sub en a (k + 1) := by unfold one; rw [if_neg (by have := HK.out; dsimp only; omega)]
        rcases hnb with ⟨e1, rfl⟩ | ⟨p, e1, rfl, rfl⟩
        · rcases hans with ⟨hC, e2, h2⟩ | ⟨_, h2, _⟩ | ⟨hC, _, e2, h2⟩
          · refine ⟨⟨#[]⟩, a, (3, (a : Int)), e2, h2, Nat.le_refl _, Or.inr ⟨(show (3 : Int) ≠ 0 by decide), ?_⟩⟩
            rw [HQ.out, hone]
            unfold body cnt
            rw [if_neg (by rw [HH.out.2.1]; decide), if_pos HH.out.2.1, HEV.out, e1]
            dsimp only
            by_cases hn : n < 0
            · rw [if_pos hn]
            · rw [if_neg hn]
              dsimp only
              rw [if_pos (by rw [L_len]; omega)]
          · exact absurd rfl h2
          · refine ⟨_, a + n.toNat, (0, -1), e2, h2, by omega, Or.inl ⟨rfl, ?_⟩⟩
            rw [HQ.out, hone]
            unfold body cnt
            rw [if_neg (by rw [HH.out.2.1]; decide), if_pos HH.out.2.1, HEV.out, e1]
            dsimp only
            rw [if_neg (by omega)]
            dsimp only
            rw [if_neg (by rw [L_len]; omega), L_tx, Nat.add_sub_cancel_left]
        · rcases hans with ⟨hC, e2, h2⟩ | ⟨_, _, e2, h2⟩ | ⟨_, h2, _⟩
          · exfalso; omega
          · refine ⟨⟨#[]⟩, a, (5, (p : Int)), e2, h2, Nat.le_refl _, Or.inr ⟨(show (5 : Int) ≠ 0 by decide), ?_⟩⟩
            rw [HQ.out, hone]
            unfold body cnt
            rw [if_neg (by rw [HH.out.2.1]; decide), if_pos HH.out.2.1, HEV.out, e1]
          · exact absurd h2 (show (5 : Int) ≠ 0 by decide)
      obtain ⟨T, hT⟩ : ∃ T, T = L t := ⟨_, rfl⟩
      have htT : t = tx T := by rw [hT, tx_L]
      rw [← hT] at hres
      subst htT
      have hlt := HN.out.1.lt
      have hXN := HN.out.2.2
      have hI7 := (H5.out.2.2.1.gp hg6 (by omega)).gp hg7 (by omega)
      have hR7 := (H5.out.2.2.2.1.gp hg6 (by omega)).gp hg7 (by omega)
      have hN7 := (H5.out.2.2.2.2.gp hg6 (by omega)).gp hg7 (by omega)
      have H9 : Hid _ := sett_view (x := T) hv7 hN7 hR7 hI7 ((H5.out.2.1.trans hg6).trans hg7) (by omega) (by omega) (by omega) (by omega)
      have n5 := hN7.cells.2.2.2.2.2.1
      have y5 := hN7.fz.2.2.2.2.2.1
      have hN7s := hN7.lt
      have HR : Hid (a ≤ a' ∧ ((b' = (0, -1) ∧ q = .ok (⟨c.d.nm, 2, a, a' - a, 0, T⟩, .nil, (a', k + 1))) ∨ (b'.1 ≠ 0 ∧ q = .error b'))) := ⟨haa, hres⟩
      clear hres haa hv7 hnb hans cY hT hI7 hR7 hN7 hlt hXN hg6 hg7 hv6 x0' x8'
      dsimp only at n5
      go_upto_region 21 with fail
      generalize w7.setCell ⟨N, 5, none⟩ (.string (tx T)) = w9 at H9 ⊢
      clear n5 y5 hN7s
      have hwr : IntKind.i64.wrap ((a' : Int) - (a : Int)) = ((a' - a : Nat) : Int) := by rw [IntKind.wrap_i64]; have := H9.out.1.a; have := H9.out.1.sz; have := HR.out.1; dsimp only at *; omega
      obtain ⟨Z, hZ⟩ : ∃ Z, Z = a' - a := ⟨_, rfl⟩
      rw [← hZ] at hwr
      have HZ : Hid (Z = a' - a) := hZ
      clear hZ
      have HS : Hid _ := size_view (N := N) Z H9.out.1 H9.out.2.1 H9.out.2.2.1 H9.out.2.2.2.2 (by have := HN.out.1.lt; have := HN.out.2.2; omega) (by have := HN.out.1.lt; have := HN.out.2.2; omega) (by have := HN.out.2.2; omega)
      have H9d : Hid (Vw w9.drew P s l (a', k + 1) b' ∧ Nv w9.drew N ⟨c.d.nm, c.d.kd, a, 0, 0, T⟩ none 0 0) := ⟨H9.out.1.bl (Bl.refl _).drew, H9.out.2.1.bl (Bl.refl _).drew⟩
      obtain ⟨d1, d2, d3, d4, d5, dz⟩ := H9d.out.1.cells
      obtain ⟨n0, n1, n2, n3, n4, n5, n6⟩ := H9d.out.2.cells
      obtain ⟨y0, y1, y2, y3, y4, y5, y6⟩ := H9d.out.2.fz
      dsimp only at d2 n2 n3
      have d2' : w9.cell? ⟨P, 2, none⟩ = some (.int .i64 (a' : Int)) := d2
      have n2' : w9.cell? ⟨N, 2, none⟩ = some (.int .i64 (a : Int)) := n2
      have n3' : w9.cell? ⟨N, 3, none⟩ = some (.int .i64 ((0 : Nat) : Int)) := n3
      have hN9s := H9.out.2.1.lt
      have hP9s := H9.out.1.lt'
      clear d1 d3 d4 d5 dz n0 n1 n4 n5 n6 y0 y1 y2 y4 y5 y6
      go_region_o
      clear d2 n2 n3 y3 d2' n2' n3' hN9s hP9s hwr
      generalize (w9.setCell ⟨N, 3, none⟩ (.int .i64 (Z : Int))).drew = w8 at HS ⊢
      have HF := fin_view (nd := ⟨c.d.nm, c.d.kd, a, Z, 0, T⟩) (p := none) (n := 0) (c := 0) HS.out.2.2.1 HS.out.1 HS.out.2.2.2.1 (by have := HN.out.1.lt; omega) (by have := HN.out.1.lt; omega)
      have HFH : Hid _ := HF
      obtain ⟨n0, n1, n2, n3, n4, n5, n6⟩ := HS.out.2.1.cells
      obtain ⟨r0, r1, r2, r3, r4, r5, r6⟩ := HS.out.2.2.1.cells
      obtain ⟨q0, q1, q2, q3, q4, q5, q6⟩ := HS.out.2.2.1.fz
      dsimp only at n0 n1 n2 n3 n4 n5 n6 r0 r1 r2 r3 r4 r5 r6
      have hN7s := HS.out.2.1.lt
      have hR7s := HS.out.2.2.1.lt
      clear HF
      go_wp2
      refine bodyPost_ret (v := ndV ⟨c.d.nm, c.d.kd, a, Z, 0, T⟩ none 0 0) (results_cell_row rfl _ _ (X + 1) 27 _ (0, 0) _ rfl HFH.out.1 Tryz.underlying27 rfl infoN) rfl ⟨HFH.out.2.1, ⟨c.d.nm, c.d.kd, a, Z, 0, T⟩, none, 0, .nil, (a', k + 1), b', rfl, IsNs.none _ _, HFH.out.2.2.1, r64_0, HR.out.1, ?_⟩
      rcases HR.out.2 with ⟨rfl, rfl⟩ | ⟨h1, rfl⟩
      · refine ⟨?_, rfl, rfl, rfl⟩
        rw [HZ.out, HH.out.2.1]
      · exact ⟨rfl, h1⟩
end Go.Proofs.YtococaecjecjgaaGreatDoor.ly
