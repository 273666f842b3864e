/- joined of package diff. -/
import Derived.Test.YtoiiphkcpdphbaaDoorDfC
import Derived.Test.YtoiiphkcpdphbaaDoorCnRow
import Derived.Deep.RegionHeld3
namespace Go.Proofs.YtoiiphkcpdphbaaDoor.df
set_option linter.unusedVariables false
open Go.ChangeShapes Go.WideShapes Go.ChangeAt Go.RowKit
open mem
/-- How far two rows are joined. -/
def Jn (a b : List Ed) (d a' b' : List Ed) : Prop := jn a b = (jn a' b').map (d ++ ·) ∧ d.length + a'.length + b'.length ≤ a.length + b.length
theorem Jn.zero (a b : List Ed) : Jn a b [] a b := ⟨by simp, by simp⟩
theorem Jn.same {a b d a' b' : List Ed} {x : Ed} (h : Jn a b d (x :: a') (x :: b')) : Jn a b (d ++ [x]) a' b' := by
  refine ⟨?_, by have := h.2; simp at this ⊢; omega⟩
  rw [h.1, jn, if_pos rfl, Option.map_map]
  congr 1; funext l; simp
theorem Jn.left {a b d a' b' : List Ed} {x y : Ed} (h : Jn a b d (x :: a') (y :: b')) (hne : x ≠ y) (hlt : x.n < y.w) : Jn a b (d ++ [x]) a' (y :: b') := by
  refine ⟨?_, by have := h.2; simp at this ⊢; omega⟩
  rw [h.1, jn, if_neg hne, if_pos hlt, Option.map_map]
  congr 1; funext l; simp
theorem Jn.right {a b d a' b' : List Ed} {x y : Ed} (h : Jn a b d (x :: a') (y :: b')) (hne : x ≠ y) (hlt : ¬ x.n < y.w) (hgt : y.n < x.w) : Jn a b (d ++ [y]) (x :: a') b' := by
  refine ⟨?_, by have := h.2; simp at this ⊢; omega⟩
  rw [h.1, jn, if_neg hne, if_neg hlt, if_pos hgt, Option.map_map]
  congr 1; funext l; simp
theorem Jn.no {a b d a' b' : List Ed} {x y : Ed} (h : Jn a b d (x :: a') (y :: b')) (hne : x ≠ y) (hlt : ¬ x.n < y.w) (hgt : ¬ y.n < x.w) : jn a b = none := by
  rw [h.1, jn, if_neg hne, if_neg hlt, if_neg hgt]; rfl
theorem Jn.end {a b d a' b' : List Ed} (h : Jn a b d a' b') (h0 : a' = [] ∨ b' = []) : jn a b = some (d ++ a' ++ b') := by
  rw [h.1]
  rcases h0 with rfl | rfl
  · rw [nil_jn]; simp
  · rw [jn_nil]; simp
theorem eqCh (x y : Ed) (w : World) : (binOp .eql 82 (.agg #[.int .i64 x.w, .int .i64 x.n, .string (tx x.t)]) (.agg #[.int .i64 y.w, .int .i64 y.n, .string (tx y.t)])).run Tryd.prog w = .ok (.bool (decide (x = y))) w := by
  rw [run_eql_struct]
  go_simp
  obtain ⟨x1, x2, x3⟩ := x
  obtain ⟨y1, y2, y3⟩ := y
  dsimp only
  by_cases h1 : x1 = y1
  · by_cases h2 : x2 = y2
    · by_cases h3 : (tx x3).toList = (tx y3).toList
      · have e : x3 = y3 := by
          rw [ByteArray.toList_eq, ByteArray.toList_eq] at h3
          simpa [tx] using h3
        subst h1; subst h2; subst e; simp
      · have e : x3 ≠ y3 := fun e => h3 (by rw [e])
        rw [if_pos h1, if_pos h2, if_neg h3]; simp [e]
    · rw [if_pos h1, if_neg h2]; simp [h2]
  · rw [if_neg h1]; simp [h1]
theorem eqCh' (x y : Ed) (b : Bool) (hb : decide (x = y) = b) (w : World) : (binOp .eql 82 (.agg #[.int .i64 x.w, .int .i64 x.n, .string (tx x.t)]) (.agg #[.int .i64 y.w, .int .i64 y.n, .string (tx y.t)])).run Tryd.prog w = .ok (.bool b) w := by
  rw [eqCh, hb]
/-- A slice's length. -/
def ln : Value → Nat
  | .slice _ n _ => n
  | _ => 0
/-- What joined answers. -/
def JnAns (w w' : World) (a b : List Ed) (r : Value) (ok : Bool) : Prop := Bl w w' ∧ ((jn a b = none ∧ ok = false) ∨ ∃ l, jn a b = some l ∧ ok = true ∧ cn.Own w' w.heap.size r l)
set_option maxHeartbeats 2000000 in
set_option maxRecDepth 10000 in
theorem joined_at (a b : List Ed) (v u : Value) (w : World) (hv : cn.View w v a) (hu : cn.View w u b) (ha : a.length ≤ 5000) (hb : b.length ≤ 5000) :
    Calls Tryd.prog 30 #[v, u] w fun e w' => ∃ r ok, e = .returned (.tuple #[r, .bool ok]) ∧ JnAns w w' a b r ok := by
  obtain ⟨p, cp, rfl, hcp, hp⟩ := hv
  obtain ⟨q, cq, rfl, hcq, hq⟩ := hu
  have H0 : Hid (cn.In w p a ∧ cn.In w q b) := ⟨hp, hq⟩
  clear hp hq
  go_enter Tryd.func30, Tryd.ntmps30
  go_wp2
  go_loopw [0, 1, 6, 15, 33, 51] (fun s0 s1 s6 _ _ _ wr => ∃ (a' b' d : List Ed) (p q : Option Addr) (cp cq : Nat), s0 = .slice p a'.length cp ∧ s1 = .slice q b'.length cq ∧ a'.length ≤ cp ∧ b'.length ≤ cq ∧ Hid (cn.In w p a' ∧ cn.In w q b' ∧ Jn a b d a' b' ∧ cn.Own wr w.heap.size s6 d ∧ Bl w wr)) (fun s0 s1 _ _ _ _ _ => ln s0 + ln s1)
  case atStart => exact ⟨a, b, [], p, q, cp, cq, rfl, rfl, hcp, hcq, H0.out.1, H0.out.2, Jn.zero a b, cn.Own.nil _ _, Bl.refl _⟩
  case round =>
    clear H0
    obtain ⟨a', b', d, p, q, cp, cq, rfl, rfl, hcp, hcq, H⟩ := hrel
    cases a' with
    | nil =>
      have hin := H.out.2.2.1.end (Or.inl rfl)
      have vA : cn.View wr (.slice p ([] : List Ed).length cp) [] := ⟨p, cp, rfl, hcp, H.out.1.step H.out.2.2.2.2⟩
      obtain ⟨r1, w1, hr1, ho1, hg1⟩ := cn.app_view wr w.heap.size u6 (.slice p ([] : List Ed).length cp) d [] H.out.2.2.2.1 vA (by have := H.out.2.2.1.2; simp at this ⊢; omega) H.out.2.2.2.2.size
      have hb1 : Bl w w1 := bl_grown H.out.2.2.2.2 hg1 (fun k e => (H.out.2.2.2.1.block k e).1)
      have vB : cn.View w1 (.slice q (b' : List Ed).length cq) b' := ⟨q, cq, rfl, hcq, H.out.2.1.step hb1⟩
      obtain ⟨r2, w2, hr2, ho2, hg2⟩ := cn.app_view w1 w.heap.size r1 (.slice q (b' : List Ed).length cq) (d ++ []) b' ho1 vB (by have := H.out.2.2.1.2; simp at this ⊢; omega) hb1.size
      have hb2 : Bl w w2 := bl_grown hb1 hg2 (fun k e => (ho1.block k e).1)
      have HF : Hid (JnAns w w2 a b r2 true) := ⟨hb2, Or.inr ⟨_, hin, rfl, ho2⟩⟩
      have HR1 : Hid _ := hr1
      have HR2 : Hid _ := hr2
      clear hin vA hr1 ho1 hg1 hb1 vB hr2 ho2 hg2 hb2
      go_wp2_with (at_builtin; first | refine Lib.wpList_append_run _ rfl (.tmp 69) (.tmp 70) _ _ rfl _ _ rfl rfl _ _ HR1.out ?_ | refine Lib.wpList_append_run _ rfl (.tmp 71) (.tmp 72) _ _ rfl _ _ rfl rfl _ _ HR2.out ?_)
      go_ret2
      exact ⟨_, _, rfl, HF.out⟩
    | cons x a' =>
      cases b' with
      | nil =>
        have hin := H.out.2.2.1.end (Or.inr rfl)
        have vA : cn.View wr (.slice p ((x :: a') : List Ed).length cp) (x :: a') := ⟨p, cp, rfl, hcp, H.out.1.step H.out.2.2.2.2⟩
        obtain ⟨r1, w1, hr1, ho1, hg1⟩ := cn.app_view wr w.heap.size u6 (.slice p ((x :: a') : List Ed).length cp) d (x :: a') H.out.2.2.2.1 vA (by have := H.out.2.2.1.2; simp at this ⊢; omega) H.out.2.2.2.2.size
        have hb1 : Bl w w1 := bl_grown H.out.2.2.2.2 hg1 (fun k e => (H.out.2.2.2.1.block k e).1)
        have vB : cn.View w1 (.slice q ([] : List Ed).length cq) [] := ⟨q, cq, rfl, hcq, H.out.2.1.step hb1⟩
        obtain ⟨r2, w2, hr2, ho2, hg2⟩ := cn.app_view w1 w.heap.size r1 (.slice q ([] : List Ed).length cq) (d ++ (x :: a')) [] ho1 vB (by have := H.out.2.2.1.2; simp at this ⊢; omega) hb1.size
        have hb2 : Bl w w2 := bl_grown hb1 hg2 (fun k e => (ho1.block k e).1)
        have HF : Hid (JnAns w w2 a b r2 true) := ⟨hb2, Or.inr ⟨_, hin, rfl, ho2⟩⟩
        have HR1 : Hid _ := hr1
        have HR2 : Hid _ := hr2
        clear hin vA hr1 ho1 hg1 hb1 vB hr2 ho2 hg2 hb2
        go_wp2_with (at_builtin; first | refine Lib.wpList_append_run _ rfl (.tmp 69) (.tmp 70) _ _ rfl _ _ rfl rfl _ _ HR1.out ?_ | refine Lib.wpList_append_run _ rfl (.tmp 71) (.tmp 72) _ _ rfl _ _ rfl rfl _ _ HR2.out ?_)
        go_ret2
        exact ⟨_, _, rfl, HF.out⟩
      | cons y b' =>
        obtain ⟨X, rfl, x0, x1, x2⟩ := (H.out.1.step H.out.2.2.2.2).at' 0 (by simp)
        obtain ⟨Y, rfl, y0, y1, y2⟩ := (H.out.2.1.step H.out.2.2.2.2).at' 0 (by simp)
        simp only [Nat.zero_mul, Addr.add_zero', List.getElem_cons_zero] at x0 x1 x2 y0 y1 y2
        obtain ⟨m, hm⟩ : ∃ m, (x :: a').length = m := ⟨_, rfl⟩
        obtain ⟨n, hn⟩ : ∃ n, (y :: b').length = n := ⟨_, rfl⟩
        rw [hm] at hcp ⊢
        rw [hn] at hcq ⊢
        have hm0 : 0 < m := by rw [← hm]; simp
        have hn0 : 0 < n := by rw [← hn]; simp
        have hmb : m ≤ 10000 := by have := H.out.2.2.1.2; rw [hm, hn] at this; omega
        have hnb : n ≤ 10000 := by have := H.out.2.2.1.2; rw [hm, hn] at this; omega
        by_cases hxy : x = y
        · obtain rfl := hxy
          have hE := eqCh' x x true (decide_eq_true rfl)
          go_wp2
          go_quiet (fail)
          have hdb : d.length ≤ 10000 := by have := H.out.2.2.1.2; omega
          obtain ⟨Z, hZ⟩ : ∃ Z, Z = wr.heap.size := ⟨_, rfl⟩
          obtain ⟨w7, hw7⟩ : ∃ w7, w7 = (wr.drewN nq).alloc (.cells #[.int .i64 x.w, .int .i64 x.n, .string (tx x.t)] 82) := ⟨_, rfl⟩
          have hbq : Bl wr (wr.drewN nq) := Dr.bl ⟨nq, rfl⟩
          have hb7 : Bl wr w7 := by rw [hw7]; exact hbq.trans ((Bl.refl _).alloc _)
          have hzw : w7.heap[Z]? = some (.cells #[.int .i64 x.w, .int .i64 x.n, .string (tx x.t)] 82 (0, 0)) := by rw [hw7, hZ]; exact heap_alloc_new (wr.drewN nq) _
          obtain ⟨v', w8, hr, ho8, hg8⟩ := cn.app_one w7 w.heap.size u6 d x Z (H.out.2.2.2.1.step hb7) (by rw [cell_of hzw]; rfl) (by rw [cell_of hzw]; rfl) (by rw [cell_of hzw]; rfl) (by omega) (Nat.le_trans H.out.2.2.2.2.size hb7.size)
          have hb8 : Bl w w8 := bl_grown (H.out.2.2.2.2.trans hb7) hg8 (fun k e => (H.out.2.2.2.1.block k e).1)
          have eZ : wr.heap.size = Z := hZ.symm
          have ew7 : (wr.drewN nq).alloc (.cells #[.int .i64 x.w, .int .i64 x.n, .string (tx x.t)] 82) = w7 := hw7.symm
          have HR : Hid _ := hr
          obtain ⟨ca1, ca2, ca3⟩ := H.out.1.cut hm hcp
          obtain ⟨cb1, cb2, cb3⟩ := H.out.2.1.cut hn hcq
          have HF : Hid (cn.In w (if cp = 1 then some X else some ⟨X.block, X.off + 3, none⟩) a' ∧ cn.In w (if cq = 1 then some Y else some ⟨Y.block, Y.off + 3, none⟩) b' ∧ Jn a b (d ++ [x]) a' b' ∧ cn.Own w8 w.heap.size v' (d ++ [x]) ∧ Bl w w8 ∧ a'.length ≤ cp - 1 ∧ b'.length ≤ cq - 1 ∧ m - 1 = a'.length ∧ n - 1 = b'.length) := ⟨ca1, cb1, H.out.2.2.1.same, ho8, hb8, ca3, cb3, ca2, cb2⟩
          clear hZ hw7 hbq hb7 hzw hr ho8 hg8 hb8 hE ca1 cb1 ca2 cb2 ca3 cb3
          go_wp2_with (at_builtin; refine Lib.wpList_append_run _ rfl (.tmp 23) (.tmp 27) _ _ rfl _ _ rfl rfl _ _ HR.out ?_)
          go_quiet (fail)
          go_wp2
          go_roundw
          case rel =>
            obtain ⟨f1, f2, f3, f4, f5, f6, f7, f8, f9⟩ := HF.out
            have hbx : ∀ k, Bl w8 (w8.drewN k) := fun k => Dr.bl ⟨k, rfl⟩
            exact ⟨a', b', d ++ [x], _, _, cp - 1, cq - 1, by rw [f8], by rw [f9], f6, f7, f1, f2, f3, f4.step (hbx _), f5.trans (hbx _)⟩
          case measure => simp [ln]; omega
        · have hE := eqCh' x y false (decide_eq_false hxy)
          have HNE : Hid (x ≠ y) := hxy
          clear hxy
          by_cases h1 : x.n < y.w
          · have d1 : decide (x.n < y.w) = true := decide_eq_true h1
            go_wp2
            go_quiet (fail)
            go_wp2
            go_quiet (fail)
            generalize hwq : (wr.drewN _).drewN _ = wq
            have hbq : Bl wr wq := by rw [← hwq]; exact (Dr.bl ⟨_, rfl⟩).trans (Dr.bl ⟨_, rfl⟩)
            clear hwq
            replace x0 := at_bl hbq x0
            replace x1 := at_bl hbq x1
            replace x2 := at_bl hbq x2
            replace y0 := at_bl hbq y0
            replace y1 := at_bl hbq y1
            replace y2 := at_bl hbq y2
            have hdb : d.length ≤ 10000 := by have := H.out.2.2.1.2; omega
            obtain ⟨Z, hZ⟩ : ∃ Z, Z = wq.heap.size := ⟨_, rfl⟩
            obtain ⟨w7, hw7⟩ : ∃ w7, w7 = wq.alloc (.cells #[.int .i64 x.w, .int .i64 x.n, .string (tx x.t)] 82) := ⟨_, rfl⟩
            have hb7 : Bl wr w7 := by rw [hw7]; exact hbq.trans ((Bl.refl _).alloc _)
            have hzw : w7.heap[Z]? = some (.cells #[.int .i64 x.w, .int .i64 x.n, .string (tx x.t)] 82 (0, 0)) := by rw [hw7, hZ]; exact heap_alloc_new wq _
            obtain ⟨v', w8, hr, ho8, hg8⟩ := cn.app_one w7 w.heap.size u6 d x Z (H.out.2.2.2.1.step hb7) (by rw [cell_of hzw]; rfl) (by rw [cell_of hzw]; rfl) (by rw [cell_of hzw]; rfl) (by omega) (Nat.le_trans H.out.2.2.2.2.size hb7.size)
            have hb8 : Bl w w8 := bl_grown (H.out.2.2.2.2.trans hb7) hg8 (fun k e => (H.out.2.2.2.1.block k e).1)
            have eZ : wq.heap.size = Z := hZ.symm
            have ew7 : wq.alloc (.cells #[.int .i64 x.w, .int .i64 x.n, .string (tx x.t)] 82) = w7 := hw7.symm
            have HR : Hid _ := hr
            obtain ⟨ca1, ca2, ca3⟩ := H.out.1.cut hm hcp
            have HF : Hid (cn.In w (if cp = 1 then some X else some ⟨X.block, X.off + 3, none⟩) a' ∧ cn.In w (some Y) (y :: b') ∧ Jn a b (d ++ [x]) a' (y :: b') ∧ cn.Own w8 w.heap.size v' (d ++ [x]) ∧ Bl w w8 ∧ a'.length ≤ cp - 1 ∧ n ≤ cq ∧ m - 1 = a'.length ∧ (y :: b').length = n) := ⟨ca1, H.out.2.1, H.out.2.2.1.left HNE.out h1, ho8, hb8, ca3, hcq, ca2, hn⟩
            clear hZ hw7 hbq hb7 hzw hr ho8 hg8 hb8 hE ca1 ca2 ca3
            go_wp2_with (at_builtin; refine Lib.wpList_append_run _ rfl (.tmp 43) (.tmp 47) _ _ rfl _ _ rfl rfl _ _ HR.out ?_)
            go_roundw
            case rel =>
              obtain ⟨f1, f2, f3, f4, f5, f6, f7, f8, f9⟩ := HF.out
              exact ⟨a', y :: b', d ++ [x], _, _, cp - 1, cq, by rw [f8], by rw [f9], f6, (by omega), f1, f2, f3, f4, f5⟩
            case measure => simp [ln]; omega
          · have d1 : decide (x.n < y.w) = false := decide_eq_false h1
            by_cases h2 : y.n < x.w
            · have d2 : decide (y.n < x.w) = true := decide_eq_true h2
              go_wp2
              go_quiet (fail)
              go_wp2
              go_quiet (fail)
              go_wp2
              go_quiet (fail)
              generalize hwq : ((wr.drewN _).drewN _).drewN _ = wq
              have hbq : Bl wr wq := by rw [← hwq]; exact ((Dr.bl ⟨_, rfl⟩).trans (Dr.bl ⟨_, rfl⟩)).trans (Dr.bl ⟨_, rfl⟩)
              clear hwq
              replace x0 := at_bl hbq x0
              replace x1 := at_bl hbq x1
              replace x2 := at_bl hbq x2
              replace y0 := at_bl hbq y0
              replace y1 := at_bl hbq y1
              replace y2 := at_bl hbq y2
              have hdb : d.length ≤ 10000 := by have := H.out.2.2.1.2; omega
              obtain ⟨Z, hZ⟩ : ∃ Z, Z = wq.heap.size := ⟨_, rfl⟩
              obtain ⟨w7, hw7⟩ : ∃ w7, w7 = wq.alloc (.cells #[.int .i64 y.w, .int .i64 y.n, .string (tx y.t)] 82) := ⟨_, rfl⟩
              have hb7 : Bl wr w7 := by rw [hw7]; exact hbq.trans ((Bl.refl _).alloc _)
              have hzw : w7.heap[Z]? = some (.cells #[.int .i64 y.w, .int .i64 y.n, .string (tx y.t)] 82 (0, 0)) := by rw [hw7, hZ]; exact heap_alloc_new wq _
              obtain ⟨v', w8, hr, ho8, hg8⟩ := cn.app_one w7 w.heap.size u6 d y Z (H.out.2.2.2.1.step hb7) (by rw [cell_of hzw]; rfl) (by rw [cell_of hzw]; rfl) (by rw [cell_of hzw]; rfl) (by omega) (Nat.le_trans H.out.2.2.2.2.size hb7.size)
              have hb8 : Bl w w8 := bl_grown (H.out.2.2.2.2.trans hb7) hg8 (fun k e => (H.out.2.2.2.1.block k e).1)
              have eZ : wq.heap.size = Z := hZ.symm
              have ew7 : wq.alloc (.cells #[.int .i64 y.w, .int .i64 y.n, .string (tx y.t)] 82) = w7 := hw7.symm
              have HR : Hid _ := hr
              obtain ⟨ca1, ca2, ca3⟩ := H.out.2.1.cut hn hcq
              have HF : Hid (cn.In w (some X) (x :: a') ∧ cn.In w (if cq = 1 then some Y else some ⟨Y.block, Y.off + 3, none⟩) b' ∧ Jn a b (d ++ [y]) (x :: a') b' ∧ cn.Own w8 w.heap.size v' (d ++ [y]) ∧ Bl w w8 ∧ m ≤ cp ∧ b'.length ≤ cq - 1 ∧ (x :: a').length = m ∧ n - 1 = b'.length) := ⟨H.out.1, ca1, H.out.2.2.1.right HNE.out (by omega) h2, ho8, hb8, hcp, ca3, hm, ca2⟩
              clear hZ hw7 hbq hb7 hzw hr ho8 hg8 hb8 hE ca1 ca2 ca3
              go_wp2_with (at_builtin; refine Lib.wpList_append_run _ rfl (.tmp 61) (.tmp 65) _ _ rfl _ _ rfl rfl _ _ HR.out ?_)
              go_roundw
              case rel =>
                obtain ⟨f1, f2, f3, f4, f5, f6, f7, f8, f9⟩ := HF.out
                exact ⟨x :: a', b', d ++ [y], _, _, cp, cq - 1, by rw [f8], by rw [f9], (by omega), f7, f1, f2, f3, f4, f5⟩
              case measure => simp [ln]; omega
            · have d2 : decide (y.n < x.w) = false := decide_eq_false h2
              go_wp2
              go_quiet (fail)
              go_wp2
              go_quiet (fail)
              go_wp2
              go_quiet (fail)
              go_wp2
              go_ret2
              exact ⟨_, _, rfl, H.out.2.2.2.2.trans (((Dr.bl ⟨_, rfl⟩).trans (Dr.bl ⟨_, rfl⟩)).trans (Dr.bl ⟨_, rfl⟩)), Or.inl ⟨H.out.2.2.1.no HNE.out (by omega) (by omega), rfl⟩⟩
end Go.Proofs.YtoiiphkcpdphbaaDoor.df
