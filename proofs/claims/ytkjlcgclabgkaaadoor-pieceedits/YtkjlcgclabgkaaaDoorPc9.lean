/- The bytes of a text in pieces: Slice, String; and All. -/
import Derived.Test.YtkjlcgclabgkaaaDoorPc8
import Derived.Test.YtkjlcgclabgkaaaDoorLayB
namespace Go.Proofs.YtkjlcgclabgkaaaDoor.pc
set_option linter.unusedVariables false
open Go.ChangeShapes Go.WideShapes Go.ChangeAt Go.RowKit Go.Shelf
open mem

attribute [local go_sem] Oper.semAt_some

/-- A builder that holds these bytes. -/
def Bd (B b : Nat) (l : List UInt8) (w : World) : Prop := Lib.IsBuilderF 56 5 B b (Lib.byteCells l) w
theorem not_cells {o : Obj} {c : Array Value} {e : TypeId} {fz : Nat × Nat} (h : o = .cells c e fz) (k : o.isCells = false) : False := by subst h; simp [Obj.isCells] at k
theorem atF_own {T e : TypeId} {B b : Nat} {p : Value} {bs : List Value} {W W' : World} {row : Option Nat} (h : Lib.BuilderAtF T e B b p bs W) (hg : W.grownBy W' row) (hr : ∀ r, row = some r → ∃ o : Obj, W.heap[r]? = some o ∧ o.isCells = false) : Lib.BuilderAtF T e B b p bs W' := by
  have key : ∀ k c t fz, W.heap[k]? = some (Obj.cells c t fz) → W'.heap[k]? = some (Obj.cells c t fz) := fun k c t fz hk => by
    have hlt : k < W.heap.size := (Array.getElem?_eq_some_iff.1 hk).1
    rw [hg.block k hlt ?_]
    · exact hk
    · intro e
      obtain ⟨o, ho, hc⟩ := hr k e.symm
      rw [hk] at ho
      exact not_cells (Option.some.inj ho).symm hc
  obtain ⟨hB, v, hb, hown, hne⟩ := h
  refine ⟨hB, v, key _ _ _ _ hb, ⟨hown.1, ?_⟩, hne⟩
  rcases hown.2 with hn | ⟨g, cap, cur, fz, hv, hbg, hgg, rest⟩
  · exact .inl hn
  · exact .inr ⟨g, cap, cur, fz, hv, hbg, key _ _ _ _ hgg, rest⟩
theorem bd_own (B b : Nat) : Own (fun (pre : List Pce) W => Bd B b (cat (pre.map (·.1))) W) := fun s W W' row h hg hr => h.elim (fun x => .inl (atF_own x hg hr)) (fun x => .inr (atF_own x hg hr))
theorem others_keep {e : TypeId} {b : Nat} {W W' : World} {T : TypeId} {B : Nat} {bs : List Value} (hb : Lib.IsBuilderF T e B b bs W) (hs : W.heap.size ≤ W'.heap.size) (h : Lib.OthersKept e (some b) W W') : KeepsOthers W W' := by
  refine ⟨hs, fun k o hk ho => h k o hk ?_ ?_⟩
  · intro e1
    cases e1
    obtain ⟨c, t, fz, hc⟩ : ∃ c t fz, W.heap[b]? = some (Obj.cells c t fz) := by
      rcases hb with hb | hb
      · obtain ⟨_, v, hc, _⟩ := hb; exact ⟨_, _, _, hc⟩
      · obtain ⟨_, v, hc, _⟩ := hb; exact ⟨_, _, _, hc⟩
    rw [hk] at hc
    exact not_cells (Option.some.inj hc) ho
  · intro c fz e1
    exact not_cells e1 ho
theorem str_cells (s : ByteArray) : Lib.strCells s = Lib.byteCells s.data.toList := rfl
theorem byte_cells_app (a b : List UInt8) : Lib.byteCells (a ++ b) = Lib.byteCells a ++ Lib.byteCells b := by simp [Lib.byteCells]
/-- WriteString. -/
theorem write_at (B b : Nat) (l : List UInt8) (s : ByteArray) (w : World) (h : Bd B b l w) (hl : l.length + s.size ≤ 140737488355328) (hB : B ≤ w.heap.size) :
    Calls Tryd.prog 19 #[.pointer (some ⟨b, 0, none⟩), .string s] w fun e w' => e = .returned (.tuple #[.int .i64 s.size, .nilIface]) ∧ Bd B b (l ++ s.data.toList) w' ∧ Below B w w' ∧ KeepsOthers w w' := by
  refine Calls.mono (Any.Builder_WriteString_k lay.laid166 lay.extra B b (Lib.byteCells l) s w h (by rw [Lib.byteCells_length]; exact hl) hB) ?_
  rintro e w' ⟨rfl, h1, h2, h3⟩
  refine ⟨rfl, ?_, h2, others_keep h h2.size h3⟩
  unfold Bd
  rw [byte_cells_app, ← str_cells]
  exact .inr h1
theorem string_at (B b : Nat) (l : List UInt8) (w : World) (h : Bd B b l w) (hB : B ≤ w.heap.size) :
    Calls Tryd.prog 20 #[.pointer (some ⟨b, 0, none⟩)] w fun e w' => e = .returned (.string ⟨l.toArray⟩) ∧ Below B w w' ∧ KeepsOthers w w' := by
  refine Calls.mono (Any.Builder_String_any_k lay.laid169 lay.extra B b l w h hB) ?_
  rintro e w' ⟨rfl, h1, h2, h3⟩
  exact ⟨rfl, h2, others_keep h h2.size h3⟩
theorem grow_at (b n : Nat) (w : World) (h : w.heap[b]? = some (.cells #[.pointer none, .slice none 0 0] 56 (0, 0))) (hB : b ≤ w.heap.size) (hn : n ≤ 281474976710656) :
    Calls Tryd.prog 17 #[.pointer (some ⟨b, 0, none⟩), .int .i64 n] w fun e w' => e = .returned (.tuple #[]) ∧ Bd b b [] w' ∧ Below b w w' := by
  refine Calls.mono (Any.Builder_Grow_fresh lay.laid165 lay.extra b b n w (Nat.le_refl _) h hB hn) ?_
  rintro e w' ⟨rfl, h1, h2⟩
  exact ⟨rfl, Lib.IsBuilderF.of (.inr h1), h2⟩
theorem segs (t : Tr) (hf : fit t.ps) (f g : Int) : ∃ S : List Pce, S.map (·.1) = seg t f g := by
  have key : ∀ L : List ByteArray, (∀ x, x ∈ L → 0 < x.size ∧ x.size ≤ 1000000) → ∃ S : List Pce, S.map (·.1) = L := by
    intro L
    induction L with
    | nil => exact fun _ => ⟨[], rfl⟩
    | cons x L ih =>
      intro h
      obtain ⟨S, hS⟩ := ih (fun y hy => h y (by simp [hy]))
      exact ⟨⟨x, h x (by simp)⟩ :: S, by rw [List.map_cons, hS]⟩
  refine key _ (fun x hx => ⟨seg_ne hx, ?_⟩)
  have h1 : x.size ≤ tot (seg t f g) := by
    generalize seg t f g = L at hx
    induction L with
    | nil => simp at hx
    | cons y L ih =>
      rcases List.mem_cons.1 hx with rfl | hx
      · simp [tot]
      · have := ih hx
        simp [tot]
        omega
  have h2 : tot (seg t f g) ≤ tot t.ps := by
    rw [← cat_len, seg_cat, List.length_drop, List.length_take, cat_len]
    omega
  have := hf.2
  omega
theorem Is.isT {w : World} {p : Option Addr} {t : Tr} (h : Is w p t) : IsT w.heap.size w p t := h
theorem cat_snoc (pre : List Pce) (x : Pce) : cat ((pre ++ [x]).map (·.1)) = cat (pre.map (·.1)) ++ x.1.data.toList := by
  rw [List.map_append, cat_app]
  simp [cat]
theorem cat_small (pre : List Pce) : (cat (pre.map (·.1))).length ≤ pre.length * 1000000 := by
  induction pre with
  | nil => simp [cat]
  | cons x l ih =>
    have := x.2.2
    rw [List.map_cons, cat, List.length_append, bs_len, List.length_cons]
    omega
set_option maxRecDepth 100000 in
set_option maxHeartbeats 4000000 in
/-- Slice, where all is right. -/
theorem Slice_at (p : Option Addr) (t : Tr) (f g : Nat) (w : World) (h : Is w p t) (hf : fit t.ps) (h1 : f ≤ g) (h2 : g ≤ tot t.ps) :
    Calls Tryd.prog 9 #[.agg #[.pointer p], .int .i64 (f : Int), .int .i64 (g : Int)] w fun e w' => e = .returned (.tuple #[.string ⟨(((cat t.ps).take g).drop f).toArray⟩, .nilIface]) ∧ Bl w w' := by
  obtain ⟨F, hF⟩ : ∃ F, F = Fence.wide := ⟨_, rfl⟩
  have hd : F.depth = none := by rw [hF]; rfl
  have hro : F.round = none := by rw [hF]; rfl
  have hfn : ∀ k, F.fn k := fun k => by rw [hF]; trivial
  have hdd : ∀ k : Nat, (F.depth.isSome = true → 1 ≤ k) := fun k h => by rw [hd] at h; cases h
  refine (callsIn_wide (n := 5)).1 ?_
  rw [← hF]
  have HF : Hid (F = Fence.wide) := hF
  clear hF
  obtain ⟨n, hn⟩ : ∃ n : Nat, n = 5 := ⟨_, rfl⟩
  rw [← hn]
  obtain ⟨S, hS⟩ := segs t hf (f : Int) (g : Int)
  have hto := hf.2
  obtain ⟨T, hT⟩ : ∃ T, T = tot t.ps := ⟨_, rfl⟩
  have cl := fun w' (k : Bl w w') => wide_in (n := n - 1) HF.out (Len_at p t w' (h.bl k))
  rw [← hT] at cl h2 hto
  have HT : Hid (T = tot t.ps) := hT
  clear hT
  have k1 : (0 : Int) ≤ (f : Int) := by omega
  have k2 : (f : Int) ≤ (g : Int) := by omega
  have k3 : (g : Int) ≤ (T : Int) := by omega
  have hw1 : IntKind.i64.wrap ((g : Int) - (f : Int)) = ((g - f : Nat) : Int) := by rw [IntKind.wrap_i64]; omega
  have HX : Hid (Bx (w.alloc (.cells #[.pointer p] 26)) w.heap.size (.pointer p) 26) := Bx.new w (.pointer p) 26
  have HB0 : Bl w (w.alloc (.cells #[.pointer p] 26)) := (Bl.refl w).alloc _
  have HG : Hid (((g - f : Nat) : Int) = (g : Int) - (f : Int)) := by unfold Hid; omega
  have f20 := hfn 9
  have f9 := hfn 7
  have f26 := hfn 17
  have f19 := hfn 18
  have f24 := hfn 27
  have f27 := hfn 19
  have f28 := hfn 20
  have hn1 : 1 ≤ n := by omega
  have hn3 : 4 ≤ n := by omega
  clear hn
  have gr := fun b w' (k : w'.heap[b]? = some (.cells #[.pointer none, .slice none 0 0] 56 (0, 0))) (hB : b ≤ w'.heap.size) => wide_in (n := n - 1) HF.out (grow_at b (g - f) w' k hB (by omega))
  have bt := fun w' => wide_in (n := n - 1) HF.out (between_at p (f : Int) (g : Int) w')
  generalize g - f = GF at *
  refine callsIn_of_wp_marks Tryd.func9 rfl f20 ?_ hro
  simp only [Tryd.ntmps9, List.size_toArray, List.length_cons, List.length_nil, Nat.reduceAdd, Nat.reduceSub, Array.replicate_succ, Array.replicate_zero, List.push_toArray, List.append_toArray, List.nil_append, List.cons_append]
  gi_wp2_with (first
    | ((try refine ⟨hdd _, ?_⟩); gi_at_call 7; refine (cl _ HB0).mono ?_; clear cl; rintro e w1 ⟨rfl, hb1⟩; have hx1 := HX.out.bl hb1; have g0 := hx1.cell)
    | ((try refine ⟨hdd _, ?_⟩); gi_at_call 17; refine (gr _ _ (heap_new _ _) (by simp)).mono ?_; clear gr; rintro e w2 ⟨rfl, hbd, hb2⟩; have HB2 : Bl w1 w2 := Below.trans ((Bl.refl w1).alloc _) hb2; have hx2 := hx1.bl HB2; have g2 := hx2.cell)
    | ((try refine ⟨hdd _, ?_⟩); gi_at_call 18; refine (bt _).mono ?_; clear bt; rintro e w3 ⟨rfl, rfl⟩))
  obtain ⟨W0, hW0⟩ : ∃ W0, W0 = ((w2.alloc (.cells #[.pointer p] 26)).alloc (.cells #[.int .i64 (f : Int)] 3)).alloc (.cells #[.int .i64 (g : Int)] 3) := ⟨_, rfl⟩
  have hsz : W0.heap.size = w2.heap.size + 3 := by rw [hW0]; simp
  have HB3 : Bl w2 W0 := by rw [hW0]; exact (((Bl.refl w2).alloc _).alloc _).alloc _
  have HBw : Bl w W0 := ((HB0.trans hb1).trans HB2).trans HB3
  have y0 : W0.cell? ⟨w2.heap.size, 0, none⟩ = some (.pointer p) := by
    rw [hW0]; exact cell_bl ((Bl.refl _).alloc _) (cell_bl ((Bl.refl _).alloc _) (Bx.new w2 _ _).cell)
  have y1 : W0.cell? ⟨w2.heap.size + 1, 0, none⟩ = some (.int .i64 (f : Int)) := by
    have := (Bx.new (w2.alloc (.cells #[.pointer p] 26)) (.int .i64 (f : Int)) 3).cell
    rw [World.size_alloc] at this
    rw [hW0]; exact cell_bl ((Bl.refl _).alloc _) this
  have y2 : W0.cell? ⟨w2.heap.size + 2, 0, none⟩ = some (.int .i64 (g : Int)) := by
    have := (Bx.new ((w2.alloc (.cells #[.pointer p] 26)).alloc (.cells #[.int .i64 (f : Int)] 3)) (.int .i64 (g : Int)) 3).cell
    rw [World.size_alloc, World.size_alloc] at this
    rw [hW0]; exact this
  have hbd0 : Bd w1.heap.size w1.heap.size [] W0 := by rw [hW0]; exact Lib.IsBuilderF.alloc (Lib.IsBuilderF.alloc (Lib.IsBuilderF.alloc hbd _) _) _
  rw [← hW0]
  clear hW0 hbd
  have s1 : w.heap.size ≤ w1.heap.size := (HB0.trans hb1).size
  have s2 := HB2.size
  have hlen : S.length ≤ 1000000 := by
    have e : S.length = (seg t (f : Int) (g : Int)).length := by rw [← hS]; simp
    have h3 := len_tot (a := seg t (f : Int) (g : Int)) (fun x hx => seg_ne hx)
    rw [← cat_len, seg_cat, List.length_drop, List.length_take, cat_len, ← HT.out] at h3
    omega
  have hSc : cat (S.map (·.1)) = ((cat t.ps).take g).drop f := by rw [hS, seg_cat, Int.toNat_natCast, Int.toNat_natCast]
  refine wpIn_rangeFunc_ownF hro hn1 (gf := 27) (lb := #[.pointer (some ⟨w2.heap.size, 0, none⟩), .pointer (some ⟨w2.heap.size + 1, 0, none⟩), .pointer (some ⟨w2.heap.size + 2, 0, none⟩)]) rfl f24 (enters_of Tryd.func27 (by kernel_rfl) rfl)
    (between_stops F HF.out (n - 1) w2.heap.size (w2.heap.size + 1) (w2.heap.size + 2) w.heap.size p (f : Int) (g : Int) t S W0 (by omega) (by omega) (by omega) (by omega) y0 y1 y2 (h.isT.below HBw) hf (by omega) (by omega) (by omega) (by omega) hS) belowK_t (belowK_b (by omega)) (Below.refl _ _) (fun _ => rfl)
    (fun pre W => Bd w1.heap.size w1.heap.size (cat (pre.map (·.1))) W ∧ Below w.heap.size w W)
    (fun _ _ _ => False)
    (OwnFrom.and (Own.from (bd_own _ _) _) (ownFrom_below (Nat.le_refl _) (by omega)))
    (fun _ _ _ _ _ hs _ _ => hs)
    ⟨hbd0, HBw⟩
    (fun x => { tmps := #[.agg #[.pointer p], .int .i64 (f : Int), .int .i64 (g : Int), .pointer (some ⟨w.heap.size, 0, none⟩), undef, undef, .string ⟨#[]⟩, .nilIface, .pointer (some ⟨w1.heap.size, 0, none⟩), .string x.1, .int .i64 (f : Int), .bool (decide ((f : Int) < 0)), .bool (decide ((f : Int) < 0)), .int .i64 (g : Int), .int .i64 (f : Int), .bool false, .bool (decide ((f : Int) < 0)), .bool (decide ((f : Int) < 0)), .int .i64 (g : Int), .agg #[.pointer p], .int .i64 (T : Int), .bool false, .bool (decide ((f : Int) < 0)), undef, .int .i64 (g : Int), .int .i64 (f : Int), .int .i64 (GF : Int), .tuple #[], .agg #[.pointer p], .int .i64 (f : Int), .int .i64 (g : Int),
      .func (.func 27) #[] #[.pointer (some ⟨w2.heap.size, 0, none⟩), .pointer (some ⟨w2.heap.size + 1, 0, none⟩), .pointer (some ⟨w2.heap.size + 2, 0, none⟩)], .string x.1, undef, undef, undef], defers := [] }) ?assign ?body ?done ?stop
  case assign =>
    intro l x W K hK
    gi_wp2
    exact hK
  case body =>
    rintro l pre x W ⟨hbd, hB⟩ hlt
    have hxs := x.2
    have hps := cat_small pre
    have cW := wide_in (n := n - 1 - 1 - 1) HF.out (write_at w1.heap.size w1.heap.size (cat (pre.map (·.1))) x.1 W hbd (by omega) (by rcases hbd with h' | h' <;> exact Nat.le_of_lt h'.lt))
    gi_wp2_with ((try refine ⟨hdd _, ?_⟩); gi_at_call 19; refine (CallsIn.inRound l cW).mono ?_; rintro e W' ⟨rfl, hbd', hB', hko⟩)
    exact ⟨hko, hB'.mono s1, by rw [cat_snoc]; exact hbd', hB.trans (hB'.mono s1)⟩
  case done =>
    rintro D ys W hD rfl ⟨hbd, hB⟩ hK
    have cS := wide_in (n := n - 1) HF.out (string_at w1.heap.size w1.heap.size (cat (ys.map (·.1))) W hbd (by rcases hbd with h' | h' <;> exact Nat.le_of_lt h'.lt))
    rw [hSc] at cS
    clear hSc hS hbd
    gi_wp2_with ((try refine ⟨hdd _, ?_⟩); gi_at_call 20; refine cS.mono ?_; rintro e W' ⟨rfl, hB', hko⟩)
    refine ⟨by simp, .inl ⟨_, _, rfl, run_takeDeferred (hko.same D _ hK rfl), ?_⟩⟩
    refine ⟨.tuple #[.string ⟨(((cat t.ps).take g).drop f).toArray⟩, .nilIface], by simp [results, Tryd.f9, go_sem], rfl, ?_⟩
    exact (hB.trans (hB'.mono s1)).trans (belowK_b (w := w) (Nat.le_refl _) W' D _ _ (by omega) (hko.same D _ hK rfl) rfl rfl)
  case stop =>
    rintro D c pre W _ _ h _
    exact h.elim
set_option maxRecDepth 100000 in
set_option maxHeartbeats 4000000 in
/-- String. -/
theorem String_at (p : Option Addr) (t : Tr) (w : World) (h : Is w p t) (hf : fit t.ps) :
    Calls Tryd.prog 8 #[.agg #[.pointer p]] w fun e w' => e = .returned (.string ⟨(cat t.ps).toArray⟩) ∧ Bl w w' := by
  have cl := fun w' (k : Bl w w') => Len_at p t w' (h.bl k)
  have cs := fun w' (k : Bl w w') => Slice_at p t 0 (tot t.ps) w' (h.bl k) hf (Nat.zero_le _) (Nat.le_refl _)
  rw [← cat_len, List.take_length, cat_len, List.drop_zero] at cs
  generalize tot t.ps = T at *
  generalize cat t.ps = C at *
  have HX := Bx.new w (.pointer p) 26
  have HB0 : Bl w (w.alloc (.cells #[.pointer p] 26)) := (Bl.refl w).alloc _
  go_enter Tryd.func8, Tryd.ntmps8
  go_wp2
  have HB : Bl w (w.alloc (.cells #[.pointer p] 26)).drew := HB0.drew
  have hx := HX.bl ((Bl.refl _).drew)
  have hz := hx.cell
  go_region_held3 (fun w' => w'.cell? ⟨w.heap.size, 0, none⟩ = some (.pointer p)) (assumption) (first | (go_at_call 7; refine (cl _ HB).mono ?_; clear cl; rintro e w3 ⟨rfl, hb3⟩; have HB3 := HB.trans hb3; have hx3 := hx.bl hb3; have hz3 := hx3.cell) | (go_at_call 9; refine (cs _ HB3).mono ?_; clear cs; rintro e w4 ⟨rfl, hb4⟩; have HB4 := HB3.trans hb4; have hx4 := hx3.bl hb4; have hz4 := hx4.cell))
  all_goals go_wp2
  all_goals go_ret
  all_goals exact ⟨rfl, HB4⟩
end Go.Proofs.YtkjlcgclabgkaaaDoor.pc
