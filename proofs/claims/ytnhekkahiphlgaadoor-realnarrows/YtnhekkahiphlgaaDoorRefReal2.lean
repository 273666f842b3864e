/- The document's own: which kind of a real bits are. -/
import Derived.Test.YtnhekkahiphlgaaDoorRefReal
namespace Go.Proofs.YtnhekkahiphlgaaDoor.rl
open Go.RowKit
open mem
attribute [local go_sem] World.cell?_alloc_some
theorem refApartNo (b : Nat) (d : Int) (hd : d ≠ 32 ∧ d ≠ 64) (w : World) :
    Calls Tryd.prog 31 #[.int .u64 b, .int .i64 d] w fun e w' => e = .returned (.tuple #[.agg #[.bool false, .int .i64 0, .int .u64 0], .int .i64 1]) ∧ Gb w w' := by
  go_enter Tryd.func31, Tryd.ntmps31
  go_wp2_with (go_at_call 23; refine (form_no d hd _).mono ?_; rintro e w1 ⟨rfl, rfl⟩)
  refine bodyPost_ret (v := .tuple #[.agg #[.bool false, .int .i64 0, .int .u64 0], .int .i64 1]) (by simp [results, Tryd.f31, go_sem]) rfl ⟨rfl, ?_⟩
  exact Gb.alloc (Gb.refl w) _ _
theorem refClassNo (b : Nat) (d : Int) (hd : d ≠ 32 ∧ d ≠ 64) (w : World) :
    Calls Tryd.prog 33 #[.int .u64 b, .int .i64 d] w fun e w' => e = .returned (.tuple #[.int .i64 0, .int .i64 1]) ∧ Gb w w' := by
  go_enter Tryd.func33, Tryd.ntmps33
  go_wp2_with (go_at_call 31; refine (refApartNo b d hd _).mono ?_; rintro e w1 ⟨rfl, g1⟩)
  go_ret2
  exact ⟨rfl, g1.trans (Gb.alloc (Gb.refl w1) _ _)⟩
theorem refClass32 (b x f c : Nat) (hb : b < 2 ^ 64) (hx : b / 2 ^ 23 % 256 = x) (hf : b % 2 ^ 23 = f) (hc : cls 255 x f = c) (w : World) :
    Calls Tryd.prog 33 #[.int .u64 b, .int .i64 32] w fun e w' => e = .returned (.tuple #[.int .i64 c, .int .i64 0]) ∧ Gb w w' := by
  have pE : ∀ w, Calls Tryd.prog 24 #[.int .i64 8] w fun e w' => e = .returned (.int .u64 256) ∧ w' = w := fun w => pow2_at 8 256 (by omega) rfl w
  generalize hn : (b / 2 ^ 31 % 2 == 1) = n
  have hxl : x < 256 := by omega
  have t1 : IntKind.u64.wrap (x : Int) = (x : Int) := wrap_u64 _ (by omega) (by omega)
  have t2 : IntKind.u64.wrap ((x : Int) + 1) = (x : Int) + 1 := wrap_u64 _ (by omega) (by omega)
  obtain ⟨z, hz⟩ : ∃ z : Bool, decide (0 < f) = z := ⟨_, rfl⟩
  have t4 : decide ((0 : Int) < (f : Int)) = z := by rw [← hz, Bool.eq_iff_iff]; simp
  have HN : Hid _ := hn
  have HX : Hid _ := hx
  have HF : Hid _ := hf
  have hcc : c = if x = 255 then (if z then 4 else 3) else if x = 0 then (if z then 1 else 0) else 2 := by
    rw [← hc, ← hz]; unfold cls
    by_cases h0 : f = 0
    · simp [h0]
    · have h1 : 0 < f := by omega
      simp [h0, h1]
  obtain ⟨t, ht⟩ : ∃ t : Bool, decide (x = 255) = t := ⟨_, rfl⟩
  have t3 : ((x : Int) + 1 == 256) = t := by rw [← ht, Bool.eq_iff_iff]; simp; omega
  obtain ⟨u, hu⟩ : ∃ u : Bool, decide (0 < x) = u := ⟨_, rfl⟩
  have t5 : decide ((0 : Int) < (x : Int)) = u := by rw [← hu, Bool.eq_iff_iff]; simp
  have hc2 : (c : Int) = if t then (if z then 4 else 3) else if u then 2 else (if z then 1 else 0) := by
    rw [hcc, ← ht, ← hu]; simp only [decide_eq_true_eq]
    clear t3 t5 ht hu hcc hc HX hx t1 t2
    by_cases h2 : x = 0
    · subst h2; cases z <;> rfl
    · by_cases h1 : x = 255
      · subst h1; cases z <;> rfl
      · have h3 : 0 < x := by omega
        rw [if_neg h1, if_neg h2, if_neg h1, if_pos h3]; rfl
  clear hn hx hf hc hcc ht hxl
  generalize (c : Int) = C at *
  subst hc2
  cases t <;> cases u <;> cases z <;> (
    simp only [decide_eq_true_eq, decide_eq_false_iff_not] at hu hz
    go_enter Tryd.func33, Tryd.ntmps33
    go_wp2_with (first | (go_at_call 31; refine (refApart32 b x f n hb HN.out HX.out HF.out _).mono ?_; rintro e w1 ⟨rfl, g1⟩) | (go_at_call 23; refine (form32 _).mono ?_; rintro e w2 ⟨rfl, rfl⟩))
    go_region_held3 (fun w' => w'.cell? ⟨w1.heap.size, 0, none⟩ = some (.bool n) ∧ w'.cell? ⟨w1.heap.size, 1, none⟩ = some (.int .i64 x) ∧ w'.cell? ⟨w1.heap.size, 2, none⟩ = some (.int .u64 f)) (go_keep) (first | (go_at_call 24; refine (pE _).mono ?_; rintro e w2 ⟨rfl, rfl⟩))
    go_wp2_with (go_at_call 25; refine (one_at _ _).mono ?_; rintro e w2 ⟨rfl, rfl⟩)
    go_ret2
    exact ⟨by simp, g1.trans (Gb.drew (Gb.alloc (Gb.refl w1) _ _))⟩)
theorem refClass64 (b x f c : Nat) (hb : b < 2 ^ 64) (hx : b / 2 ^ 52 % 2048 = x) (hf : b % 2 ^ 52 = f) (hc : cls 2047 x f = c) (w : World) :
    Calls Tryd.prog 33 #[.int .u64 b, .int .i64 64] w fun e w' => e = .returned (.tuple #[.int .i64 c, .int .i64 0]) ∧ Gb w w' := by
  have pE : ∀ w, Calls Tryd.prog 24 #[.int .i64 11] w fun e w' => e = .returned (.int .u64 2048) ∧ w' = w := fun w => pow2_at 11 2048 (by omega) rfl w
  generalize hn : (b / 2 ^ 63 % 2 == 1) = n
  have hxl : x < 2048 := by omega
  have t1 : IntKind.u64.wrap (x : Int) = (x : Int) := wrap_u64 _ (by omega) (by omega)
  have t2 : IntKind.u64.wrap ((x : Int) + 1) = (x : Int) + 1 := wrap_u64 _ (by omega) (by omega)
  obtain ⟨z, hz⟩ : ∃ z : Bool, decide (0 < f) = z := ⟨_, rfl⟩
  have t4 : decide ((0 : Int) < (f : Int)) = z := by rw [← hz, Bool.eq_iff_iff]; simp
  have HN : Hid _ := hn
  have HX : Hid _ := hx
  have HF : Hid _ := hf
  have hcc : c = if x = 2047 then (if z then 4 else 3) else if x = 0 then (if z then 1 else 0) else 2 := by
    rw [← hc, ← hz]; unfold cls
    by_cases h0 : f = 0
    · simp [h0]
    · have h1 : 0 < f := by omega
      simp [h0, h1]
  obtain ⟨t, ht⟩ : ∃ t : Bool, decide (x = 2047) = t := ⟨_, rfl⟩
  have t3 : ((x : Int) + 1 == 2048) = t := by rw [← ht, Bool.eq_iff_iff]; simp; omega
  obtain ⟨u, hu⟩ : ∃ u : Bool, decide (0 < x) = u := ⟨_, rfl⟩
  have t5 : decide ((0 : Int) < (x : Int)) = u := by rw [← hu, Bool.eq_iff_iff]; simp
  have hc2 : (c : Int) = if t then (if z then 4 else 3) else if u then 2 else (if z then 1 else 0) := by
    rw [hcc, ← ht, ← hu]; simp only [decide_eq_true_eq]
    clear t3 t5 ht hu hcc hc HX hx t1 t2
    by_cases h2 : x = 0
    · subst h2; cases z <;> rfl
    · by_cases h1 : x = 2047
      · subst h1; cases z <;> rfl
      · have h3 : 0 < x := by omega
        rw [if_neg h1, if_neg h2, if_neg h1, if_pos h3]; rfl
  clear hn hx hf hc hcc ht hxl
  generalize (c : Int) = C at *
  subst hc2
  cases t <;> cases u <;> cases z <;> (
    simp only [decide_eq_true_eq, decide_eq_false_iff_not] at hu hz
    go_enter Tryd.func33, Tryd.ntmps33
    go_wp2_with (first | (go_at_call 31; refine (refApart64 b x f n hb HN.out HX.out HF.out _).mono ?_; rintro e w1 ⟨rfl, g1⟩) | (go_at_call 23; refine (form64 _).mono ?_; rintro e w2 ⟨rfl, rfl⟩))
    go_region_held3 (fun w' => w'.cell? ⟨w1.heap.size, 0, none⟩ = some (.bool n) ∧ w'.cell? ⟨w1.heap.size, 1, none⟩ = some (.int .i64 x) ∧ w'.cell? ⟨w1.heap.size, 2, none⟩ = some (.int .u64 f)) (go_keep) (first | (go_at_call 24; refine (pE _).mono ?_; rintro e w2 ⟨rfl, rfl⟩))
    go_wp2_with (go_at_call 25; refine (one_at _ _).mono ?_; rintro e w2 ⟨rfl, rfl⟩)
    go_ret2
    exact ⟨by simp, g1.trans (Gb.drew (Gb.alloc (Gb.refl w1) _ _))⟩)
end Go.Proofs.YtnhekkahiphlgaaDoor.rl
