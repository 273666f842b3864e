/- Package real's functions: the next real, up and down. -/
import Derived.Test.YtnhekkahiphlgaaDoorReal4
namespace Go.Proofs.YtnhekkahiphlgaaDoor.rl
open Go.RowKit
open mem
attribute [local go_sem] World.cell?_alloc_some
/-- What stands next to a real of that sign and magnitude, up (d false) or down. -/
def nxt (n d : Bool) (m : Nat) : Bool × Nat := if n = d then (n, m + 1) else if m = 0 then (!n, 0) else (n, m - 1)
theorem nxt_key (s m : Nat) (n d : Bool) (y : Int) (hy : (y = 1 ∧ d = false) ∨ (y = -1 ∧ d = true)) (n' : Bool) (m' : Nat) (h : nxt n d m = (n', m')) :
    ((if n then -1 - (m : Int) else (m : Int)) + y = (m' : Int) ∧ (if n' then s else 0) + m' = m') ∨ ((if n then -1 - (m : Int) else (m : Int)) + y = -1 - (m' : Int) ∧ (if n' then s else 0) + m' = s + m') := by
  unfold nxt at h
  rcases hy with ⟨rfl, rfl⟩ | ⟨rfl, rfl⟩ <;> cases n
  · simp at h
    obtain ⟨rfl, rfl⟩ := h
    left; simp
  · by_cases h0 : m = 0
    · simp [h0] at h
      obtain ⟨rfl, rfl⟩ := h
      left; simp [h0]
    · simp [h0] at h
      obtain ⟨rfl, rfl⟩ := h
      right; simp; omega
  · by_cases h0 : m = 0
    · simp [h0] at h
      obtain ⟨rfl, rfl⟩ := h
      right; simp [h0]
    · simp [h0] at h
      obtain ⟨rfl, rfl⟩ := h
      left; simp; omega
  · simp at h
    obtain ⟨rfl, rfl⟩ := h
    right; simp; omega
theorem nxt_lt (M m : Nat) (n d : Bool) (n' : Bool) (m' : Nat) (h : nxt n d m = (n', m')) (h1 : n = d → m + 1 < M) (h2 : m < M) : m' < M := by
  unfold nxt at h
  by_cases e : n = d
  · rw [if_pos e] at h
    have := h1 e
    obtain ⟨rfl, rfl⟩ := Prod.mk.inj h
    omega
  · rw [if_neg e] at h
    by_cases h0 : m = 0
    · rw [if_pos h0] at h
      obtain ⟨rfl, rfl⟩ := Prod.mk.inj h
      omega
    · rw [if_neg h0] at h
      obtain ⟨rfl, rfl⟩ := Prod.mk.inj h
      omega
set_option maxHeartbeats 1000000 in
theorem beside32 (b x f m m' r : Nat) (n d n' : Bool) (y : Int) (hb : b < 2 ^ 64) (hn : (b / 2 ^ 31 % 2 == 1) = n) (hx : b / 2 ^ 23 % 256 = x) (hf : b % 2 ^ 23 = f) (hm : b % 2 ^ 31 = m)
    (hy : (y = 1 ∧ d = false) ∨ (y = -1 ∧ d = true)) (hok : x = 255 → f = 0 ∧ n ≠ d) (hr : nxt n d m = (n', m')) (hr' : (if n' then 2 ^ 31 else 0) + m' = r) (w : World) (hl : FL w) :
    Calls Tryd.prog 34 #[.int .u64 b, .int .i64 32, .int .i64 y] w fun e w' => e = .returned (.tuple #[.int .u64 r, .nilIface]) ∧ Gb w w' := by
  obtain ⟨c, hc⟩ : ∃ c, cls 255 x f = c := ⟨_, rfl⟩
  have hmx : m = x * 2 ^ 23 + f := by omega
  have hm' : m' < 2 ^ 31 := nxt_lt (2 ^ 31) m n d n' m' hr (fun e => by
    have : x ≠ 255 := fun ex => (hok ex).2 e
    omega) (by omega)
  obtain ⟨k, hk⟩ : ∃ k, keyN (2 ^ 31) b = k := ⟨_, rfl⟩
  have hkk : k = if n then -1 - (m : Int) else (m : Int) := by
    rw [← hk, ← hm, ← hn]; unfold keyN
    by_cases e : b / 2 ^ 31 % 2 = 1
    · rw [if_pos e, e]; rfl
    · rw [if_neg e, if_neg (by simpa using e)]
  have hK := nxt_key (2 ^ 31) m n d y hy n' m' hr
  rw [← hkk, hr'] at hK
  have hcc : c ≠ 4 := fun e => by
    rw [← hc] at e
    unfold cls at e
    split at e
    · rename_i hx'
      have := (hok hx').1
      rw [if_pos this] at e; omega
    · split at e
      · split at e <;> omega
      · omega
  have t4 : ((c : Int) == 4) = false := by simp; omega
  have hw : IntKind.i64.wrap (k + y) = k + y := by
    rcases hK with ⟨e, _⟩ | ⟨e, _⟩ <;> (rw [e]; exact wrap_i64 _ (by omega) (by omega))
  have hcc3 : c = 3 → n ≠ d := fun e => by
    rw [← hc] at e
    unfold cls at e
    split at e
    · rename_i hx'
      exact (hok hx').2
    · split at e
      · split at e <;> omega
      · omega
  have HN : Hid _ := hn
  have HX : Hid _ := hx
  have HF : Hid _ := hf
  have HC : Hid _ := hc
  have HK : Hid _ := hk
  have HKK : Hid _ := hK
  clear hn hx hf hc hk hK hkk hm hmx hok hr hr' hcc
  generalize hz : k + y = z at hw HKK
  by_cases e3 : c = 3
  · have t3 : ((c : Int) == 3) = true := by simp; omega
    have tn := hcc3 e3
    clear hcc3 e3
    rcases hy with ⟨rfl, rfl⟩ | ⟨rfl, rfl⟩
    · obtain rfl : n = true := by cases n <;> first | rfl | exact absurd rfl tn
      clear tn
      go_enter Tryd.func34, Tryd.ntmps34
      go_wp2_with (first
        | (go_at_call 26; refine (formOf32 _ hl).mono ?_; rintro e w1 ⟨rfl, g1⟩)
        | (go_at_call 35; refine (apart32 b x f true hb HN.out HX.out HF.out _).mono ?_; rintro e w2 ⟨rfl, g2⟩
           have c0 := at_gb g2 (a := ⟨w1.heap.size, 0, none⟩) (v := .int .i64 32) (by go_simp)
           have c1 := at_gb g2 (a := ⟨w1.heap.size, 1, none⟩) (v := .int .i64 8) (by go_simp)
           have c2 := at_gb g2 (a := ⟨w1.heap.size, 2, none⟩) (v := .int .i64 23) (by go_simp)
           have k2 : Gb w (w2.alloc (Obj.cells #[.bool true, .int .i64 x, .int .u64 f] 24)) := g1.trans (((Gb.refl w1).alloc _ _).trans (g2.trans ((Gb.refl w2).alloc _ _))))
        | (go_at_call 36; refine (class32 true x f c HC.out _).mono ?_; rintro e w3 ⟨rfl, g3⟩
           have d0 := at_gb g3 (a := ⟨w1.heap.size, 0, none⟩) (v := .int .i64 32) (by go_simp)
           have d1 := at_gb g3 (a := ⟨w1.heap.size, 1, none⟩) (v := .int .i64 8) (by go_simp)
           have d2 := at_gb g3 (a := ⟨w1.heap.size, 2, none⟩) (v := .int .i64 23) (by go_simp)
           have n0 := at_gb g3 (a := ⟨w2.heap.size, 0, none⟩) (v := .bool true) (by go_simp)
           have k3 := k2.trans g3))
      go_region_held3 (fun w' => w'.cell? ⟨w1.heap.size, 0, none⟩ = some (.int .i64 32) ∧ w'.cell? ⟨w1.heap.size, 1, none⟩ = some (.int .i64 8) ∧ w'.cell? ⟨w1.heap.size, 2, none⟩ = some (.int .i64 23)) (go_keep) (first
        | (go_at_call 32; refine (key32 b k hb HK.out _).mono ?_; rintro e w4 ⟨rfl, g4⟩
           have e0 := at_gb g4 (a := ⟨w1.heap.size, 0, none⟩) (v := .int .i64 32) (by go_simp)
           have e1 := at_gb g4 (a := ⟨w1.heap.size, 1, none⟩) (v := .int .i64 8) (by go_simp)
           have e2 := at_gb g4 (a := ⟨w1.heap.size, 2, none⟩) (v := .int .i64 23) (by go_simp))
        | (go_at_call 47; refine (atKey32 z m' r hm' HKK.out _).mono ?_; rintro e w5 ⟨rfl, g5⟩
           have f0 := at_gb g5 e0
           have f1 := at_gb g5 e1
           have f2 := at_gb g5 e2))
      go_wp2
      go_ret2
      exact ⟨rfl, k3.trans ((Gb.drew (Gb.refl w3)).trans (g4.trans g5))⟩
    · obtain rfl : n = false := by cases n <;> first | rfl | exact absurd rfl tn
      clear tn
      go_enter Tryd.func34, Tryd.ntmps34
      go_wp2_with (first
        | (go_at_call 26; refine (formOf32 _ hl).mono ?_; rintro e w1 ⟨rfl, g1⟩)
        | (go_at_call 35; refine (apart32 b x f false hb HN.out HX.out HF.out _).mono ?_; rintro e w2 ⟨rfl, g2⟩
           have c0 := at_gb g2 (a := ⟨w1.heap.size, 0, none⟩) (v := .int .i64 32) (by go_simp)
           have c1 := at_gb g2 (a := ⟨w1.heap.size, 1, none⟩) (v := .int .i64 8) (by go_simp)
           have c2 := at_gb g2 (a := ⟨w1.heap.size, 2, none⟩) (v := .int .i64 23) (by go_simp)
           have k2 : Gb w (w2.alloc (Obj.cells #[.bool false, .int .i64 x, .int .u64 f] 24)) := g1.trans (((Gb.refl w1).alloc _ _).trans (g2.trans ((Gb.refl w2).alloc _ _))))
        | (go_at_call 36; refine (class32 false x f c HC.out _).mono ?_; rintro e w3 ⟨rfl, g3⟩
           have d0 := at_gb g3 (a := ⟨w1.heap.size, 0, none⟩) (v := .int .i64 32) (by go_simp)
           have d1 := at_gb g3 (a := ⟨w1.heap.size, 1, none⟩) (v := .int .i64 8) (by go_simp)
           have d2 := at_gb g3 (a := ⟨w1.heap.size, 2, none⟩) (v := .int .i64 23) (by go_simp)
           have n0 := at_gb g3 (a := ⟨w2.heap.size, 0, none⟩) (v := .bool false) (by go_simp)
           have k3 := k2.trans g3))
      go_region_held3 (fun w' => w'.cell? ⟨w1.heap.size, 0, none⟩ = some (.int .i64 32) ∧ w'.cell? ⟨w1.heap.size, 1, none⟩ = some (.int .i64 8) ∧ w'.cell? ⟨w1.heap.size, 2, none⟩ = some (.int .i64 23)) (go_keep) (first
        | (go_at_call 32; refine (key32 b k hb HK.out _).mono ?_; rintro e w4 ⟨rfl, g4⟩
           have e0 := at_gb g4 (a := ⟨w1.heap.size, 0, none⟩) (v := .int .i64 32) (by go_simp)
           have e1 := at_gb g4 (a := ⟨w1.heap.size, 1, none⟩) (v := .int .i64 8) (by go_simp)
           have e2 := at_gb g4 (a := ⟨w1.heap.size, 2, none⟩) (v := .int .i64 23) (by go_simp))
        | (go_at_call 47; refine (atKey32 z m' r hm' HKK.out _).mono ?_; rintro e w5 ⟨rfl, g5⟩
           have f0 := at_gb g5 e0
           have f1 := at_gb g5 e1
           have f2 := at_gb g5 e2))
      go_wp2
      go_ret2
      exact ⟨rfl, k3.trans ((Gb.drew (Gb.refl w3)).trans (g4.trans g5))⟩
  · have t3 : ((c : Int) == 3) = false := by simp; omega
    clear hcc3 e3 hy
    go_enter Tryd.func34, Tryd.ntmps34
    go_wp2_with (first
      | (go_at_call 26; refine (formOf32 _ hl).mono ?_; rintro e w1 ⟨rfl, g1⟩)
      | (go_at_call 35; refine (apart32 b x f n hb HN.out HX.out HF.out _).mono ?_; rintro e w2 ⟨rfl, g2⟩
         have c0 := at_gb g2 (a := ⟨w1.heap.size, 0, none⟩) (v := .int .i64 32) (by go_simp)
         have c1 := at_gb g2 (a := ⟨w1.heap.size, 1, none⟩) (v := .int .i64 8) (by go_simp)
         have c2 := at_gb g2 (a := ⟨w1.heap.size, 2, none⟩) (v := .int .i64 23) (by go_simp)
         have k2 : Gb w (w2.alloc (Obj.cells #[.bool n, .int .i64 x, .int .u64 f] 24)) := g1.trans (((Gb.refl w1).alloc _ _).trans (g2.trans ((Gb.refl w2).alloc _ _))))
      | (go_at_call 36; refine (class32 n x f c HC.out _).mono ?_; rintro e w3 ⟨rfl, g3⟩
         have d0 := at_gb g3 (a := ⟨w1.heap.size, 0, none⟩) (v := .int .i64 32) (by go_simp)
         have d1 := at_gb g3 (a := ⟨w1.heap.size, 1, none⟩) (v := .int .i64 8) (by go_simp)
         have d2 := at_gb g3 (a := ⟨w1.heap.size, 2, none⟩) (v := .int .i64 23) (by go_simp)
         have n0 := at_gb g3 (a := ⟨w2.heap.size, 0, none⟩) (v := .bool n) (by go_simp)
         have k3 := k2.trans g3))
    go_region_held3 (fun w' => w'.cell? ⟨w1.heap.size, 0, none⟩ = some (.int .i64 32) ∧ w'.cell? ⟨w1.heap.size, 1, none⟩ = some (.int .i64 8) ∧ w'.cell? ⟨w1.heap.size, 2, none⟩ = some (.int .i64 23)) (go_keep) (first
      | (go_at_call 32; refine (key32 b k hb HK.out _).mono ?_; rintro e w4 ⟨rfl, g4⟩
         have e0 := at_gb g4 (a := ⟨w1.heap.size, 0, none⟩) (v := .int .i64 32) (by go_simp)
         have e1 := at_gb g4 (a := ⟨w1.heap.size, 1, none⟩) (v := .int .i64 8) (by go_simp)
         have e2 := at_gb g4 (a := ⟨w1.heap.size, 2, none⟩) (v := .int .i64 23) (by go_simp))
      | (go_at_call 47; refine (atKey32 z m' r hm' HKK.out _).mono ?_; rintro e w5 ⟨rfl, g5⟩
         have f0 := at_gb g5 e0
         have f1 := at_gb g5 e1
         have f2 := at_gb g5 e2))
    go_wp2
    go_ret2
    exact ⟨rfl, k3.trans ((Gb.drew (Gb.refl w3)).trans (g4.trans g5))⟩
set_option maxHeartbeats 1000000 in
theorem besideErr32 (b x f : Nat) (n d : Bool) (y : Int) (hb : b < 2 ^ 64) (hn : (b / 2 ^ 31 % 2 == 1) = n) (hx : b / 2 ^ 23 % 256 = x) (hf : b % 2 ^ 23 = f)
    (hy : (y = 1 ∧ d = false) ∨ (y = -1 ∧ d = true)) (hbad : x = 255 ∧ (f = 0 → n = d)) (w : World) (hl : FL w) :
    Calls Tryd.prog 34 #[.int .u64 b, .int .i64 32, .int .i64 y] w fun e w' => e = .returned (.tuple #[.int .u64 0, .iface 25 (.int .i64 2)]) ∧ Gb w w' := by
  obtain ⟨c, hc⟩ : ∃ c, cls 255 x f = c := ⟨_, rfl⟩
  have HN : Hid _ := hn
  have HX : Hid _ := hx
  have HF : Hid _ := hf
  have HC : Hid _ := hc
  by_cases f0 : f = 0
  · have hcc : c = 3 := by rw [← hc]; unfold cls; rw [if_pos hbad.1, if_pos f0]
    have t4 : ((c : Int) == 4) = false := by simp; omega
    have t3 : ((c : Int) == 3) = true := by simp; omega
    have e := hbad.2 f0
    clear hn hx hf hc hcc hbad f0
    rcases hy with ⟨rfl, rfl⟩ | ⟨rfl, rfl⟩
    · subst e
      go_enter Tryd.func34, Tryd.ntmps34
      go_wp2_with (first
        | (go_at_call 26; refine (formOf32 _ hl).mono ?_; rintro e w1 ⟨rfl, g1⟩)
        | (go_at_call 35; refine (apart32 b x f false hb HN.out HX.out HF.out _).mono ?_; rintro e w2 ⟨rfl, g2⟩
           have c0 := at_gb g2 (a := ⟨w1.heap.size, 0, none⟩) (v := .int .i64 32) (by go_simp)
           have c1 := at_gb g2 (a := ⟨w1.heap.size, 1, none⟩) (v := .int .i64 8) (by go_simp)
           have c2 := at_gb g2 (a := ⟨w1.heap.size, 2, none⟩) (v := .int .i64 23) (by go_simp)
           have k2 : Gb w (w2.alloc (Obj.cells #[.bool false, .int .i64 x, .int .u64 f] 24)) := g1.trans (((Gb.refl w1).alloc _ _).trans (g2.trans ((Gb.refl w2).alloc _ _))))
        | (go_at_call 36; refine (class32 false x f c HC.out _).mono ?_; rintro e w3 ⟨rfl, g3⟩
           have d0 := at_gb g3 (a := ⟨w1.heap.size, 0, none⟩) (v := .int .i64 32) (by go_simp)
           have d1 := at_gb g3 (a := ⟨w1.heap.size, 1, none⟩) (v := .int .i64 8) (by go_simp)
           have d2 := at_gb g3 (a := ⟨w1.heap.size, 2, none⟩) (v := .int .i64 23) (by go_simp)
           have n0 := at_gb g3 (a := ⟨w2.heap.size, 0, none⟩) (v := .bool false) (by go_simp)
           have k3 := k2.trans g3))
      go_ret2
      exact ⟨rfl, k3⟩
    · subst e
      go_enter Tryd.func34, Tryd.ntmps34
      go_wp2_with (first
        | (go_at_call 26; refine (formOf32 _ hl).mono ?_; rintro e w1 ⟨rfl, g1⟩)
        | (go_at_call 35; refine (apart32 b x f true hb HN.out HX.out HF.out _).mono ?_; rintro e w2 ⟨rfl, g2⟩
           have c0 := at_gb g2 (a := ⟨w1.heap.size, 0, none⟩) (v := .int .i64 32) (by go_simp)
           have c1 := at_gb g2 (a := ⟨w1.heap.size, 1, none⟩) (v := .int .i64 8) (by go_simp)
           have c2 := at_gb g2 (a := ⟨w1.heap.size, 2, none⟩) (v := .int .i64 23) (by go_simp)
           have k2 : Gb w (w2.alloc (Obj.cells #[.bool true, .int .i64 x, .int .u64 f] 24)) := g1.trans (((Gb.refl w1).alloc _ _).trans (g2.trans ((Gb.refl w2).alloc _ _))))
        | (go_at_call 36; refine (class32 true x f c HC.out _).mono ?_; rintro e w3 ⟨rfl, g3⟩
           have d0 := at_gb g3 (a := ⟨w1.heap.size, 0, none⟩) (v := .int .i64 32) (by go_simp)
           have d1 := at_gb g3 (a := ⟨w1.heap.size, 1, none⟩) (v := .int .i64 8) (by go_simp)
           have d2 := at_gb g3 (a := ⟨w1.heap.size, 2, none⟩) (v := .int .i64 23) (by go_simp)
           have n0 := at_gb g3 (a := ⟨w2.heap.size, 0, none⟩) (v := .bool true) (by go_simp)
           have k3 := k2.trans g3))
      go_ret2
      exact ⟨rfl, k3⟩
  · have hcc : c = 4 := by rw [← hc]; unfold cls; rw [if_pos hbad.1, if_neg f0]
    have t4 : ((c : Int) == 4) = true := by simp; omega
    clear hn hx hf hc hcc hbad f0 hy
    go_enter Tryd.func34, Tryd.ntmps34
    go_wp2_with (first
      | (go_at_call 26; refine (formOf32 _ hl).mono ?_; rintro e w1 ⟨rfl, g1⟩)
      | (go_at_call 35; refine (apart32 b x f n hb HN.out HX.out HF.out _).mono ?_; rintro e w2 ⟨rfl, g2⟩
         have c0 := at_gb g2 (a := ⟨w1.heap.size, 0, none⟩) (v := .int .i64 32) (by go_simp)
         have c1 := at_gb g2 (a := ⟨w1.heap.size, 1, none⟩) (v := .int .i64 8) (by go_simp)
         have c2 := at_gb g2 (a := ⟨w1.heap.size, 2, none⟩) (v := .int .i64 23) (by go_simp)
         have k2 : Gb w (w2.alloc (Obj.cells #[.bool n, .int .i64 x, .int .u64 f] 24)) := g1.trans (((Gb.refl w1).alloc _ _).trans (g2.trans ((Gb.refl w2).alloc _ _))))
      | (go_at_call 36; refine (class32 n x f c HC.out _).mono ?_; rintro e w3 ⟨rfl, g3⟩
         have d0 := at_gb g3 (a := ⟨w1.heap.size, 0, none⟩) (v := .int .i64 32) (by go_simp)
         have d1 := at_gb g3 (a := ⟨w1.heap.size, 1, none⟩) (v := .int .i64 8) (by go_simp)
         have d2 := at_gb g3 (a := ⟨w1.heap.size, 2, none⟩) (v := .int .i64 23) (by go_simp)
         have n0 := at_gb g3 (a := ⟨w2.heap.size, 0, none⟩) (v := .bool n) (by go_simp)
         have k3 := k2.trans g3))
    go_ret2
    exact ⟨rfl, k3⟩
set_option maxHeartbeats 1000000 in
theorem beside64 (b x f m m' r : Nat) (n d n' : Bool) (y : Int) (hb : b < 2 ^ 64) (hn : (b / 2 ^ 63 % 2 == 1) = n) (hx : b / 2 ^ 52 % 2048 = x) (hf : b % 2 ^ 52 = f) (hm : b % 2 ^ 63 = m)
    (hy : (y = 1 ∧ d = false) ∨ (y = -1 ∧ d = true)) (hok : x = 2047 → f = 0 ∧ n ≠ d) (hr : nxt n d m = (n', m')) (hr' : (if n' then 2 ^ 63 else 0) + m' = r) (w : World) (hl : FL w) :
    Calls Tryd.prog 34 #[.int .u64 b, .int .i64 64, .int .i64 y] w fun e w' => e = .returned (.tuple #[.int .u64 r, .nilIface]) ∧ Gb w w' := by
  obtain ⟨c, hc⟩ : ∃ c, cls 2047 x f = c := ⟨_, rfl⟩
  have hmx : m = x * 2 ^ 52 + f := by omega
  have hm' : m' < 2 ^ 63 := nxt_lt (2 ^ 63) m n d n' m' hr (fun e => by
    have : x ≠ 2047 := fun ex => (hok ex).2 e
    omega) (by omega)
  obtain ⟨k, hk⟩ : ∃ k, keyN (2 ^ 63) b = k := ⟨_, rfl⟩
  have hkk : k = if n then -1 - (m : Int) else (m : Int) := by
    rw [← hk, ← hm, ← hn]; unfold keyN
    by_cases e : b / 2 ^ 63 % 2 = 1
    · rw [if_pos e, e]; rfl
    · rw [if_neg e, if_neg (by simpa using e)]
  have hK := nxt_key (2 ^ 63) m n d y hy n' m' hr
  rw [← hkk, hr'] at hK
  have hcc : c ≠ 4 := fun e => by
    rw [← hc] at e
    unfold cls at e
    split at e
    · rename_i hx'
      have := (hok hx').1
      rw [if_pos this] at e; omega
    · split at e
      · split at e <;> omega
      · omega
  have t4 : ((c : Int) == 4) = false := by simp; omega
  have hw : IntKind.i64.wrap (k + y) = k + y := by
    rcases hK with ⟨e, _⟩ | ⟨e, _⟩ <;> (rw [e]; exact wrap_i64 _ (by omega) (by omega))
  have hcc3 : c = 3 → n ≠ d := fun e => by
    rw [← hc] at e
    unfold cls at e
    split at e
    · rename_i hx'
      exact (hok hx').2
    · split at e
      · split at e <;> omega
      · omega
  have HN : Hid _ := hn
  have HX : Hid _ := hx
  have HF : Hid _ := hf
  have HC : Hid _ := hc
  have HK : Hid _ := hk
  have HKK : Hid _ := hK
  clear hn hx hf hc hk hK hkk hm hmx hok hr hr' hcc
  generalize hz : k + y = z at hw HKK
  by_cases e3 : c = 3
  · have t3 : ((c : Int) == 3) = true := by simp; omega
    have tn := hcc3 e3
    clear hcc3 e3
    rcases hy with ⟨rfl, rfl⟩ | ⟨rfl, rfl⟩
    · obtain rfl : n = true := by cases n <;> first | rfl | exact absurd rfl tn
      clear tn
      go_enter Tryd.func34, Tryd.ntmps34
      go_wp2_with (first
        | (go_at_call 26; refine (formOf64 _ hl).mono ?_; rintro e w1 ⟨rfl, g1⟩)
        | (go_at_call 35; refine (apart64 b x f true hb HN.out HX.out HF.out _).mono ?_; rintro e w2 ⟨rfl, g2⟩
           have c0 := at_gb g2 (a := ⟨w1.heap.size, 0, none⟩) (v := .int .i64 64) (by go_simp)
           have c1 := at_gb g2 (a := ⟨w1.heap.size, 1, none⟩) (v := .int .i64 11) (by go_simp)
           have c2 := at_gb g2 (a := ⟨w1.heap.size, 2, none⟩) (v := .int .i64 52) (by go_simp)
           have k2 : Gb w (w2.alloc (Obj.cells #[.bool true, .int .i64 x, .int .u64 f] 24)) := g1.trans (((Gb.refl w1).alloc _ _).trans (g2.trans ((Gb.refl w2).alloc _ _))))
        | (go_at_call 36; refine (class64 true x f c HC.out _).mono ?_; rintro e w3 ⟨rfl, g3⟩
           have d0 := at_gb g3 (a := ⟨w1.heap.size, 0, none⟩) (v := .int .i64 64) (by go_simp)
           have d1 := at_gb g3 (a := ⟨w1.heap.size, 1, none⟩) (v := .int .i64 11) (by go_simp)
           have d2 := at_gb g3 (a := ⟨w1.heap.size, 2, none⟩) (v := .int .i64 52) (by go_simp)
           have n0 := at_gb g3 (a := ⟨w2.heap.size, 0, none⟩) (v := .bool true) (by go_simp)
           have k3 := k2.trans g3))
      go_region_held3 (fun w' => w'.cell? ⟨w1.heap.size, 0, none⟩ = some (.int .i64 64) ∧ w'.cell? ⟨w1.heap.size, 1, none⟩ = some (.int .i64 11) ∧ w'.cell? ⟨w1.heap.size, 2, none⟩ = some (.int .i64 52)) (go_keep) (first
        | (go_at_call 32; refine (key64 b k hb HK.out _).mono ?_; rintro e w4 ⟨rfl, g4⟩
           have e0 := at_gb g4 (a := ⟨w1.heap.size, 0, none⟩) (v := .int .i64 64) (by go_simp)
           have e1 := at_gb g4 (a := ⟨w1.heap.size, 1, none⟩) (v := .int .i64 11) (by go_simp)
           have e2 := at_gb g4 (a := ⟨w1.heap.size, 2, none⟩) (v := .int .i64 52) (by go_simp))
        | (go_at_call 47; refine (atKey64 z m' r hm' HKK.out _).mono ?_; rintro e w5 ⟨rfl, g5⟩
           have f0 := at_gb g5 e0
           have f1 := at_gb g5 e1
           have f2 := at_gb g5 e2))
      go_wp2
      go_ret2
      exact ⟨rfl, k3.trans ((Gb.drew (Gb.refl w3)).trans (g4.trans g5))⟩
    · obtain rfl : n = false := by cases n <;> first | rfl | exact absurd rfl tn
      clear tn
      go_enter Tryd.func34, Tryd.ntmps34
      go_wp2_with (first
        | (go_at_call 26; refine (formOf64 _ hl).mono ?_; rintro e w1 ⟨rfl, g1⟩)
        | (go_at_call 35; refine (apart64 b x f false hb HN.out HX.out HF.out _).mono ?_; rintro e w2 ⟨rfl, g2⟩
           have c0 := at_gb g2 (a := ⟨w1.heap.size, 0, none⟩) (v := .int .i64 64) (by go_simp)
           have c1 := at_gb g2 (a := ⟨w1.heap.size, 1, none⟩) (v := .int .i64 11) (by go_simp)
           have c2 := at_gb g2 (a := ⟨w1.heap.size, 2, none⟩) (v := .int .i64 52) (by go_simp)
           have k2 : Gb w (w2.alloc (Obj.cells #[.bool false, .int .i64 x, .int .u64 f] 24)) := g1.trans (((Gb.refl w1).alloc _ _).trans (g2.trans ((Gb.refl w2).alloc _ _))))
        | (go_at_call 36; refine (class64 false x f c HC.out _).mono ?_; rintro e w3 ⟨rfl, g3⟩
           have d0 := at_gb g3 (a := ⟨w1.heap.size, 0, none⟩) (v := .int .i64 64) (by go_simp)
           have d1 := at_gb g3 (a := ⟨w1.heap.size, 1, none⟩) (v := .int .i64 11) (by go_simp)
           have d2 := at_gb g3 (a := ⟨w1.heap.size, 2, none⟩) (v := .int .i64 52) (by go_simp)
           have n0 := at_gb g3 (a := ⟨w2.heap.size, 0, none⟩) (v := .bool false) (by go_simp)
           have k3 := k2.trans g3))
      go_region_held3 (fun w' => w'.cell? ⟨w1.heap.size, 0, none⟩ = some (.int .i64 64) ∧ w'.cell? ⟨w1.heap.size, 1, none⟩ = some (.int .i64 11) ∧ w'.cell? ⟨w1.heap.size, 2, none⟩ = some (.int .i64 52)) (go_keep) (first
        | (go_at_call 32; refine (key64 b k hb HK.out _).mono ?_; rintro e w4 ⟨rfl, g4⟩
           have e0 := at_gb g4 (a := ⟨w1.heap.size, 0, none⟩) (v := .int .i64 64) (by go_simp)
           have e1 := at_gb g4 (a := ⟨w1.heap.size, 1, none⟩) (v := .int .i64 11) (by go_simp)
           have e2 := at_gb g4 (a := ⟨w1.heap.size, 2, none⟩) (v := .int .i64 52) (by go_simp))
        | (go_at_call 47; refine (atKey64 z m' r hm' HKK.out _).mono ?_; rintro e w5 ⟨rfl, g5⟩
           have f0 := at_gb g5 e0
           have f1 := at_gb g5 e1
           have f2 := at_gb g5 e2))
      go_wp2
      go_ret2
      exact ⟨rfl, k3.trans ((Gb.drew (Gb.refl w3)).trans (g4.trans g5))⟩
  · have t3 : ((c : Int) == 3) = false := by simp; omega
    clear hcc3 e3 hy
    go_enter Tryd.func34, Tryd.ntmps34
    go_wp2_with (first
      | (go_at_call 26; refine (formOf64 _ hl).mono ?_; rintro e w1 ⟨rfl, g1⟩)
      | (go_at_call 35; refine (apart64 b x f n hb HN.out HX.out HF.out _).mono ?_; rintro e w2 ⟨rfl, g2⟩
         have c0 := at_gb g2 (a := ⟨w1.heap.size, 0, none⟩) (v := .int .i64 64) (by go_simp)
         have c1 := at_gb g2 (a := ⟨w1.heap.size, 1, none⟩) (v := .int .i64 11) (by go_simp)
         have c2 := at_gb g2 (a := ⟨w1.heap.size, 2, none⟩) (v := .int .i64 52) (by go_simp)
         have k2 : Gb w (w2.alloc (Obj.cells #[.bool n, .int .i64 x, .int .u64 f] 24)) := g1.trans (((Gb.refl w1).alloc _ _).trans (g2.trans ((Gb.refl w2).alloc _ _))))
      | (go_at_call 36; refine (class64 n x f c HC.out _).mono ?_; rintro e w3 ⟨rfl, g3⟩
         have d0 := at_gb g3 (a := ⟨w1.heap.size, 0, none⟩) (v := .int .i64 64) (by go_simp)
         have d1 := at_gb g3 (a := ⟨w1.heap.size, 1, none⟩) (v := .int .i64 11) (by go_simp)
         have d2 := at_gb g3 (a := ⟨w1.heap.size, 2, none⟩) (v := .int .i64 52) (by go_simp)
         have n0 := at_gb g3 (a := ⟨w2.heap.size, 0, none⟩) (v := .bool n) (by go_simp)
         have k3 := k2.trans g3))
    go_region_held3 (fun w' => w'.cell? ⟨w1.heap.size, 0, none⟩ = some (.int .i64 64) ∧ w'.cell? ⟨w1.heap.size, 1, none⟩ = some (.int .i64 11) ∧ w'.cell? ⟨w1.heap.size, 2, none⟩ = some (.int .i64 52)) (go_keep) (first
      | (go_at_call 32; refine (key64 b k hb HK.out _).mono ?_; rintro e w4 ⟨rfl, g4⟩
         have e0 := at_gb g4 (a := ⟨w1.heap.size, 0, none⟩) (v := .int .i64 64) (by go_simp)
         have e1 := at_gb g4 (a := ⟨w1.heap.size, 1, none⟩) (v := .int .i64 11) (by go_simp)
         have e2 := at_gb g4 (a := ⟨w1.heap.size, 2, none⟩) (v := .int .i64 52) (by go_simp))
      | (go_at_call 47; refine (atKey64 z m' r hm' HKK.out _).mono ?_; rintro e w5 ⟨rfl, g5⟩
         have f0 := at_gb g5 e0
         have f1 := at_gb g5 e1
         have f2 := at_gb g5 e2))
    go_wp2
    go_ret2
    exact ⟨rfl, k3.trans ((Gb.drew (Gb.refl w3)).trans (g4.trans g5))⟩
set_option maxHeartbeats 1000000 in
theorem besideErr64 (b x f : Nat) (n d : Bool) (y : Int) (hb : b < 2 ^ 64) (hn : (b / 2 ^ 63 % 2 == 1) = n) (hx : b / 2 ^ 52 % 2048 = x) (hf : b % 2 ^ 52 = f)
    (hy : (y = 1 ∧ d = false) ∨ (y = -1 ∧ d = true)) (hbad : x = 2047 ∧ (f = 0 → n = d)) (w : World) (hl : FL w) :
    Calls Tryd.prog 34 #[.int .u64 b, .int .i64 64, .int .i64 y] w fun e w' => e = .returned (.tuple #[.int .u64 0, .iface 25 (.int .i64 2)]) ∧ Gb w w' := by
  obtain ⟨c, hc⟩ : ∃ c, cls 2047 x f = c := ⟨_, rfl⟩
  have HN : Hid _ := hn
  have HX : Hid _ := hx
  have HF : Hid _ := hf
  have HC : Hid _ := hc
  by_cases f0 : f = 0
  · have hcc : c = 3 := by rw [← hc]; unfold cls; rw [if_pos hbad.1, if_pos f0]
    have t4 : ((c : Int) == 4) = false := by simp; omega
    have t3 : ((c : Int) == 3) = true := by simp; omega
    have e := hbad.2 f0
    clear hn hx hf hc hcc hbad f0
    rcases hy with ⟨rfl, rfl⟩ | ⟨rfl, rfl⟩
    · subst e
      go_enter Tryd.func34, Tryd.ntmps34
      go_wp2_with (first
        | (go_at_call 26; refine (formOf64 _ hl).mono ?_; rintro e w1 ⟨rfl, g1⟩)
        | (go_at_call 35; refine (apart64 b x f false hb HN.out HX.out HF.out _).mono ?_; rintro e w2 ⟨rfl, g2⟩
           have c0 := at_gb g2 (a := ⟨w1.heap.size, 0, none⟩) (v := .int .i64 64) (by go_simp)
           have c1 := at_gb g2 (a := ⟨w1.heap.size, 1, none⟩) (v := .int .i64 11) (by go_simp)
           have c2 := at_gb g2 (a := ⟨w1.heap.size, 2, none⟩) (v := .int .i64 52) (by go_simp)
           have k2 : Gb w (w2.alloc (Obj.cells #[.bool false, .int .i64 x, .int .u64 f] 24)) := g1.trans (((Gb.refl w1).alloc _ _).trans (g2.trans ((Gb.refl w2).alloc _ _))))
        | (go_at_call 36; refine (class64 false x f c HC.out _).mono ?_; rintro e w3 ⟨rfl, g3⟩
           have d0 := at_gb g3 (a := ⟨w1.heap.size, 0, none⟩) (v := .int .i64 64) (by go_simp)
           have d1 := at_gb g3 (a := ⟨w1.heap.size, 1, none⟩) (v := .int .i64 11) (by go_simp)
           have d2 := at_gb g3 (a := ⟨w1.heap.size, 2, none⟩) (v := .int .i64 52) (by go_simp)
           have n0 := at_gb g3 (a := ⟨w2.heap.size, 0, none⟩) (v := .bool false) (by go_simp)
           have k3 := k2.trans g3))
      go_ret2
      exact ⟨rfl, k3⟩
    · subst e
      go_enter Tryd.func34, Tryd.ntmps34
      go_wp2_with (first
        | (go_at_call 26; refine (formOf64 _ hl).mono ?_; rintro e w1 ⟨rfl, g1⟩)
        | (go_at_call 35; refine (apart64 b x f true hb HN.out HX.out HF.out _).mono ?_; rintro e w2 ⟨rfl, g2⟩
           have c0 := at_gb g2 (a := ⟨w1.heap.size, 0, none⟩) (v := .int .i64 64) (by go_simp)
           have c1 := at_gb g2 (a := ⟨w1.heap.size, 1, none⟩) (v := .int .i64 11) (by go_simp)
           have c2 := at_gb g2 (a := ⟨w1.heap.size, 2, none⟩) (v := .int .i64 52) (by go_simp)
           have k2 : Gb w (w2.alloc (Obj.cells #[.bool true, .int .i64 x, .int .u64 f] 24)) := g1.trans (((Gb.refl w1).alloc _ _).trans (g2.trans ((Gb.refl w2).alloc _ _))))
        | (go_at_call 36; refine (class64 true x f c HC.out _).mono ?_; rintro e w3 ⟨rfl, g3⟩
           have d0 := at_gb g3 (a := ⟨w1.heap.size, 0, none⟩) (v := .int .i64 64) (by go_simp)
           have d1 := at_gb g3 (a := ⟨w1.heap.size, 1, none⟩) (v := .int .i64 11) (by go_simp)
           have d2 := at_gb g3 (a := ⟨w1.heap.size, 2, none⟩) (v := .int .i64 52) (by go_simp)
           have n0 := at_gb g3 (a := ⟨w2.heap.size, 0, none⟩) (v := .bool true) (by go_simp)
           have k3 := k2.trans g3))
      go_ret2
      exact ⟨rfl, k3⟩
  · have hcc : c = 4 := by rw [← hc]; unfold cls; rw [if_pos hbad.1, if_neg f0]
    have t4 : ((c : Int) == 4) = true := by simp; omega
    clear hn hx hf hc hcc hbad f0 hy
    go_enter Tryd.func34, Tryd.ntmps34
    go_wp2_with (first
      | (go_at_call 26; refine (formOf64 _ hl).mono ?_; rintro e w1 ⟨rfl, g1⟩)
      | (go_at_call 35; refine (apart64 b x f n hb HN.out HX.out HF.out _).mono ?_; rintro e w2 ⟨rfl, g2⟩
         have c0 := at_gb g2 (a := ⟨w1.heap.size, 0, none⟩) (v := .int .i64 64) (by go_simp)
         have c1 := at_gb g2 (a := ⟨w1.heap.size, 1, none⟩) (v := .int .i64 11) (by go_simp)
         have c2 := at_gb g2 (a := ⟨w1.heap.size, 2, none⟩) (v := .int .i64 52) (by go_simp)
         have k2 : Gb w (w2.alloc (Obj.cells #[.bool n, .int .i64 x, .int .u64 f] 24)) := g1.trans (((Gb.refl w1).alloc _ _).trans (g2.trans ((Gb.refl w2).alloc _ _))))
      | (go_at_call 36; refine (class64 n x f c HC.out _).mono ?_; rintro e w3 ⟨rfl, g3⟩
         have d0 := at_gb g3 (a := ⟨w1.heap.size, 0, none⟩) (v := .int .i64 64) (by go_simp)
         have d1 := at_gb g3 (a := ⟨w1.heap.size, 1, none⟩) (v := .int .i64 11) (by go_simp)
         have d2 := at_gb g3 (a := ⟨w1.heap.size, 2, none⟩) (v := .int .i64 52) (by go_simp)
         have n0 := at_gb g3 (a := ⟨w2.heap.size, 0, none⟩) (v := .bool n) (by go_simp)
         have k3 := k2.trans g3))
    go_ret2
    exact ⟨rfl, k3⟩
theorem Up_of {b : Nat} {W : Int} {w : World} {v e : Value} (h : Calls Tryd.prog 34 #[.int .u64 b, .int .i64 W, .int .i64 1] w fun x w' => x = .returned (.tuple #[v, e]) ∧ Gb w w') :
    Calls Tryd.prog 14 #[.int .u64 b, .int .i64 W] w fun x w' => x = .returned (.tuple #[v, e]) ∧ Gb w w' := by
  go_enter Tryd.func14, Tryd.ntmps14
  go_wp2_with (go_at_call 34; refine h.mono ?_; rintro x w1 ⟨rfl, g1⟩)
  go_ret2
  exact ⟨rfl, g1⟩
theorem Down_of {b : Nat} {W : Int} {w : World} {v e : Value} (h : Calls Tryd.prog 34 #[.int .u64 b, .int .i64 W, .int .i64 (-1)] w fun x w' => x = .returned (.tuple #[v, e]) ∧ Gb w w') :
    Calls Tryd.prog 15 #[.int .u64 b, .int .i64 W] w fun x w' => x = .returned (.tuple #[v, e]) ∧ Gb w w' := by
  go_enter Tryd.func15, Tryd.ntmps15
  go_wp2_with (go_at_call 34; refine h.mono ?_; rintro x w1 ⟨rfl, g1⟩)
  go_ret2
  exact ⟨rfl, g1⟩
end Go.Proofs.YtnhekkahiphlgaaDoor.rl
