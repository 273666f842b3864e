/- The next real, up and down: the program's and the document's own, side by side. -/
import Derived.Test.YtnhekkahiphlgaaDoorRefReal5
import Derived.Test.YtnhekkahiphlgaaDoorRefReal6
import Derived.Test.YtnhekkahiphlgaaDoorBare
namespace Go.Proofs.YtnhekkahiphlgaaDoor.rl
open Go.RowKit
open mem errs
/-- An error, as it is told: none for 0. -/
def errI (e : Int) : Value := if e = 0 then .nilIface else .iface 25 (.int .i64 e)
theorem bareI (e : Int) (w : World) (hg : Laid w) : Calls Tryd.prog 10 #[errI e, .int .i64 e] w fun ev w' => ev = .returned (.bool true) ∧ Gb w w' := by
  unfold errI
  split
  · rename_i h
    subst h
    refine (bare_nil 0 w).mono ?_
    rintro e' w' ⟨rfl, rfl⟩
    exact ⟨rfl, Gb.refl _⟩
  · refine (bare_errno e e w hg).mono ?_
    rintro e' w' ⟨rfl, g⟩
    exact ⟨by simp, g⟩
theorem refNext32 (b x f m m' r : Nat) (n d n' : Bool) (y : Int) (hb : b < 2 ^ 64) (hn : (b / 2 ^ 31 % 2 == 1) = n) (hx : b / 2 ^ 23 % 256 = x) (hf : b % 2 ^ 23 = f) (hm : b % 2 ^ 31 = m)
    (hy : (y = 1 ∧ d = false) ∨ (y = -1 ∧ d = true)) (hok : x = 255 → f = 0 ∧ n ≠ d) (hr : nxt n d m = (n', m')) (hr' : (if n' then 2 ^ 31 else 0) + m' = r) (w : World) :
    Calls Tryd.prog 13 #[.int .u64 b, .int .i64 32, .int .i64 y] w fun e w' => e = .returned (.tuple #[.int .u64 r, .int .i64 0]) ∧ Gb w w' := by
  obtain ⟨c, hc⟩ : ∃ c, cls 255 x f = c := ⟨_, rfl⟩
  obtain ⟨c4, c3⟩ := cls_ne4 255 x f c d n hok hc
  have hm' : m' < 2 ^ 31 := nxt_lt (2 ^ 31) m n d n' m' hr (fun e => by
    have : x ≠ 255 := fun ex => (hok ex).2 e
    omega) (by omega)
  have hX : m' / 2 ^ 23 < 256 := by omega
  have hR : (if n' then 2 ^ 31 else 0) + m' / 2 ^ 23 * 2 ^ 23 + m' % 2 ^ 23 = r := by rw [← hr', Nat.add_assoc]; congr 1; omega
  unfold nxt at hr
  rcases hy with ⟨rfl, rfl⟩ | ⟨rfl, rfl⟩
  · cases n
    · simp at hr
      obtain ⟨rfl, h2⟩ := hr
      exact refNextUfaway32 b x f m m' _ _ r c hb hn hx hf hm hc c4 (fun e => c3 e rfl) h2 rfl rfl hX hR w
    · by_cases h0 : m = 0
      · simp [h0] at hr
        obtain ⟨rfl, h2⟩ := hr
        exact refNextUtzero32 b x f m m' _ _ r c hb hn hx hf hm hc c4 h0 h2 rfl rfl hX hR w
      · simp [h0] at hr
        obtain ⟨rfl, h2⟩ := hr
        exact refNextUtdec32 b x f m m' _ _ r c hb hn hx hf hm hc c4 h0 h2 rfl rfl hX hR w
  · cases n
    · by_cases h0 : m = 0
      · simp [h0] at hr
        obtain ⟨rfl, h2⟩ := hr
        exact refNextDfzero32 b x f m m' _ _ r c hb hn hx hf hm hc c4 h0 h2 rfl rfl hX hR w
      · simp [h0] at hr
        obtain ⟨rfl, h2⟩ := hr
        exact refNextDfdec32 b x f m m' _ _ r c hb hn hx hf hm hc c4 h0 h2 rfl rfl hX hR w
    · simp at hr
      obtain ⟨rfl, h2⟩ := hr
      exact refNextDtaway32 b x f m m' _ _ r c hb hn hx hf hm hc c4 (fun e => c3 e rfl) h2 rfl rfl hX hR w
/-- What is next to bits is one answer, of the program and of the document. -/
theorem next32 (b : Nat) (hb : b < 2 ^ 64) (d : Bool) (y : Int) (hy : (y = 1 ∧ d = false) ∨ (y = -1 ∧ d = true)) : ∃ (r : Nat) (e : Int),
    (∀ w, FL w → Calls Tryd.prog 34 #[.int .u64 b, .int .i64 32, .int .i64 y] w fun x w' => x = .returned (.tuple #[.int .u64 r, errI e]) ∧ Gb w w') ∧
    (∀ w, Calls Tryd.prog 13 #[.int .u64 b, .int .i64 32, .int .i64 y] w fun x w' => x = .returned (.tuple #[.int .u64 r, .int .i64 e]) ∧ Gb w w') := by
  obtain ⟨x, hx⟩ : ∃ x, b / 2 ^ 23 % 256 = x := ⟨_, rfl⟩
  obtain ⟨f, hf⟩ : ∃ f, b % 2 ^ 23 = f := ⟨_, rfl⟩
  obtain ⟨n, hn⟩ : ∃ n, (b / 2 ^ 31 % 2 == 1) = n := ⟨_, rfl⟩
  by_cases hbad : x = 255 ∧ (f = 0 → n = d)
  · exact ⟨0, 2, fun w hl => besideErr32 b x f n d y hb hn hx hf hy hbad w hl, fun w => refNextErr32 b x f n d y hb hn hx hf hy hbad w⟩
  · have hok : x = 255 → f = 0 ∧ n ≠ d := fun ex => by
      by_cases f0 : f = 0
      · exact ⟨f0, fun e => hbad ⟨ex, fun _ => e⟩⟩
      · exact absurd ⟨ex, fun h => absurd h f0⟩ hbad
    obtain ⟨n', m', hr⟩ : ∃ n' m', nxt n d (b % 2 ^ 31) = (n', m') := ⟨_, _, rfl⟩
    exact ⟨_, 0, fun w hl => beside32 b x f _ m' _ n d n' y hb hn hx hf rfl hy hok hr rfl w hl, fun w => refNext32 b x f _ m' _ n d n' y hb hn hx hf rfl hy hok hr rfl w⟩
theorem refNext64 (b x f m m' r : Nat) (n d n' : Bool) (y : Int) (hb : b < 2 ^ 64) (hn : (b / 2 ^ 63 % 2 == 1) = n) (hx : b / 2 ^ 52 % 2048 = x) (hf : b % 2 ^ 52 = f) (hm : b % 2 ^ 63 = m)
    (hy : (y = 1 ∧ d = false) ∨ (y = -1 ∧ d = true)) (hok : x = 2047 → f = 0 ∧ n ≠ d) (hr : nxt n d m = (n', m')) (hr' : (if n' then 2 ^ 63 else 0) + m' = r) (w : World) :
    Calls Tryd.prog 13 #[.int .u64 b, .int .i64 64, .int .i64 y] w fun e w' => e = .returned (.tuple #[.int .u64 r, .int .i64 0]) ∧ Gb w w' := by
  obtain ⟨c, hc⟩ : ∃ c, cls 2047 x f = c := ⟨_, rfl⟩
  obtain ⟨c4, c3⟩ := cls_ne4 2047 x f c d n hok hc
  have hm' : m' < 2 ^ 63 := nxt_lt (2 ^ 63) m n d n' m' hr (fun e => by
    have : x ≠ 2047 := fun ex => (hok ex).2 e
    omega) (by omega)
  have hX : m' / 2 ^ 52 < 2048 := by omega
  have hR : (if n' then 2 ^ 63 else 0) + m' / 2 ^ 52 * 2 ^ 52 + m' % 2 ^ 52 = r := by rw [← hr', Nat.add_assoc]; congr 1; omega
  unfold nxt at hr
  rcases hy with ⟨rfl, rfl⟩ | ⟨rfl, rfl⟩
  · cases n
    · simp at hr
      obtain ⟨rfl, h2⟩ := hr
      exact refNextUfaway64 b x f m m' _ _ r c hb hn hx hf hm hc c4 (fun e => c3 e rfl) h2 rfl rfl hX hR w
    · by_cases h0 : m = 0
      · simp [h0] at hr
        obtain ⟨rfl, h2⟩ := hr
        exact refNextUtzero64 b x f m m' _ _ r c hb hn hx hf hm hc c4 h0 h2 rfl rfl hX hR w
      · simp [h0] at hr
        obtain ⟨rfl, h2⟩ := hr
        exact refNextUtdec64 b x f m m' _ _ r c hb hn hx hf hm hc c4 h0 h2 rfl rfl hX hR w
  · cases n
    · by_cases h0 : m = 0
      · simp [h0] at hr
        obtain ⟨rfl, h2⟩ := hr
        exact refNextDfzero64 b x f m m' _ _ r c hb hn hx hf hm hc c4 h0 h2 rfl rfl hX hR w
      · simp [h0] at hr
        obtain ⟨rfl, h2⟩ := hr
        exact refNextDfdec64 b x f m m' _ _ r c hb hn hx hf hm hc c4 h0 h2 rfl rfl hX hR w
    · simp at hr
      obtain ⟨rfl, h2⟩ := hr
      exact refNextDtaway64 b x f m m' _ _ r c hb hn hx hf hm hc c4 (fun e => c3 e rfl) h2 rfl rfl hX hR w
/-- What is next to bits is one answer, of the program and of the document. -/
theorem next64 (b : Nat) (hb : b < 2 ^ 64) (d : Bool) (y : Int) (hy : (y = 1 ∧ d = false) ∨ (y = -1 ∧ d = true)) : ∃ (r : Nat) (e : Int),
    (∀ w, FL w → Calls Tryd.prog 34 #[.int .u64 b, .int .i64 64, .int .i64 y] w fun x w' => x = .returned (.tuple #[.int .u64 r, errI e]) ∧ Gb w w') ∧
    (∀ w, Calls Tryd.prog 13 #[.int .u64 b, .int .i64 64, .int .i64 y] w fun x w' => x = .returned (.tuple #[.int .u64 r, .int .i64 e]) ∧ Gb w w') := by
  obtain ⟨x, hx⟩ : ∃ x, b / 2 ^ 52 % 2048 = x := ⟨_, rfl⟩
  obtain ⟨f, hf⟩ : ∃ f, b % 2 ^ 52 = f := ⟨_, rfl⟩
  obtain ⟨n, hn⟩ : ∃ n, (b / 2 ^ 63 % 2 == 1) = n := ⟨_, rfl⟩
  by_cases hbad : x = 2047 ∧ (f = 0 → n = d)
  · exact ⟨0, 2, fun w hl => besideErr64 b x f n d y hb hn hx hf hy hbad w hl, fun w => refNextErr64 b x f n d y hb hn hx hf hy hbad w⟩
  · have hok : x = 2047 → f = 0 ∧ n ≠ d := fun ex => by
      by_cases f0 : f = 0
      · exact ⟨f0, fun e => hbad ⟨ex, fun _ => e⟩⟩
      · exact absurd ⟨ex, fun h => absurd h f0⟩ hbad
    obtain ⟨n', m', hr⟩ : ∃ n' m', nxt n d (b % 2 ^ 63) = (n', m') := ⟨_, _, rfl⟩
    exact ⟨_, 0, fun w hl => beside64 b x f _ m' _ n d n' y hb hn hx hf rfl hy hok hr rfl w hl, fun w => refNext64 b x f _ m' _ n d n' y hb hn hx hf rfl hy hok hr rfl w⟩
end Go.Proofs.YtnhekkahiphlgaaDoor.rl
