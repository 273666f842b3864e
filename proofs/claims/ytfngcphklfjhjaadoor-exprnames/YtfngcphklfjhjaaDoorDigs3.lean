/- What Number of package digits answers. -/
import Derived.Test.YtfngcphklfjhjaaDoorDigs2
namespace Go.Proofs.YtfngcphklfjhjaaDoor.digs
open Go.ChangeShapes Go.WideShapes Go.ChangeAt Go.RowKit
open mem dig

/-- Does a text begin so? -/
def pre (s p : ByteArray) : Bool := decide (p.size ≤ s.size) && ((s.extract 0 p.size).toList == p.toList)
def rest (s p : ByteArray) (b : Bool) : ByteArray := if b then s.extract p.size s.size else s
theorem cut_at (s p : ByteArray) (b : Bool) (w : World) (_hs : s.size ≤ 140737488351232) (_hp : p.size ≤ 140737488351232) (h : pre s p = b) :
    Calls Tryd.prog 78 #[.string s, .string p] w fun e w' => e = .returned (.tuple #[.string (rest s p b), .bool b]) ∧ w' = w := by
  unfold pre at h
  by_cases h1 : p.size ≤ s.size
  · have h2 : ((s.extract 0 p.size).toList == p.toList) = b := by simpa [h1] using h
    clear h
    cases b
    · go_enter Tryd.func78, Tryd.ntmps78
      go_wp2
      go_ret2
      exact ⟨rfl, rfl⟩
    · go_enter Tryd.func78, Tryd.ntmps78
      go_wp2
      go_ret2
      exact ⟨rfl, rfl⟩
  · obtain rfl : b = false := by simpa [h1] using h.symm
    clear h
    go_enter Tryd.func78, Tryd.ntmps78
    go_wp2
    go_ret2
    exact ⟨rfl, rfl⟩
theorem rest_size (s p : ByteArray) (b : Bool) : (rest s p b).size ≤ s.size := by
  unfold rest
  cases b
  · simp
  · simp [ByteArray.size_extract]
def px : ByteArray := ⟨#[48, 120]⟩
def pb : ByteArray := ⟨#[48, 98]⟩
def pm : ByteArray := ⟨#[45]⟩
/-- What stands behind what tells a base, and that base. -/
def Based (s t : ByteArray) (b : Int) : Prop :=
  (pre s px = true ∧ t = rest s px true ∧ b = 16) ∨ (pre s px = false ∧ pre s pb = true ∧ t = rest s pb true ∧ b = 2) ∨ (pre s px = false ∧ pre s pb = false ∧ t = s ∧ b = 10)
theorem based_some (s : ByteArray) : ∃ t b, Based s t b := by
  cases h1 : pre s px
  · cases h2 : pre s pb
    · exact ⟨s, 10, Or.inr (Or.inr ⟨h1, h2, rfl, rfl⟩)⟩
    · exact ⟨_, 2, Or.inr (Or.inl ⟨h1, h2, rfl, rfl⟩)⟩
  · exact ⟨_, 16, Or.inl ⟨h1, rfl, rfl⟩⟩
theorem Based.size {s t : ByteArray} {b : Int} (h : Based s t b) : t.size ≤ s.size := by
  rcases h with ⟨_, rfl, _⟩ | ⟨_, _, rfl, _⟩ | ⟨_, _, rfl, _⟩
  · exact rest_size _ _ _
  · exact rest_size _ _ _
  · exact Nat.le_refl _
theorem based_at (s t : ByteArray) (b : Int) (w : World) (hs : s.size ≤ 140737488351232) (h : Based s t b) :
    Calls Tryd.prog 80 #[.string s] w fun e w' => e = .returned (.tuple #[.string t, .int .i64 b]) ∧ w' = w := by
  have zx : px.size = 2 := rfl
  have zb : pb.size = 2 := rfl
  have cx : ∀ b w, pre s px = b → Calls Tryd.prog 78 #[.string s, .string ⟨#[48, 120]⟩] w fun e w' => e = .returned (.tuple #[.string (rest s px b), .bool b]) ∧ w' = w := fun b w h => cut_at s px b w hs (by omega) h
  have cb : ∀ b w, pre s pb = b → Calls Tryd.prog 78 #[.string s, .string ⟨#[48, 98]⟩] w fun e w' => e = .returned (.tuple #[.string (rest s pb b), .bool b]) ∧ w' = w := fun b w h => cut_at s pb b w hs (by omega) h
  rcases h with ⟨h1, rfl, rfl⟩ | ⟨h1, h2, rfl, rfl⟩ | ⟨h1, h2, rfl, rfl⟩
  · go_enter Tryd.func80, Tryd.ntmps80
    go_wp2_with (go_at_call 78; refine (cx _ _ h1).mono ?_; rintro e w1 ⟨rfl, rfl⟩)
    go_ret2
    exact ⟨rfl, rfl⟩
  · go_enter Tryd.func80, Tryd.ntmps80
    go_wp2_with (first | (go_at_call_of 78 (Value.string (ByteArray.mk #[48, 98])); refine (cb _ _ h2).mono ?_; rintro e w1 ⟨rfl, rfl⟩) | (go_at_call 78; refine (cx _ _ h1).mono ?_; rintro e w1 ⟨rfl, rfl⟩))
    go_ret2
    exact ⟨rfl, rfl⟩
  · go_enter Tryd.func80, Tryd.ntmps80
    go_wp2_with (first | (go_at_call_of 78 (Value.string (ByteArray.mk #[48, 98])); refine (cb _ _ h2).mono ?_; rintro e w1 ⟨rfl, rfl⟩) | (go_at_call 78; refine (cx _ _ h1).mono ?_; rintro e w1 ⟨rfl, rfl⟩))
    go_ret2
    exact ⟨rfl, rfl⟩
/-- What Number answers: of the sign, the number, and Parse's error: the number, and which error. -/
def Told (n : Bool) (v : Nat) (f : Int) (m e : Int) : Prop :=
  (f ≠ 0 ∧ m = 0 ∧ e = f) ∨ (f = 0 ∧ (9223372036854775808 < v ∨ (v = 9223372036854775808 ∧ n = false)) ∧ m = 0 ∧ e = 2) ∨
    (f = 0 ∧ v ≤ 9223372036854775808 ∧ (v = 9223372036854775808 → n = true) ∧ m = (if n then -(v : Int) else (v : Int)) ∧ e = 0)
theorem told_some (n : Bool) (v : Nat) (f : Int) : ∃ m e, Told n v f m e := by
  by_cases h1 : f = 0
  · by_cases h2 : 9223372036854775808 < v ∨ (v = 9223372036854775808 ∧ n = false)
    · exact ⟨0, 2, Or.inr (Or.inl ⟨h1, h2, rfl, rfl⟩)⟩
    · refine ⟨_, 0, Or.inr (Or.inr ⟨h1, by omega, fun hv => ?_, rfl, rfl⟩)⟩
      cases n
      · exact absurd (Or.inr ⟨hv, rfl⟩) h2
      · rfl
  · exact ⟨0, f, Or.inl ⟨h1, rfl, rfl⟩⟩
def Numbered (s : ByteArray) (m e : Int) : Prop := ∃ n t b v f, pre s pm = n ∧ Based (rest s pm n) t b ∧ Parsed b t v f ∧ Told n v f m e
theorem numbered_some (s : ByteArray) : ∃ m e, Numbered s m e := by
  obtain ⟨t, b, hb⟩ := based_some (rest s pm (pre s pm))
  obtain ⟨v, f, hp⟩ := parsed_some b t
  obtain ⟨m, e, ht⟩ := told_some (pre s pm) v f
  exact ⟨m, e, _, t, b, v, f, rfl, hb, hp, ht⟩
theorem ret_pair {a b : Int} {x : Value} (h : a = b) : Ending.returned (.tuple #[.int .i64 a, x]) = .returned (.tuple #[.int .i64 b, x]) := by rw [h]
set_option maxHeartbeats 1000000 in
theorem number_at (s : ByteArray) (m e : Int) (w : World) (hs : s.size ≤ 140737488351232) (h : Numbered s m e) :
    Calls Tryd.prog 64 #[.string s] w fun e' w' => e' = .returned (.tuple #[.int .i64 m, errI e]) ∧ w' = w := by
  obtain ⟨n, t, b, v, f, h1, h2, h3, h4⟩ := h
  have hv := h3.bd
  have hr := rest_size s pm n
  have ht := h2.size
  have cm : ∀ w, Calls Tryd.prog 78 #[.string s, .string ⟨#[45]⟩] w fun e w' => e = .returned (.tuple #[.string (rest s pm n), .bool n]) ∧ w' = w := fun w => cut_at s pm n w hs (show pm.size ≤ _ by show 1 ≤ _; omega) h1
  have cb := fun w => based_at (rest s pm n) t b w (by omega) h2
  have cp := fun w => parse_at b t v f w (by omega) h3
  clear h1 h2 h3
  rcases h4 with ⟨hf, rfl, rfl⟩ | ⟨rfl, h5, rfl, rfl⟩ | ⟨rfl, h5, h6, rfl, rfl⟩
  · have ei : errI e = .iface 24 (.int .i64 e) := if_neg hf
    rw [ei] at cp ⊢
    clear hv hr ht
    go_enter Tryd.func64, Tryd.ntmps64
    go_wp2_with (first | (go_at_call 78; refine (cm _).mono ?_; rintro e w1 ⟨rfl, rfl⟩) | (go_at_call 80; refine (cb _).mono ?_; rintro e w1 ⟨rfl, rfl⟩) | (go_at_call 79; refine (cp _).mono ?_; rintro e w1 ⟨rfl, rfl⟩))
    go_ret2
    exact ⟨rfl, rfl⟩
  · have ei : errI 0 = .nilIface := rfl
    rw [ei] at cp
    have H5 : Hid (9223372036854775808 < v ∨ (v = 9223372036854775808 ∧ n = false)) := h5
    clear h5 hr ht
    by_cases hlt : 9223372036854775808 < v
    · have hl : (9223372036854775808 : Int) < (v : Int) := by omega
      go_enter Tryd.func64, Tryd.ntmps64
      go_wp2_with (first | (go_at_call 78; refine (cm _).mono ?_; rintro e w1 ⟨rfl, rfl⟩) | (go_at_call 80; refine (cb _).mono ?_; rintro e w1 ⟨rfl, rfl⟩) | (go_at_call 79; refine (cp _).mono ?_; rintro e w1 ⟨rfl, rfl⟩))
      go_ret2
      exact ⟨rfl, rfl⟩
    · obtain ⟨rfl, rfl⟩ : v = 9223372036854775808 ∧ n = false := by
        rcases H5.out with h | h
        · omega
        · exact h
      go_enter Tryd.func64, Tryd.ntmps64
      go_wp2_with (first | (go_at_call 78; refine (cm _).mono ?_; rintro e w1 ⟨rfl, rfl⟩) | (go_at_call 80; refine (cb _).mono ?_; rintro e w1 ⟨rfl, rfl⟩) | (go_at_call 79; refine (cp _).mono ?_; rintro e w1 ⟨rfl, rfl⟩))
      go_ret2
      exact ⟨rfl, rfl⟩
  · have ei : errI 0 = .nilIface := rfl
    rw [ei] at cp ⊢
    have hle : ¬ (9223372036854775808 : Int) < (v : Int) := by omega
    have H6 : Hid (v = 9223372036854775808 → n = true) := h6
    clear h6 hr ht
    cases n
    · have hn2 : v ≠ 9223372036854775808 := fun h => by cases H6.out h
      have hne : ((v : Int) == 9223372036854775808) = false := by simp; omega
      go_enter Tryd.func64, Tryd.ntmps64
      go_wp2_with (first | (go_at_call 78; refine (cm _).mono ?_; rintro e w1 ⟨rfl, rfl⟩) | (go_at_call 80; refine (cb _).mono ?_; rintro e w1 ⟨rfl, rfl⟩) | (go_at_call 79; refine (cp _).mono ?_; rintro e w1 ⟨rfl, rfl⟩))
      go_ret2
      exact ⟨rfl, rfl⟩
    · go_enter Tryd.func64, Tryd.ntmps64
      go_wp2_with (first | (go_at_call 78; refine (cm _).mono ?_; rintro e w1 ⟨rfl, rfl⟩) | (go_at_call 80; refine (cb _).mono ?_; rintro e w1 ⟨rfl, rfl⟩) | (go_at_call 79; refine (cp _).mono ?_; rintro e w1 ⟨rfl, rfl⟩))
      all_goals go_ret2
      all_goals exact ⟨ret_pair (by simp only [IntKind.wrap_u64, wrap64]; omega), rfl⟩
end Go.Proofs.YtfngcphklfjhjaaDoor.digs
