/- Texts laid together: Digs3, AsAt, TellAt, Ex2. -/
import Derived.Test.YtpanodaecjlgaaaGreatDoorZ7
import Derived.Test.YtpanodaecjlgaaaGreatDoorZ1
/- What Number of package digits answers. -/
namespace Go.Proofs.YtpanodaecjlgaaaGreatDoor.digs
open Go.ChangeShapes Go.WideShapes Go.ChangeAt Go.RowKit
open mem dig

/-- Does a text begin so? -/
def pre (s p : ByteArray) : Bool := decide (p.size ≤ s.size) && ((s.extract 0 p.size).toList == p.toList)
def rest (s p : ByteArray) (b : Bool) : ByteArray := if b then s.extract p.size s.size else s
theorem cut_at (s p : ByteArray) (b : Bool) (w : World) (_hs : s.size ≤ 140737488351232) (_hp : p.size ≤ 140737488351232) (h : pre s p = b) :
    Calls Tryz.prog 173 #[.string s, .string p] w fun e w' => e = .returned (.tuple #[.string (rest s p b), .bool b]) ∧ w' = w := by
  unfold pre at h
  by_cases h1 : p.size ≤ s.size
  · have h2 : ((s.extract 0 p.size).toList == p.toList) = b := by simpa [h1] using h
    clear h
    cases b
    · go_enter Tryz.func173, Tryz.ntmps173
      go_wp2
      go_ret2
      exact ⟨rfl, rfl⟩
    · go_enter Tryz.func173, Tryz.ntmps173
      go_wp2
      go_ret2
      exact ⟨rfl, rfl⟩
  · obtain rfl : b = false := by simpa [h1] using h.symm
    clear h
    go_enter Tryz.func173, Tryz.ntmps173
    go_wp2
    go_ret2
    exact ⟨rfl, rfl⟩
theorem rest_size (s p : ByteArray) (b : Bool) : (rest s p b).size ≤ s.size := by
  unfold rest
  cases b
  · simp
  · simp [ByteArray.size_extract]
def px : ByteArray := ⟨#[48, 120]⟩
def pb : ByteArray := ⟨#[48, 98]⟩
def pm : ByteArray := ⟨#[45]⟩
/-- What stands behind what tells a base, and that base. -/
def Based (s t : ByteArray) (b : Int) : Prop :=
  (pre s px = true ∧ t = rest s px true ∧ b = 16) ∨ (pre s px = false ∧ pre s pb = true ∧ t = rest s pb true ∧ b = 2) ∨ (pre s px = false ∧ pre s pb = false ∧ t = s ∧ b = 10)
theorem based_some (s : ByteArray) : ∃ t b, Based s t b := by
  cases h1 : pre s px
  · cases h2 : pre s pb
    · exact ⟨s, 10, Or.inr (Or.inr ⟨h1, h2, rfl, rfl⟩)⟩
    · exact ⟨_, 2, Or.inr (Or.inl ⟨h1, h2, rfl, rfl⟩)⟩
  · exact ⟨_, 16, Or.inl ⟨h1, rfl, rfl⟩⟩
theorem Based.size {s t : ByteArray} {b : Int} (h : Based s t b) : t.size ≤ s.size := by
  rcases h with ⟨_, rfl, _⟩ | ⟨_, _, rfl, _⟩ | ⟨_, _, rfl, _⟩
  · exact rest_size _ _ _
  · exact rest_size _ _ _
  · exact Nat.le_refl _
theorem based_at (s t : ByteArray) (b : Int) (w : World) (hs : s.size ≤ 140737488351232) (h : Based s t b) :
    Calls Tryz.prog 175 #[.string s] w fun e w' => e = .returned (.tuple #[.string t, .int .i64 b]) ∧ w' = w := by
  have zx : px.size = 2 := rfl
  have zb : pb.size = 2 := rfl
  have cx : ∀ b w, pre s px = b → Calls Tryz.prog 173 #[.string s, .string ⟨#[48, 120]⟩] w fun e w' => e = .returned (.tuple #[.string (rest s px b), .bool b]) ∧ w' = w := fun b w h => cut_at s px b w hs (by omega) h
  have cb : ∀ b w, pre s pb = b → Calls Tryz.prog 173 #[.string s, .string ⟨#[48, 98]⟩] w fun e w' => e = .returned (.tuple #[.string (rest s pb b), .bool b]) ∧ w' = w := fun b w h => cut_at s pb b w hs (by omega) h
  rcases h with ⟨h1, rfl, rfl⟩ | ⟨h1, h2, rfl, rfl⟩ | ⟨h1, h2, rfl, rfl⟩
  · go_enter Tryz.func175, Tryz.ntmps175
    go_wp2_with (go_at_call 173; refine (cx _ _ h1).mono ?_; rintro e w1 ⟨rfl, rfl⟩)
    go_ret2
    exact ⟨rfl, rfl⟩
  · go_enter Tryz.func175, Tryz.ntmps175
    go_wp2_with (first | (go_at_call_of 173 (Value.string (ByteArray.mk #[48, 98])); refine (cb _ _ h2).mono ?_; rintro e w1 ⟨rfl, rfl⟩) | (go_at_call 173; refine (cx _ _ h1).mono ?_; rintro e w1 ⟨rfl, rfl⟩))
    go_ret2
    exact ⟨rfl, rfl⟩
  · go_enter Tryz.func175, Tryz.ntmps175
    go_wp2_with (first | (go_at_call_of 173 (Value.string (ByteArray.mk #[48, 98])); refine (cb _ _ h2).mono ?_; rintro e w1 ⟨rfl, rfl⟩) | (go_at_call 173; refine (cx _ _ h1).mono ?_; rintro e w1 ⟨rfl, rfl⟩))
    go_ret2
    exact ⟨rfl, rfl⟩
/-- What Number answers: of the sign, the number, and Parse's error: the number, and which error. -/
def Told (n : Bool) (v : Nat) (f : Int) (m e : Int) : Prop :=
  (f ≠ 0 ∧ m = 0 ∧ e = f) ∨ (f = 0 ∧ (9223372036854775808 < v ∨ (v = 9223372036854775808 ∧ n = false)) ∧ m = 0 ∧ e = 2) ∨
    (f = 0 ∧ v ≤ 9223372036854775808 ∧ (v = 9223372036854775808 → n = true) ∧ m = (if n then -(v : Int) else (v : Int)) ∧ e = 0)
theorem told_some (n : Bool) (v : Nat) (f : Int) : ∃ m e, Told n v f m e := by
  by_cases h1 : f = 0
  · by_cases h2 : 9223372036854775808 < v ∨ (v = 9223372036854775808 ∧ n = false)
    · exact ⟨0, 2, Or.inr (Or.inl ⟨h1, h2, rfl, rfl⟩)⟩
    · refine ⟨_, 0, Or.inr (Or.inr ⟨h1, by omega, fun hv => ?_, rfl, rfl⟩)⟩
      cases n
      · exact absurd (Or.inr ⟨hv, rfl⟩) h2
      · rfl
  · exact ⟨0, f, Or.inl ⟨h1, rfl, rfl⟩⟩
def Numbered (s : ByteArray) (m e : Int) : Prop := ∃ n t b v f, pre s pm = n ∧ Based (rest s pm n) t b ∧ Parsed b t v f ∧ Told n v f m e
theorem numbered_some (s : ByteArray) : ∃ m e, Numbered s m e := by
  obtain ⟨t, b, hb⟩ := based_some (rest s pm (pre s pm))
  obtain ⟨v, f, hp⟩ := parsed_some b t
  obtain ⟨m, e, ht⟩ := told_some (pre s pm) v f
  exact ⟨m, e, _, t, b, v, f, rfl, hb, hp, ht⟩
theorem ret_pair {a b : Int} {x : Value} (h : a = b) : Ending.returned (.tuple #[.int .i64 a, x]) = .returned (.tuple #[.int .i64 b, x]) := by rw [h]
set_option maxHeartbeats 1000000 in
theorem number_at (s : ByteArray) (m e : Int) (w : World) (hs : s.size ≤ 140737488351232) (h : Numbered s m e) :
    Calls Tryz.prog 165 #[.string s] w fun e' w' => e' = .returned (.tuple #[.int .i64 m, errI e]) ∧ w' = w := by
  obtain ⟨n, t, b, v, f, h1, h2, h3, h4⟩ := h
  have hv := h3.bd
  have hr := rest_size s pm n
  have ht := h2.size
  have cm : ∀ w, Calls Tryz.prog 173 #[.string s, .string ⟨#[45]⟩] w fun e w' => e = .returned (.tuple #[.string (rest s pm n), .bool n]) ∧ w' = w := fun w => cut_at s pm n w hs (show pm.size ≤ _ by show 1 ≤ _; omega) h1
  have cb := fun w => based_at (rest s pm n) t b w (by omega) h2
  have cp := fun w => parse_at b t v f w (by omega) h3
  clear h1 h2 h3
  rcases h4 with ⟨hf, rfl, rfl⟩ | ⟨rfl, h5, rfl, rfl⟩ | ⟨rfl, h5, h6, rfl, rfl⟩
  · have ei : errI e = .iface 24 (.int .i64 e) := if_neg hf
    rw [ei] at cp ⊢
    clear hv hr ht
    go_enter Tryz.func165, Tryz.ntmps165
    go_wp2_with (first | (go_at_call 173; refine (cm _).mono ?_; rintro e w1 ⟨rfl, rfl⟩) | (go_at_call 175; refine (cb _).mono ?_; rintro e w1 ⟨rfl, rfl⟩) | (go_at_call 174; refine (cp _).mono ?_; rintro e w1 ⟨rfl, rfl⟩))
    go_ret2
    exact ⟨rfl, rfl⟩
  · have ei : errI 0 = .nilIface := rfl
    rw [ei] at cp
    have H5 : Hid (9223372036854775808 < v ∨ (v = 9223372036854775808 ∧ n = false)) := h5
    clear h5 hr ht
    by_cases hlt : 9223372036854775808 < v
    · have hl : (9223372036854775808 : Int) < (v : Int) := by omega
      go_enter Tryz.func165, Tryz.ntmps165
      go_wp2_with (first | (go_at_call 173; refine (cm _).mono ?_; rintro e w1 ⟨rfl, rfl⟩) | (go_at_call 175; refine (cb _).mono ?_; rintro e w1 ⟨rfl, rfl⟩) | (go_at_call 174; refine (cp _).mono ?_; rintro e w1 ⟨rfl, rfl⟩))
      go_ret2
      exact ⟨rfl, rfl⟩
    · obtain ⟨rfl, rfl⟩ : v = 9223372036854775808 ∧ n = false := by
        rcases H5.out with h | h
        · omega
        · exact h
      go_enter Tryz.func165, Tryz.ntmps165
      go_wp2_with (first | (go_at_call 173; refine (cm _).mono ?_; rintro e w1 ⟨rfl, rfl⟩) | (go_at_call 175; refine (cb _).mono ?_; rintro e w1 ⟨rfl, rfl⟩) | (go_at_call 174; refine (cp _).mono ?_; rintro e w1 ⟨rfl, rfl⟩))
      go_ret2
      exact ⟨rfl, rfl⟩
  · have ei : errI 0 = .nilIface := rfl
    rw [ei] at cp ⊢
    have hle : ¬ (9223372036854775808 : Int) < (v : Int) := by omega
    have H6 : Hid (v = 9223372036854775808 → n = true) := h6
    clear h6 hr ht
    cases n
    · have hn2 : v ≠ 9223372036854775808 := fun h => by cases H6.out h
      have hne : ((v : Int) == 9223372036854775808) = false := by simp; omega
      go_enter Tryz.func165, Tryz.ntmps165
      go_wp2_with (first | (go_at_call 173; refine (cm _).mono ?_; rintro e w1 ⟨rfl, rfl⟩) | (go_at_call 175; refine (cb _).mono ?_; rintro e w1 ⟨rfl, rfl⟩) | (go_at_call 174; refine (cp _).mono ?_; rintro e w1 ⟨rfl, rfl⟩))
      go_ret2
      exact ⟨rfl, rfl⟩
    · go_enter Tryz.func165, Tryz.ntmps165
      go_wp2_with (first | (go_at_call 173; refine (cm _).mono ?_; rintro e w1 ⟨rfl, rfl⟩) | (go_at_call 175; refine (cb _).mono ?_; rintro e w1 ⟨rfl, rfl⟩) | (go_at_call 174; refine (cp _).mono ?_; rintro e w1 ⟨rfl, rfl⟩))
      all_goals go_ret2
      all_goals exact ⟨ret_pair (by simp only [IntKind.wrap_u64, wrap64]; omega), rfl⟩
end Go.Proofs.YtpanodaecjlgaaaGreatDoor.digs
/- What errors.As, api.Tell, plain.Place and placed answer at an error with a place (*api.At). -/
namespace Go.Proofs.YtpanodaecjlgaaaGreatDoor.errs
open Go.RowKit Go.Extern.Stop Go.Stop Go.Extern
open mem
theorem typeOfA (v : Value) (w : World) : (ReflectliteType.typeOf #[.iface 110 v]).run Tryz.prog w = .ok (.iface 167 (.agg #[.pointer (some ⟨8, 110, none⟩)])) w := by kernel_rfl
theorem assignableA (w : World) : (ReflectliteType.relation "AssignableTo" ReflectliteType.assignableTo #[.agg #[.pointer (some ⟨8, 110, none⟩)], .iface 167 (.agg #[.pointer (some ⟨8, 24, none⟩)])]).run Tryz.prog w = .ok (.bool false) w := by kernel_rfl
theorem noAsA (v : Value) (w : World) : (Instr.typeAssert (.iface 110 v) 30 172 true).run Tryz.prog w = .ok (.tuple #[.nilIface, .bool false]) w :=
  run_typeAssert_lacksB Tryz.underlying172 (by kernel_rfl) (by kernel_rfl) v 30 w
theorem unwrapA (v : Value) (w : World) : (Instr.typeAssert (.iface 110 v) 30 114 true).run Tryz.prog w = .ok (.tuple #[.iface 110 v, .bool true]) w :=
  run_typeAssert_hasB Tryz.underlying114 (by kernel_rfl) v 30 w
theorem methodUnwrapA (p : Addr) (w : World) : (Go.method 368 110 (.pointer (some p)) "Unwrap").run Tryz.prog w = .ok (203, .pointer (some p)) w := by kernel_rfl
set_option maxHeartbeats 4000000 in
theorem as_at (n : Int) (b : Nat) (t : Addr) (old : Value) (w : World) (hg : Laid w) (ht0 : w.cell? t = some old) (hf0 : w.frozen? t = false) (hp0 : w.cell? ⟨b, 0, none⟩ = some (.int .i64 n)) :
    Calls Tryz.prog 49 #[.iface 110 (.pointer (some ⟨b, 0, none⟩)), .iface 99 (.pointer (some t))] w fun ev w' => ev = .returned (.bool true) ∧ w' = asW w t n := by
  unfold Laid at hg
  have h6 := @run_callFunc_extern Tryz.prog 77 _ (fun args => ReflectliteValue.unpack (args.getD 0 (.tuple #[]))) Tryz.func77 (by kernel_rfl) (by kernel_rfl) (by kernel_rfl) (by kernel_rfl)
  have h7 := @run_callFunc_extern Tryz.prog 78 _ (ReflectliteValue.methodAny (ReflectliteValue.valueError "reflectlite.Value.Type" 0) (fun t _ _ _ => ReflectliteType.toType t)) Tryz.func78 (by kernel_rfl) (by kernel_rfl) (by kernel_rfl) (by kernel_rfl)
  have h8 := @run_callFunc_extern Tryz.prog 79 _ (ReflectliteValue.method (ReflectliteValue.valueError "reflectlite.Value.IsNil" 0) ReflectliteValue.isNil) Tryz.func79 (by kernel_rfl) (by kernel_rfl) (by kernel_rfl) (by kernel_rfl)
  have h27 := @run_callFunc_extern Tryz.prog 197 _ (ReflectliteType.abiMethod fun t => do pure (.int .u8 (← Rtype.kind t))) Tryz.func197 (by kernel_rfl) (by kernel_rfl) (by kernel_rfl) (by kernel_rfl)
  have h37 := @run_callFunc_extern Tryz.prog 210 _ (ReflectliteType.method ReflectliteType.elem) Tryz.func210 (by kernel_rfl) (by kernel_rfl) (by kernel_rfl) (by kernel_rfl)
  have h38 := @run_callFunc_extern Tryz.prog 211 _ (ReflectliteType.relation "Implements" ReflectliteType.implements_) Tryz.func211 (by kernel_rfl) (by kernel_rfl) (by kernel_rfl) (by kernel_rfl)
  have h10 := @run_callFunc_extern Tryz.prog 103 _ ReflectliteType.typeOf Tryz.func103 (by kernel_rfl) (by kernel_rfl) (by kernel_rfl) (by kernel_rfl)
  have h35 := @run_callFunc_extern Tryz.prog 208 _ (ReflectliteType.relation "AssignableTo" ReflectliteType.assignableTo) Tryz.func208 (by kernel_rfl) (by kernel_rfl) (by kernel_rfl) (by kernel_rfl)
  have h11 := @run_callFunc_extern Tryz.prog 104 _ (ReflectliteValue.method (ReflectliteValue.valueError "reflectlite.Value.Elem" 0) ReflectliteValue.elem) Tryz.func104 (by kernel_rfl) (by kernel_rfl) (by kernel_rfl) (by kernel_rfl)
  have h12 := @run_callFunc_extern Tryz.prog 105 _ ReflectliteValue.set Tryz.func105 (by kernel_rfl) (by kernel_rfl) (by kernel_rfl) (by kernel_rfl)
  have tO := typeOfE
  have mA := methodAssignableTo
  have aE := assignableE
  have vE := valueOfE
  have f6 := valueOfP
  have f7 := typeP
  have mK := methodKind
  have mE := methodElem
  have mI := methodImplements
  have kP := kindP
  have kE := kindE
  have eP := elemP
  have iE := implementsE
  have n8 := isNilP ⟨w.heap.size, 0, none⟩ t ((w.alloc (.cells #[.pointer (some t)] 99)).alloc (.cells #[.pointer (some ⟨8, 99, none⟩), .pointer (some ⟨w.heap.size, 0, none⟩), .int .u64 150] 137)) (by simp)
  have hlt : 1 < w.heap.size := by
    rcases Nat.lt_or_ge 1 w.heap.size with h | h
    · exact h
    · simp [World.cell?, Array.getElem?_eq_none h] at hg
  have hg2 : ((w.alloc (.cells #[.pointer (some t)] 99)).alloc (.cells #[.pointer (some ⟨8, 99, none⟩), .pointer (some ⟨w.heap.size, 0, none⟩), .int .u64 150] 137)).cell? ⟨1, 0, none⟩ = some (.iface 167 (.agg #[.pointer (some ⟨8, 30, none⟩)])) := by
    rw [World.cell?_alloc_lt _ _ ⟨1, 0, none⟩ (by simp <;> omega), World.cell?_alloc_lt _ _ ⟨1, 0, none⟩ hlt]; exact hg
  have htl : t.block < w.heap.size := by
    rcases Nat.lt_or_ge t.block w.heap.size with h | h
    · exact h
    · simp [World.cell?, Array.getElem?_eq_none h] at ht0
  have el := elemVP ⟨w.heap.size, 0, none⟩ t (((w.alloc (.cells #[.pointer (some t)] 99)).alloc (.cells #[.pointer (some ⟨8, 99, none⟩), .pointer (some ⟨w.heap.size, 0, none⟩), .int .u64 150] 137)).alloc (.cells #[.pointer (some ⟨8, 99, none⟩), .pointer (some ⟨w.heap.size, 0, none⟩), .int .u64 150] 137)) (by rw [World.cell?_alloc_lt _ _ ⟨w.heap.size, 0, none⟩ (by simp <;> omega)]; simp)
  have st := setE t ⟨w.heap.size + 1 + 1 + 1, 0, none⟩ n old ((((w.alloc (.cells #[.pointer (some t)] 99)).alloc (.cells #[.pointer (some ⟨8, 99, none⟩), .pointer (some ⟨w.heap.size, 0, none⟩), .int .u64 150] 137)).alloc (.cells #[.pointer (some ⟨8, 99, none⟩), .pointer (some ⟨w.heap.size, 0, none⟩), .int .u64 150] 137)).alloc (.cells #[.int .i64 n] 24))
    (by rw [World.cell?_alloc_at _ _ _ _ (by simp)]; rfl)
    (by rw [World.cell?_alloc_lt _ _ t (by simp <;> omega), World.cell?_alloc_lt _ _ t (by simp <;> omega), World.cell?_alloc_lt _ _ t (by simp <;> omega), World.cell?_alloc_lt _ _ t htl]; exact ht0)
    (by rw [World.frozen?_alloc_old _ _ t (by simp <;> omega), World.frozen?_alloc_old _ _ t (by simp <;> omega), World.frozen?_alloc_old _ _ t (by simp <;> omega), World.frozen?_alloc_old _ _ t (Nat.ne_of_lt htl)]; exact hf0)
  have tA := typeOfA
  have aA := assignableA
  have nA := noAsA
  have uA := unwrapA
  have mU := methodUnwrapA
  have hbl : b < w.heap.size := by
    rcases Nat.lt_or_ge b w.heap.size with h | h
    · exact h
    · simp [World.cell?, Array.getElem?_eq_none h] at hp0
  have hpc : (((w.alloc (.cells #[.pointer (some t)] 99)).alloc (.cells #[.pointer (some ⟨8, 99, none⟩), .pointer (some ⟨w.heap.size, 0, none⟩), .int .u64 150] 137)).alloc (.cells #[.pointer (some ⟨8, 99, none⟩), .pointer (some ⟨w.heap.size, 0, none⟩), .int .u64 150] 137)).cell? ⟨b, 0, none⟩ = some (.int .i64 n) := by
    rw [World.cell?_alloc_lt _ _ ⟨b, 0, none⟩ (by simp <;> omega), World.cell?_alloc_lt _ _ ⟨b, 0, none⟩ (by simp <;> omega), World.cell?_alloc_lt _ _ ⟨b, 0, none⟩ hbl]; exact hp0
  go_enter Tryz.func49, Tryz.ntmps49
  go_wp2
  refine wp_loop_rounds 2 ?_
  rw [rounds_succ]
  go_wp2
  rw [rounds_succ]
  go_wp2
  go_ret
  exact ⟨rfl, rfl⟩
end Go.Proofs.YtpanodaecjlgaaaGreatDoor.errs
/- What api.Tell, plain.Place and placed answer at an error with a place, and at none. -/
namespace Go.Proofs.YtpanodaecjlgaaaGreatDoor.errs
open Go.RowKit Go.Extern.Stop Go.Stop Go.Extern
open mem
theorem cell_lt {w : World} {a : Addr} {v : Value} (h : w.cell? a = some v) : a.block < w.heap.size := by
  rcases Nat.lt_or_ge a.block w.heap.size with h1 | h1
  · exact h1
  · simp [World.cell?, Array.getElem?_eq_none h1] at h
theorem cell_gb {w w' : World} (g : Gb w w') {a : Addr} {v : Value} (h : w.cell? a = some v) : w'.cell? a = some v := by
  rw [g.b.cell (p := a) (cell_lt h)]; exact h
theorem as_newAt (n : Int) (b : Nat) (w : World) (hg : Laid w) (hp : w.cell? ⟨b, 0, none⟩ = some (.int .i64 n)) :
    Calls Tryz.prog 49 #[.iface 110 (.pointer (some ⟨b, 0, none⟩)), .iface 99 (.pointer (some ⟨w.heap.size, 0, none⟩))] (w.alloc (.cells #[.int .i64 0] 24)) fun ev w' => ev = .returned (.bool true) ∧ w'.cell? ⟨w.heap.size, 0, none⟩ = some (.int .i64 n) ∧ Gb w w' := by
  refine (as_at n b ⟨w.heap.size, 0, none⟩ (.int .i64 0) (w.alloc (.cells #[.int .i64 0] 24)) (hg.gb ((Gb.refl w).alloc _ _)) (by simp) (by simp) (cell_gb ((Gb.refl w).alloc _ _) hp)).mono ?_
  rintro e w' ⟨rfl, rfl⟩
  refine ⟨rfl, ?_, ?_⟩
  · unfold asW
    refine World.cell?_setCell_same (u := .int .i64 0) _ _ _ ?_
    · rw [World.cell?_alloc_lt _ _ _ (by simp; omega), World.cell?_alloc_lt _ _ _ (by simp; omega), World.cell?_alloc_lt _ _ _ (by simp; omega), World.cell?_alloc_lt _ _ _ (by simp)]
      simp
  · unfold asW
    exact (((((((Gb.refl w).alloc _ _).alloc _ _).alloc _ _).alloc _ _).alloc _ _)).setCell (Nat.le_refl _) _
theorem tell_at (n : Int) (b : Nat) (w : World) (hg : Laid w) (hp : w.cell? ⟨b, 0, none⟩ = some (.int .i64 n)) : Calls Tryz.prog 23 #[.iface 110 (.pointer (some ⟨b, 0, none⟩))] w fun e w' => e = .returned (.int .i64 n) ∧ Gb w w' := by
  have H := hg
  have HP : Hid (w.cell? ⟨b, 0, none⟩ = some (.int .i64 n)) := hp
  clear hg hp
  go_enter Tryz.func23, Tryz.ntmps23
  go_wp2_with (go_at_call 49; refine (as_newAt n b w H HP.out).mono ?_; rintro e w1 ⟨rfl, hc, hgb⟩)
  go_ret
  exact ⟨rfl, hgb⟩
theorem isAt (v : Value) (w : World) : (Instr.typeAssert (.iface 110 v) 30 110 true).run Tryz.prog w = .ok (.tuple #[v, .bool true]) w := by kernel_rfl
theorem place_at (n p : Int) (b : Nat) (w : World) (hg : Laid w) (h0 : w.cell? ⟨b, 0, none⟩ = some (.int .i64 n)) (h1 : w.cell? ⟨b, 1, none⟩ = some (.int .i64 p)) :
    Calls Tryz.prog 36 #[.iface 110 (.pointer (some ⟨b, 0, none⟩))] w fun e w' => e = .returned (.tuple #[.int .i64 n, .int .i64 p]) ∧ Gb w w' := by
  have H := hg
  have iA := isAt
  have H0 : Hid (w.cell? ⟨b, 0, none⟩ = some (.int .i64 n)) := h0
  have H1 : Hid (w.cell? ⟨b, 1, none⟩ = some (.int .i64 p)) := h1
  clear hg h0 h1
  go_enter Tryz.func36, Tryz.ntmps36
  go_wp2_with (go_at_call 23; refine (tell_at n b _ H H0.out).mono ?_; rintro e w1 ⟨rfl, hgb⟩; have c1 := cell_gb hgb H1.out)
  refine wp_loop_rounds 1 ?_
  rw [rounds_succ]
  go_wp2
  go_region
  all_goals go_wp2
  all_goals go_ret2
  all_goals exact ⟨rfl, hgb.drew⟩
/-- An error at a place is told just so. -/
theorem placed_at (n p : Int) (b : Nat) (w : World) (hg : Laid w) (h0 : w.cell? ⟨b, 0, none⟩ = some (.int .i64 n)) (h1 : w.cell? ⟨b, 1, none⟩ = some (.int .i64 p)) :
    Calls Tryz.prog 11 #[.iface 110 (.pointer (some ⟨b, 0, none⟩)), .agg #[.int .i64 n, .int .i64 p]] w fun e w' => e = .returned (.bool true) ∧ Gb w w' := by
  have ga : Gb w (w.alloc (.cells #[.int .i64 n, .int .i64 p] 26)) := (Gb.refl w).alloc _ _
  have H := hg.gb ga
  have H0 : Hid ((w.alloc (.cells #[.int .i64 n, .int .i64 p] 26)).cell? ⟨b, 0, none⟩ = some (.int .i64 n)) := cell_gb ga h0
  have H1 : Hid ((w.alloc (.cells #[.int .i64 n, .int .i64 p] 26)).cell? ⟨b, 1, none⟩ = some (.int .i64 p)) := cell_gb ga h1
  clear hg h0 h1
  go_enter Tryz.func11, Tryz.ntmps11
  go_wp2_with (go_at_call 36; refine (place_at n p b _ H H0.out H1.out).mono ?_; rintro e w1 ⟨rfl, hgb⟩; have c0 := cell_gb hgb (a := ⟨w.heap.size, 0, none⟩) (v := .int .i64 n) (by simp); have c1 := cell_gb hgb (a := ⟨w.heap.size, 1, none⟩) (v := .int .i64 p) (by simp))
  go_ret
  exact ⟨by simp, ga.trans hgb⟩
theorem placed_nil (w : World) : Calls Tryz.prog 11 #[.nilIface, .agg #[.int .i64 0, .int .i64 (-1)]] w fun e w' => e = .returned (.bool true) ∧ Gb w w' := by
  go_enter Tryz.func11, Tryz.ntmps11
  go_wp2_with (go_at_call 36; refine (place_nil _).mono ?_; rintro e w1 ⟨rfl, rfl⟩)
  go_ret
  exact ⟨by simp, (Gb.refl _).alloc _ _⟩
end Go.Proofs.YtpanodaecjlgaaaGreatDoor.errs
/- What stands in brackets: inner of package expr. -/
namespace Go.Proofs.YtpanodaecjlgaaaGreatDoor.ex
set_option linter.unusedVariables false
open Go.ChangeShapes Go.WideShapes Go.ChangeAt Go.RowKit
open mem lx

/-- The number that a token is. -/
noncomputable def nb (t : List UInt8) : Int × Int := (Classical.choose (digs.numbered_some (tx t)), Classical.choose (Classical.choose_spec (digs.numbered_some (tx t))))
theorem nb_is (t : List UInt8) : digs.Numbered (tx t) (nb t).1 (nb t).2 := Classical.choose_spec (Classical.choose_spec (digs.numbered_some (tx t)))
/-- An error that lies there. -/
def AtX (w : World) (B : Nat) (c p : Int) : Prop := w.heap[B]? = some (.cells #[.int .i64 c, .int .i64 p] 113 (0, 0))
/-- What reading answers. -/
def Rans (P en d : Nat) (w : World) (q : Res) (e : Ending) (w' : World) : Prop :=
  Gp P w w' ∧ match q with
  | .ok (x, r) => ∃ v, e = .returned v ∧ IsX w' v x ∧ Rd w' P r d en
  | .error (c, p) => ∃ B : Nat, e = thrown B ∧ w.heap.size ≤ B ∧ AtX w' B c (p : Int)
theorem Rd.deep {w : World} {P : Nat} {ts : List Tk} {d en : Nat} (h : Rd w P ts d en) (d' : Nat) : Rd (w.setCell ⟨P, 2, none⟩ (.int .i64 (d' : Int))) P ts d' en := by
  obtain ⟨p, c, h1, h2, h3, h4⟩ := h.ex
  have hs : (w.setCell ⟨P, 2, none⟩ (.int .i64 (d' : Int))).heap.size = w.heap.size := by simp [World.setCell]
  refine ⟨p, c, ?_, h2, In.gp h3 (Gp.set _) h4, fun x hx => by rw [hs]; exact h4 x hx⟩
  simp [World.setCell, Array.getElem?_modify, h1]
theorem Laid.gp {P : Nat} {w w' : World} (h : errs.Laid w) (hg : Gp P w w') (hP : 1 < P) : errs.Laid w' := by
  have hp := h.pos
  unfold errs.Laid World.cell? at h ⊢
  rw [hg.block _ hp (by show 1 ≠ P; omega)]
  exact h
theorem Rd.cells {w : World} {P : Nat} {ts : List Tk} {d en : Nat} (h : Rd w P ts d en) : w.cell? ⟨P, 2, none⟩ = some (.int .i64 (d : Int)) ∧ w.frozen? ⟨P, 2, none⟩ = false := by
  obtain ⟨p, c, h1, _⟩ := h.ex
  exact ⟨by rw [cell_of h1]; rfl, by simp [World.frozen?, h1]⟩
/-- What brackets come to. -/
def brk (en : Nat) (a : Nat) (d : Nat) (q1 : Res) : Res :=
  if d = 8 then .error (4, a) else match q1 with
  | .error e => .error e
  | .ok (x, r') => if (hd en r').t = [41] then .ok (x, r'.tail) else .error (3, (hd en r').a)
theorem brk_err {en a d : Nat} {e : Int × Nat} (h : ¬ d = 8) : brk en a d (.error e) = .error e := by unfold brk; rw [if_neg h]
theorem brk_yes {en a d : Nat} {x : Ex} {r : List Tk} (h : ¬ d = 8) (h2 : (hd en r).t = [41]) : brk en a d (.ok (x, r)) = .ok (x, r.tail) := by
  unfold brk; rw [if_neg h]; dsimp only; rw [if_pos h2]
theorem brk_no {en a d : Nat} {x : Ex} {r : List Tk} (h : ¬ d = 8) (h2 : ¬ (hd en r).t = [41]) : brk en a d (.ok (x, r)) = .error (3, (hd en r).a) := by
  unfold brk; rw [if_neg h]; dsimp only; rw [if_neg h2]
theorem AtX.of {w w' : World} {B : Nat} {c p : Int} (h : Thr w w' B c p) : w.heap.size ≤ B ∧ AtX w' B c p ∧ Bl w w' := h
set_option maxRecDepth 10000 in
theorem inner_at (P en : Nat) (t : Tk) (d : Nat) (ts : List Tk) (q1 : Res) (w : World) (hR : Rd w P ts d en) (hL : errs.Laid w) (hGP : 1 < P) (h8 : d ≤ 8) (hl : ts.length ≤ 3000)
    (hlen : d ≠ 8 → ∀ x r, q1 = .ok (x, r) → r.length ≤ 3000)
    (cR : d ≠ 8 → ∀ wx, Rd wx P ts (d + 1) en → errs.Laid wx → Calls Tryz.prog 143 #[.pointer (some ⟨P, 0, none⟩), .int .i64 1] wx fun e w' => Rans P en (d + 1) wx q1 e w') :
    Calls Tryz.prog 166 #[.pointer (some ⟨P, 0, none⟩), tkV t] w fun e w' => Rans P en d w (brk en t.a d q1) e w' := by
  have HR : Hid (Rd w P ts d en ∧ errs.Laid w) := ⟨hR, hL⟩
  have hP := hR.lt
  obtain ⟨c2, z2⟩ := hR.cells
  clear hR hL
  have hb1 : Bl w (w.alloc (.cells #[.string (tx t.t), .int .i64 (t.a : Int)] 49)) := (Bl.refl _).alloc _
  by_cases hd8 : d = 8
  · subst hd8
    have cA := at_at t 4
    unfold tkV at cA ⊢
    go_enter Tryz.func166, Tryz.ntmps166
    go_wp2_with fail
    refine (cA _).mono ?_
    rintro e w2 ⟨B, rfl, hthr⟩
    obtain ⟨k1, k2, k3⟩ := AtX.of hthr
    go_wp2
    refine ⟨rfl, (Gp.bl (hb1.trans k3)), ?_⟩
    show ∃ B, _
    exact ⟨B, rfl, Nat.le_trans hb1.size k1, k2⟩
  · have hne : ((d : Int) == 8) = false := by rw [beq_eq_false_iff_ne]; omega
    replace hlen := hlen hd8
    replace cR := cR hd8
    unfold tkV
    go_enter Tryz.func166, Tryz.ntmps166
    go_wp2_with fail
    obtain ⟨w1, hw1⟩ : ∃ w1, w1 = (w.setCell ⟨P, 2, none⟩ (.int .i64 ((d : Int) + 1))).alloc (.cells #[.string (tx t.t), .int .i64 (t.a : Int)] 49) := ⟨_, rfl⟩
    have hR1 : Rd w1 P ts (d + 1) en := by
      rw [hw1]
      have := HR.out.1.deep (d + 1)
      rw [show (((d + 1 : Nat) : Nat) : Int) = (d : Int) + 1 by omega] at this
      exact this.step ((Bl.refl _).alloc _)
    have hg1 : Gp P w w1 := by rw [hw1]; exact (Gp.set _).alloc _
    have hb1 : w.heap.size ≤ w1.heap.size := hg1.size
    rw [← hw1]
    clear hw1
    refine (cR w1 hR1 (Laid.gp HR.out.2 hg1 hGP)).mono ?_
    rintro e w2 ⟨hg2, hq⟩
    have hg02 := hg1.trans hg2
    cases q1 with
    | error cp =>
      obtain ⟨c, p⟩ := cp
      obtain ⟨B, rfl, h1, h2⟩ := hq
      unfold thrown
      go_wp2
      refine ⟨rfl, ?_⟩
      rw [brk_err hd8]
      exact ⟨hg02, B, rfl, Nat.le_trans hb1 h1, h2⟩
    | ok xr =>
      obtain ⟨x, r⟩ := xr
      obtain ⟨v, rfl, hx, hR2⟩ := hq
      have hrl := hlen x r rfl
      have cT := take_at w2 P r (d + 1) en hR2 (by omega)
      obtain ⟨T, hT⟩ : ∃ T, T = hd en r := ⟨_, rfl⟩
      rw [← hT] at cT
      have HT : Hid (T = hd en r) := hT
      have HX : Hid (IsX w2 v x ∧ Rd w2 P r (d + 1) en ∧ Gp P w w2) := ⟨hx, hR2, hg02⟩
      obtain ⟨vb, rfl, _⟩ := hx.ptr
      have cA := at_at T 3
      unfold tkV at cT cA
      clear hx hR2 hg02 hg1 hg2 hR1 cR HR c2 z2 hlen hT
      go_wp2_with fail
      refine cT.mono ?_
      rintro e w3 ⟨rfl, hR3, hg3⟩
      have hP3 := hR3.lt
      have HX3 : Hid (IsX w3 (.pointer (some ⟨vb, 0, none⟩)) x ∧ Gp P w w3) := by
        obtain ⟨cs, hcs⟩ := HX.out.2.1.is
        exact ⟨HX.out.1.keep (hg3.kx hcs), HX.out.2.2.trans hg3⟩
      obtain ⟨c2, z2⟩ := hR3.cells
      rw [show (((d + 1 : Nat) : Nat) : Int) = (d : Int) + 1 by omega] at c2
      have HR3 : Hid (Rd w3 P r.tail (d + 1) en) := hR3
      clear hR3 hg3 cT HX
      have htl := tl_tx T.t
      by_cases h41 : T.t = [41]
      · have HB : Hid (brk en t.a d (.ok (x, r)) = .ok (x, r.tail)) := brk_yes hd8 (by rw [← HT.out]; exact h41)
        have hb : (T.t == [41]) = true := by rw [beq_iff_eq]; exact h41
        have h41' : T.t = [41] := h41
        generalize tx T.t = S at *
        rw [h41] at htl
        clear h41 h41' hb cA
        go_wp2
        go_ret
        rw [HB.out]
        have hg9 : Gp P w3 ((w3.setCell ⟨P, 2, none⟩ (.int .i64 (d : Int))).alloc (.cells #[.string S, .int .i64 (T.a : Int)] 49)) := (Gp.set _).alloc _
        obtain ⟨cs, hcs⟩ := HR3.out.is
        exact ⟨HX3.out.2.trans hg9, _, rfl, HX3.out.1.keep (hg9.kx hcs), (HR3.out.deep d).step ((Bl.refl _).alloc _)⟩
      · have HB : Hid (brk en t.a d (.ok (x, r)) = .error (3, T.a)) := by rw [HT.out]; exact brk_no hd8 (by rw [← HT.out]; exact h41)
        have hb : (T.t == [41]) = false := by rw [beq_eq_false_iff_ne]; exact h41
        clear h41
        go_wp2_with fail
        refine (cA _).mono ?_
        rintro e w4 ⟨B, rfl, hthr⟩
        obtain ⟨k1, k2, k3⟩ := AtX.of hthr
        have hb4 : Bl w3 w4 := ((Bl.refl _).alloc _).trans k3
        have hs4 : w3.heap.size ≤ B := Nat.le_trans (((Bl.refl w3).alloc (.cells #[.string (tx T.t), .int .i64 (T.a : Int)] 49)).size) k1
        go_wp2
        refine ⟨rfl, ?_⟩
        rw [HB.out]
        exact ⟨HX3.out.2.trans (Gp.bl hb4), B, rfl, Nat.le_trans HX3.out.2.size hs4, k2⟩
end Go.Proofs.YtpanodaecjlgaaaGreatDoor.ex
