/- Expressions with a number in a name's place. -/
import Derived.Test.YtfngcphklfjhjaaDoorExN1
namespace Go.Proofs.YtfngcphklfjhjaaDoor.ex
set_option linter.unusedVariables false
open Go.ChangeShapes Go.WideShapes Go.ChangeAt Go.RowKit
open mem lx

theorem bd_letter {t : List UInt8} (h : isN t = true ∨ isU t = true) : bd t = 0 := by
  rcases Nat.eq_zero_or_pos (bd t) with h0 | h0
  · exact h0
  · exfalso
    have key : isN t = false ∧ isU t = false := by
      rcases bd_cases h0 with rfl | rfl | rfl | rfl | rfl | rfl | rfl | rfl | rfl <;> decide
    rcases h with h | h
    · rw [key.1] at h; cases h
    · rw [key.2] at h; cases h
theorem f2_of (g : Tk → List UInt8) : ∀ (l l' : List Tk), l'.map Tk.t = l.map g → F2 (fun t t' => t'.t = g t) l l'
  | [], [], _ => F2.nil
  | [], _ :: _, h => by simp at h
  | _ :: _, [], h => by simp at h
  | t :: l, t' :: l', h => by
    simp only [List.map_cons, List.cons.injEq] at h
    exact F2.cons h.1 (f2_of g l l' h.2)
/-- A token, or the number in the name's place. -/
def gv (nm dn : List UInt8) (t : Tk) : List UInt8 := if t.t = nm then dn else t.t
theorem gv_len (nm dn : List UInt8) (t : Tk) (h : dn.length ≤ 20) (ht : t.t.length ≤ 900) : (gv nm dn t).length ≤ 900 := by
  unfold gv; split <;> omega
theorem jb_le (g : Tk → List UInt8) : ∀ l : List Tk, (∀ t ∈ l, (g t).length ≤ 900) → (jb [32] (l.map g)).length ≤ 901 * l.length
  | [], _ => by simp [jb]
  | t :: l, h => by
    have h1 := h t (by simp)
    have h2 := jb_le g l (fun u hu => h u (by simp [hu]))
    simp only [List.map_cons, jb, List.length_append, List.length_cons, List.length_nil]
    omega
theorem ch_short {s : List UInt8} {l : List Tk} : ∀ {p : Nat}, Ch s p l → ∀ t ∈ l, t.t.length ≤ s.length := by
  induction l with
  | nil => intro p h x hx; simp at hx
  | cons t r ih =>
    intro p h x hx
    obtain ⟨_, h2, _, _, h5⟩ : p ≤ t.a ∧ t.a + t.t.length ≤ s.length ∧ (s.drop t.a).take t.t.length = t.t ∧ IsT t.t ∧ Ch s (t.a + t.t.length) r := h
    rw [List.mem_cons] at hx
    rcases hx with rfl | hx
    · omega
    · exact ih h5 x hx
theorem putted {l : List UInt8} {x : Ex} (h : prs l = .ok x) (nm : List UInt8) (n : Int) (hn : isN nm = true) (h0 : 0 ≤ n) (h1 : n < 9223372036854775808) :
    ∃ y, prs (jb [32] ((lx l 0).1.map (gv nm (Lib.itoa n)))) = .ok y ∧ Sb nm n x y := by
  obtain ⟨p1, p2⟩ := prs_ok h
  have hch := lx_ch l _ 0 (Nat.le_refl _) (Nat.zero_le _)
  rw [List.drop_zero] at hch
  have hT := ch_isT hch
  obtain ⟨d1, d2, d3, d4, d5⟩ := nb_itoa n h0 h1
  generalize (lx l 0).1 = ts at p2 hT
  have hall : ∀ y ∈ ts.map (gv nm (Lib.itoa n)), IsT y := by
    intro y hy
    rw [List.mem_map] at hy
    obtain ⟨t, ht, rfl⟩ := hy
    unfold gv
    split
    · exact Or.inl ⟨d5, d4⟩
    · exact hT t ht
  obtain ⟨r1, r2⟩ := relex [32] (by decide) _ hall 0
  obtain ⟨g1, _, _⟩ := put_all nm n hn (Lib.itoa n) d1 d2 d3 (jb [32] (ts.map (gv nm (Lib.itoa n)))).length (bd_letter (Or.inl hn)) (bd_letter (Or.inr d2)) (en := l.length) (10 * ts.length + 10)
  obtain ⟨x', r', q1, q2, q3⟩ := g1 1 0 ts _ x [] (by omega) (f2_of (gv nm (Lib.itoa n)) ts _ r1) p2
  have hr : r' = [] := by cases q3; rfl
  subst hr
  exact ⟨x', prs_of (by rw [← r2]) q1, q2⟩
theorem Sb.okb {nm : List UInt8} {n : Int} {x y : Ex} (h : Sb nm n x y) (hx : Okb x) : Okb y := by
  induction h with
  | num a b k => trivial
  | nam a b t ht => exact hx
  | put a b => trivial
  | bin a b o l l' r r' _ _ ih1 ih2 => exact ⟨hx.1, ih1 hx.2.1, ih2 hx.2.2⟩
theorem Sb.ev {nm : List UInt8} {n : Int} {env : List UInt8 → Option Int} (he : env nm = some n) {x y : Ex} (h : Sb nm n x y) : Eqv (ev env x) (ev (fun t => if t = nm then none else env t) y) := by
  induction h with
  | num a b k => exact Or.inl ⟨k, rfl, rfl⟩
  | nam a b t ht =>
    simp only [ex.ev, if_neg ht]
    cases env t with
    | none => exact Or.inr ⟨a, b, rfl, rfl⟩
    | some k => exact Or.inl ⟨k, rfl, rfl⟩
  | put a b =>
    simp only [ex.ev, he]
    exact Or.inl ⟨n, rfl, rfl⟩
  | bin a b o l l' r r' _ _ ih1 ih2 =>
    simp only [ex.ev]
    rcases ih1 with ⟨k, e1, e2⟩ | ⟨p, q, e1, e2⟩
    · rcases ih2 with ⟨j, f1, f2⟩ | ⟨p, q, f1, f2⟩
      · rw [e1, e2, f1, f2]; exact Or.inl ⟨_, rfl, rfl⟩
      · rw [e1, e2, f1, f2]; exact Or.inr ⟨_, _, rfl, rfl⟩
    · rw [e1, e2]; exact Or.inr ⟨_, _, rfl, rfl⟩
theorem Om.clone {w : World} {b c : Nat} {f : List UInt8 → Option Int} {es : Array MapEntry} {clock : Nat} (h : Om w b f c) (hb : w.heap[b]? = some (.map es clock)) : Om (w.alloc (.map es clock)) w.heap.size f c := by
  obtain ⟨D, ⟨es', clock', h1, h2, h3, h4⟩, h5⟩ := h
  rw [hb] at h1
  injection h1 with h1
  injection h1 with h1 h1'
  subst h1
  subst h1'
  exact ⟨D, ⟨es, clock, (MapKept.heap_alloc w _).1, h2, h3, h4⟩, h5⟩
theorem Om.congr {w : World} {b c : Nat} {f g : List UInt8 → Option Int} (h : Om w b f c) (hg : ∀ x, x.length ≤ 5000 → g x = f x) : Om w b g c := by
  obtain ⟨D, h1, h2⟩ := h
  exact ⟨D, h1, fun x hx => by rw [hg x hx]; exact h2 x hx⟩
theorem Om.block {w : World} {b c : Nat} {f : List UInt8 → Option Int} (h : Om w b f c) : ∃ es clock, w.heap[b]? = some (.map es clock) := by
  obtain ⟨D, ⟨es', clock', h1, _⟩, _⟩ := h
  exact ⟨_, _, h1⟩
theorem Om.below {w w' : World} {b c : Nat} {f : List UInt8 → Option Int} (h : Om w b f c) (hb : Bl w w') : Om w' b f c :=
  h.step (⟨hb.os, hb.tape, hb.output, hb.size, fun k hk _ => Below.block hb k hk⟩ : w.grownBy w' none) (by simp)
theorem names_open {H : Type} {enc : TypeId × Value → H} {W : World} {a1 : Option Nat} {d : DataW H} {p : List MemPlace} (h : DataW.Trod enc Tryd.prog W 0 (fun _ => true) true 42 (.map a1) d p) :
    ∃ env n, Nm W (.map a1) env n ∧ ((a1 = none ∧ env = fun _ => none) ∨ ∃ b c, a1 = some b ∧ Om W b env c) := by
  rcases map_open h with rfl | ⟨b, es, clock, rfl, hb, ho⟩
  · exact ⟨fun _ => none, 0, ⟨⟨fun w' _ t _ => by kernel_rfl⟩, fun w' _ => run_len_nilMap (w := w') _ _ un_map, fun t k h => by cases h⟩, Or.inl ⟨rfl, rfl⟩⟩
  · obtain ⟨h1, h2⟩ := Om.of ho
    generalize (DataW.map ((es.toList.map (WideElems.rg Tryd.prog 9 (plainElem Tryd.prog 3))).foldr DataW.insert []) : DataW Unit) = D at h1 h2
    have h3 : Om W b (fun x => if x.length ≤ 5000 then tells D x else none) es.size := h1.congr (fun x hx => if_pos hx)
    refine ⟨_, es.size, ⟨h3.isM, fun w' hbl => ?_, fun t k hk => ?_⟩, Or.inr ⟨b, _, rfl, h3⟩⟩
    · exact run_len_map (w := w') _ _ b es clock un_map (by rw [Below.block hbl b ((Array.getElem?_eq_some_iff.1 hb).1), hb])
    · split at hk
      · rename_i hl; exact h2 t hl k hk
      · cases hk
end Go.Proofs.YtfngcphklfjhjaaDoor.ex
