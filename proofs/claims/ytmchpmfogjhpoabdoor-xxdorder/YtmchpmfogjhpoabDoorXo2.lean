/- A dump's lines from the last to the first are read as what was dumped. -/
import Derived.Test.YtmchpmfogjhpoabDoorXo1
namespace Go.Proofs.YtmchpmfogjhpoabDoor.xo
set_option linter.unusedVariables false
open Go.ChangeShapes Go.WideShapes Go.ChangeAt Go.RowKit
open mem rows xd xl xb

theorem rwl_one (p : ByteArray) : ∀ c, (rwl p 1 c).length = 3 * c
  | 0 => rfl
  | c + 1 => by
    have h2 : (if c < p.size then hx p c else [32, 32]).length = 2 := by split <;> rfl
    rw [rwl, if_pos (Nat.mod_one c), List.length_append, List.length_append, h2, rwl_one p c, List.length_cons, List.length_nil]
    omega
theorem rowd_len (c a : Nat) (p : ByteArray) : (rowd c 1 a p).length = 11 + 3 * c + p.size := by
  unfold rowd rt
  simp only [List.length_append, List.length_cons, List.length_nil, dig.pr_len, shown.shL_len, rwl_one]
  omega
theorem rowd_two (c a : Nat) (p : ByteArray) : 0 ≤ Lib.index (ub (rowd c 1 a p)) [32, 32] := by
  have e : rowd c 1 a p = (dig.pr 16 a 8 ++ [58] ++ rwl p 1 c) ++ ([32, 32] ++ shown.shL p p.size) := by
    unfold rowd rt
    simp only [List.append_assoc]
  rw [e, ub_app, ub_app [32, 32]]
  exact index_two _ _
/-- Parts put from the last to the first: what lies ahead of them is nought yet. -/
theorem fold_rev (s : ByteArray) (c n : Nat) (hs : s.size ≤ 5000) (h1 : 1 ≤ c) (h2 : c ≤ 1000) (hn : n + 1 = np s c) : ∀ d k, k + d = n →
    ((List.range (d + 1)).map (fun i => pt s c (n - i))).foldl (fun t x => eff true t (x.1.1, by_ x.1.2)) [] = List.replicate (k * c) 0 ++ (bs s).drop (k * c)
  | 0, k, hk => by
    obtain rfl : k = n := by omega
    have hlt := (np_lt s c k h1).1 (by omega)
    have hge : s.size ≤ (k + 1) * c := by
      have := np_lt s c (k + 1) h1
      omega
    rw [Nat.succ_mul] at hge
    obtain ⟨a, ha⟩ : ∃ a, a = k * c := ⟨_, rfl⟩
    obtain ⟨e, he⟩ : ∃ e, e = min (a + c) s.size := ⟨_, rfl⟩
    rw [← ha] at hlt hge ⊢
    have hsz : (s.extract a e).size = e - a := by rw [ByteArray.size_extract]; omega
    show eff true [] ((pt s c (k - 0)).1.1, by_ (pt s c (k - 0)).1.2) = _
    rw [Nat.sub_zero, pt_is s c k a e ha (by omega) h2 he (by dsimp only; omega)]
    show putL [] a (by_ (s.extract a e)) = _
    have hl := by_len (s.extract a e)
    have hb := by_bs (s.extract a e)
    cases hz : by_ (s.extract a e) with
    | nil => rw [hz, List.length_nil] at hl; omega
    | cons z zs =>
      rw [hz] at hb
      rw [putL_new, hb, bs_cut]
      congr 1
      rw [List.take_of_length_le]
      rw [List.length_drop, bs_len]
      omega
  | d + 1, k, hk => by
    have ih := fold_rev s c n hs h1 h2 hn d (k + 1) (by omega)
    have hlt := (np_lt s c (k + 1) h1).1 (by omega)
    rw [List.range_succ, List.map_append, List.foldl_append, ih]
    rw [Nat.succ_mul] at hlt ⊢
    obtain ⟨a, ha⟩ : ∃ a, a = k * c := ⟨_, rfl⟩
    obtain ⟨e, he⟩ : ∃ e, e = min (a + c) s.size := ⟨_, rfl⟩
    rw [← ha] at hlt ⊢
    have hsz : (s.extract a e).size = e - a := by rw [ByteArray.size_extract]; omega
    show eff true (List.replicate (a + c) 0 ++ (bs s).drop (a + c)) ((pt s c (n - (d + 1))).1.1, by_ (pt s c (n - (d + 1))).1.2) = _
    rw [show n - (d + 1) = k by omega, pt_is s c k a e ha (by omega) h2 he (by dsimp only; omega)]
    show putL (List.replicate (a + c) 0 ++ (bs s).drop (a + c)) a (by_ (s.extract a e)) = _
    have hl := by_len (s.extract a e)
    rw [putL_mid _ _ _ (by rw [List.length_append, List.length_replicate, hl, hsz]; omega), by_bs, bs_cut, hl, hsz]
    have hea : e = a + c := by omega
    rw [hea, show a + (a + c - a) = a + c by omega, List.drop_left' (by rw [List.length_replicate]), List.take_append_of_le_length (by rw [List.length_replicate]; omega), List.take_replicate, show min a (a + c) = a by omega, List.append_assoc]
    congr 1
    rw [show a + c - a = c by omega, show List.drop (a + c) (bs s) = List.drop c (List.drop a (bs s)) by rw [List.drop_drop], List.take_append_drop]
theorem rev_ptl (s : ByteArray) (c n : Nat) : (ptl s c (n + 1)).reverse = (List.range (n + 1)).map (fun i => pt s c (n - i)) := by
  apply List.ext_getElem
  · simp [ptl]
  · intro i h1 h2
    have hi : i < n + 1 := by simpa using h2
    simp only [ptl, List.getElem_reverse, List.getElem_map, List.getElem_range, List.length_map, List.length_range]
    congr 1
/-- The lines of a dump. -/
def rws (s : ByteArray) (c : Nat) : List (List Int) := (ptl s c (np s c)).map fun x => rowd c 1 x.1.1 x.1.2
theorem rws_lw (s : ByteArray) (c : Nat) : ∀ r ∈ rws s c, Lw r := by
  intro r hr
  obtain ⟨x, _, rfl⟩ := List.mem_map.1 hr
  exact rowd_rng c 1 x.1.1 x.1.2
theorem rws_len (s : ByteArray) (c : Nat) : (rws s c).length = np s c := by unfold rws; rw [List.length_map, ptl_len]
theorem np_pos (s : ByteArray) (c : Nat) (h : 0 < s.size) (h1 : 1 ≤ c) : 0 < np s c := (np_lt s c 0 h1).2 (by omega)
theorem rws_ne (s : ByteArray) (c : Nat) (h : 0 < s.size) (h1 : 1 ≤ c) : rws s c ≠ [] := by
  intro e
  have h2 := rws_len s c
  have h3 := np_pos s c h h1
  rw [e, List.length_nil] at h2
  omega
theorem dmp_rws (s : ByteArray) (c : Nat) (h : 0 < s.size) (h1 : 1 ≤ c) : dmp c 1 (ptl s c (np s c)) = jo (rws s c) ++ [10] := by
  rw [dmp_flat, flat_jo]
  · rfl
  · intro e
    have h2 := ptl_len s c (np s c)
    have h3 := np_pos s c h h1
    rw [e, List.length_nil] at h2
    omega
theorem jo_rng : ∀ (L : List (List Int)), (∀ r ∈ L, Lw r) → ∀ z ∈ jo L, 0 ≤ z ∧ z < 256
  | [], _, z, hz => by cases hz
  | [r], h, z, hz => by
    have := h r (by simp) z hz
    omega
  | r :: q :: l, h, z, hz => by
    rw [jo, List.mem_append, List.mem_cons] at hz
    rcases hz with hz | rfl | hz
    · have := h r (by simp) z hz
      omega
    · omega
    · exact jo_rng (q :: l) (fun x hx => h x (by simp at hx ⊢; exact Or.inr hx)) z hz
/-- A dump's lines, the last first, are read as what was dumped. -/
theorem Load_rev (s : ByteArray) (c : Nat) (w : World) (hs : s.size ≤ 600) (h0 : 0 < s.size) (h1 : 1 ≤ c) (hc : c ≤ 256) :
    Calls Tryd.prog 11 #[.string (strOfNums (jo (rws s c).reverse))] w fun e w' => e = .returned (.tuple #[.string s, .nilIface]) ∧ Bl w w' := by
  have hnp := np_le s c h1
  have hpos := np_pos s c h0 h1
  have hlen := dmp_len c 1 hc (ptl s c (np s c)).reverse
  rw [List.length_reverse, ptl_len] at hlen
  obtain ⟨S, s1, s2, s3⟩ := mkS c 1 hc (ptl s c (np s c)).reverse 0 (fun x hx => ptl_mem s c hs h1 hc x (List.mem_reverse.1 hx)) (by omega)
  have hz : jo (rws s c).reverse ++ [10] = dmp c 1 (ptl s c (np s c)).reverse := by
    rw [dmp_flat, flat_jo]
    · unfold rws
      rw [List.map_reverse]
    · intro e
      have h2 := congrArg List.length e
      rw [List.length_reverse, ptl_len, List.length_nil] at h2
      omega
  have hzl : (jo (rws s c).reverse).length ≤ 2000 * np s c := by
    have := congrArg List.length hz
    rw [List.length_append] at this
    omega
  have hln := Ln_cut (fun x : Lt true 256 => x.1.1) (fun x => bs x.1.1.2) (jo (rws s c).reverse) (jo_rng _ (fun r hr => rws_lw s c r (List.mem_reverse.1 hr))) S [] (by rw [hz, s2]; rfl) (fun x _ => by
    obtain ⟨x, g1, g2, g3, g4⟩ := x
    rw [if_pos rfl] at g4
    obtain ⟨k, hk, _⟩ := g4
    show 0 < (bs x.1.2).length
    rw [bs_len]
    omega) s1
  have h := Load_at true 256 _ S w (by rw [strOfNums_size]; omega) hln (fun e => by cases e)
  have hap : ap S = bs s := by
    rw [ap_map, s3]
    obtain ⟨n, hn⟩ : ∃ n, n + 1 = np s c := ⟨np s c - 1, by omega⟩
    rw [List.foldl_map, ← hn, rev_ptl]
    rw [fold_rev s c n (by omega) h1 (by omega) hn n 0 (Nat.zero_add _), Nat.zero_mul]
    rfl
  rw [hap, str_bs] at h
  exact h
end Go.Proofs.YtmchpmfogjhpoabDoor.xo
