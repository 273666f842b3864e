/- A dump and a plain dump, read, are the text that they show. -/
import Derived.Test.YtmchpmfogjhpoabDoorXb2
namespace Go.Proofs.YtmchpmfogjhpoabDoor.xb
set_option linter.unusedVariables false
open Go.ChangeShapes Go.WideShapes Go.ChangeAt Go.RowKit
open mem rows xd xl
open digs (hexL hexL_len)

theorem mkS (c g : Nat) (hc2 : c ≤ 256) : ∀ (l : List Pt) (a : Nat), (∀ x ∈ l, 1 ≤ x.1.2.size ∧ x.1.2.size ≤ c ∧ x.1.1 + x.1.2.size ≤ 4000) → a + (dmp c g l).length ≤ 2000000 →
    ∃ S : List (Lt true 256), Ch (fun x : Lt true 256 => x.1.1) (fun x => bs x.1.1.2) a S ∧ flat (fun x : Lt true 256 => bs x.1.1.2) S = dmp c g l ∧ S.map (fun x => x.1.2) = l.map (fun x => (x.1.1, by_ x.1.2))
  | [], a, _, _ => ⟨[], trivial, rfl, rfl⟩
  | x :: l, a, h, ha => by
    obtain ⟨h1, h2, h3⟩ := h x (by simp)
    rw [dmp, ln_row, List.length_append, List.length_append, List.length_cons, List.length_nil] at ha
    obtain ⟨S, s1, s2, s3⟩ := mkS c g hc2 l (a + (rowd c g x.1.1 x.1.2).length + 1) (fun y hy => h y (by simp [hy])) (by omega)
    have hr : bs (strOfNums (rowd c g x.1.1 x.1.2)) = rowd c g x.1.1 x.1.2 := bs_str (fun z hz => by have := rowd_rng c g x.1.1 x.1.2 z hz; omega)
    refine ⟨⟨((a, strOfNums (rowd c g x.1.1 x.1.2)), (x.1.1, by_ x.1.2)), good_d c g x.1.1 a x.1.2 (by omega) h1 h2 hc2 h3⟩ :: S, ⟨?_, ?_, ?_⟩, ?_, ?_⟩
    · show (a, strOfNums (rowd c g x.1.1 x.1.2)) = (a, strOfNums (bs (strOfNums (rowd c g x.1.1 x.1.2))))
      rw [hr]
    · show ∀ z ∈ bs (strOfNums (rowd c g x.1.1 x.1.2)), z ≠ 10
      rw [hr]
      intro z hz
      have := rowd_rng c g x.1.1 x.1.2 z hz
      omega
    · show Ch _ _ (a + (bs (strOfNums (rowd c g x.1.1 x.1.2))).length + 1) S
      rw [hr]
      exact s1
    · rw [flat, s2, dmp, ln_row]
      show bs (strOfNums (rowd c g x.1.1 x.1.2)) ++ [10] ++ _ = _
      rw [hr]
    · rw [List.map_cons, List.map_cons, s3]
theorem mkP (mx : Nat) (hc2 : mx ≤ 256) : ∀ (l : List Pt) (a : Nat), (∀ x ∈ l, x.1.2.size ≤ mx) → a + (pln l).length ≤ 2000000 →
    ∃ S : List (Lt false mx), Ch (fun x : Lt false mx => x.1.1) (fun x => bs x.1.1.2) a S ∧ flat (fun x : Lt false mx => bs x.1.1.2) S = pln l ∧ S.map (fun x => x.1.2) = l.map (fun x => (0, by_ x.1.2))
  | [], a, _, _ => ⟨[], trivial, rfl, rfl⟩
  | x :: l, a, h, ha => by
    have h1 := h x (by simp)
    rw [pln, List.length_append, List.length_append, List.length_cons, List.length_nil] at ha
    obtain ⟨S, s1, s2, s3⟩ := mkP mx hc2 l (a + (hexL x.1.2 x.1.2.size).length + 1) (fun y hy => h y (by simp [hy])) (by omega)
    have hr : bs (strOfNums (hexL x.1.2 x.1.2.size)) = hexL x.1.2 x.1.2.size := bs_str (fun z hz => by have := hexL_rng x.1.2 x.1.2.size z hz; omega)
    refine ⟨⟨((a, strOfNums (hexL x.1.2 x.1.2.size)), (0, by_ x.1.2)), good_p a mx x.1.2 (by omega) h1 hc2⟩ :: S, ⟨?_, ?_, ?_⟩, ?_, ?_⟩
    · show (a, strOfNums (hexL x.1.2 x.1.2.size)) = (a, strOfNums (bs (strOfNums (hexL x.1.2 x.1.2.size))))
      rw [hr]
    · show ∀ z ∈ bs (strOfNums (hexL x.1.2 x.1.2.size)), z ≠ 10
      rw [hr]
      intro z hz
      have := hexL_rng x.1.2 x.1.2.size z hz
      omega
    · show Ch _ _ (a + (bs (strOfNums (hexL x.1.2 x.1.2.size))).length + 1) S
      rw [hr]
      exact s1
    · rw [flat, s2, pln]
      show bs (strOfNums (hexL x.1.2 x.1.2.size)) ++ [10] ++ _ = _
      rw [hr]
    · rw [List.map_cons, List.map_cons, s3]
theorem ap_map {b : Bool} {mx : Nat} (S : List (Lt b mx)) : ap S = (S.map (fun x => x.1.2)).foldl (eff b) [] := by
  unfold ap
  rw [List.foldl_map]
theorem bs_cut (s : ByteArray) (a e : Nat) : bs (s.extract a e) = ((bs s).drop a).take (e - a) := by
  unfold bs
  rw [ByteArray.data_extract, Array.toList_extract, List.extract_eq_take_drop, List.map_take, List.map_drop]
theorem fold_ptl (b : Bool) (s : ByteArray) (c : Nat) (hs : s.size ≤ 5000) (h1 : 1 ≤ c) (h2 : c ≤ 1000) : ∀ m, m ≤ np s c →
    ((ptl s c m).map (fun x => (if b = true then x.1.1 else 0, by_ x.1.2))).foldl (eff b) [] = (bs s).take (m * c)
  | 0, _ => by simp [ptl]
  | m + 1, h => by
    have ih := fold_ptl b s c hs h1 h2 m (by omega)
    have hlt := (np_lt s c m h1).1 (by omega)
    rw [ptl_succ, List.map_append, List.foldl_append, ih]
    obtain ⟨a, ha⟩ : ∃ a, a = m * c := ⟨_, rfl⟩
    obtain ⟨e, he⟩ : ∃ e, e = min (a + c) s.size := ⟨_, rfl⟩
    rw [← ha] at hlt
    have hsz : (s.extract a e).size = e - a := by rw [ByteArray.size_extract]; omega
    rw [pt_is s c m a e ha (by omega) h2 he (by dsimp only; omega), ← ha, Nat.succ_mul, ← ha]
    have hl : ((bs s).take a).length = a := by rw [List.length_take, bs_len]; omega
    show eff b ((bs s).take a) (if b = true then a else 0, by_ (s.extract a e)) = _
    unfold eff
    have hk : (if b = true then (if b = true then a else 0) else ((bs s).take a).length) = ((bs s).take a).length := by
      cases b with
      | true => rw [if_pos rfl, if_pos rfl, hl]
      | false => rfl
    show putL _ (if b = true then (if b = true then a else 0) else ((bs s).take a).length) (by_ (s.extract a e)) = _
    rw [hk, putL_app, by_bs, bs_cut, List.take_add]
    congr 1
    rw [List.take_eq_take_iff, List.length_drop, bs_len]
    omega
theorem ptl_mem (s : ByteArray) (c : Nat) (hs : s.size ≤ 600) (h1 : 1 ≤ c) (h2 : c ≤ 256) : ∀ x ∈ ptl s c (np s c), 1 ≤ x.1.2.size ∧ x.1.2.size ≤ c ∧ x.1.1 + x.1.2.size ≤ 4000 := by
  intro x hx
  obtain ⟨k, hk, rfl⟩ := List.mem_map.1 hx
  have hlt := (np_lt s c k h1).1 (List.mem_range.1 hk)
  obtain ⟨a, ha⟩ : ∃ a, a = k * c := ⟨_, rfl⟩
  obtain ⟨e, he⟩ : ∃ e, e = min (a + c) s.size := ⟨_, rfl⟩
  rw [← ha] at hlt
  have hsz : (s.extract a e).size = e - a := by rw [ByteArray.size_extract]; omega
  rw [pt_is s c k a e ha (by omega) (by omega) he (by dsimp only; omega)]
  dsimp only
  omega
theorem np_end (s : ByteArray) (c : Nat) (h1 : 1 ≤ c) : s.size ≤ np s c * c := by
  have := np_lt s c (np s c) h1
  omega
theorem dmp_rng (c g : Nat) : ∀ l : List Pt, ∀ z ∈ dmp c g l, 0 ≤ z ∧ z < 256
  | [], z, hz => by cases hz
  | x :: l, z, hz => by
    rw [dmp, ln_row, List.mem_append, List.mem_append] at hz
    rcases hz with (hz | hz) | hz
    · have := rowd_rng c g x.1.1 x.1.2 z hz
      omega
    · have : z = 10 := by simpa using hz
      omega
    · exact dmp_rng c g l z hz
theorem pln_rng : ∀ l : List Pt, ∀ z ∈ pln l, 0 ≤ z ∧ z < 256
  | [], z, hz => by cases hz
  | x :: l, z, hz => by
    rw [pln, List.mem_append, List.mem_append] at hz
    rcases hz with (hz | hz) | hz
    · have := hexL_rng x.1.2 x.1.2.size z hz
      omega
    · have : z = 10 := by simpa using hz
      omega
    · exact pln_rng l z hz
/-- A dump is read as what was dumped. -/
theorem Load_dump (s : ByteArray) (c g : Nat) (w : World) (hs : s.size ≤ 600) (hg : 1 ≤ g) (hgc : g ≤ c) (hc : c ≤ 256) :
    Calls Tryd.prog 11 #[.string (strOfNums (dmp c g (ptl s c (np s c))))] w fun e w' => e = .returned (.tuple #[.string s, .nilIface]) ∧ Bl w w' := by
  have hnp := np_le s c (by omega)
  have hlen := dmp_len c g hc (ptl s c (np s c))
  rw [ptl_len] at hlen
  obtain ⟨S, s1, s2, s3⟩ := mkS c g hc (ptl s c (np s c)) 0 (ptl_mem s c hs (by omega) hc) (by omega)
  have hln := Ln_of (fun x : Lt true 256 => x.1.1) (fun x => bs x.1.1.2) (dmp c g (ptl s c (np s c))) (dmp_rng c g _) S [] (by rw [s2]; rfl) s1
  have h := Load_at true 256 _ S w (by rw [strOfNums_size]; omega) hln (fun e => by cases e)
  have hap : ap S = bs s := by
    rw [ap_map, s3]
    have := fold_ptl true s c (by omega) (by omega) (by omega) (np s c) (Nat.le_refl _)
    simp only [if_true] at this
    rw [this]
    exact List.take_of_length_le (by rw [bs_len]; exact np_end s c (by omega))
  rw [hap, str_bs] at h
  exact h
/-- A plain dump is read as what was dumped. -/
theorem Load_plain (s : ByteArray) (w : World) (hs : s.size ≤ 600) :
    Calls Tryd.prog 11 #[.string (strOfNums (pln (ptl s 30 (np s 30))))] w fun e w' => e = .returned (.tuple #[.string s, .nilIface]) ∧ Bl w w' := by
  have hnp : np s 30 ≤ 21 := by unfold np; omega
  have hlen := pln_len (ptl s 30 (np s 30))
  rw [ptl_len] at hlen
  obtain ⟨S, s1, s2, s3⟩ := mkP 30 (by omega) (ptl s 30 (np s 30)) 0 (fun x hx => (ptl_mem s 30 hs (by omega) (by omega) x hx).2.1) (by omega)
  have hSl : S.length = np s 30 := by
    have := congrArg List.length s3
    rw [List.length_map, List.length_map, ptl_len] at this
    exact this
  have hln := Ln_of (fun x : Lt false 30 => x.1.1) (fun x => bs x.1.1.2) (pln (ptl s 30 (np s 30))) (pln_rng _) S [] (by rw [s2]; rfl) s1
  have h := Load_at false 30 _ S w (by rw [strOfNums_size]; omega) hln (fun _ => by rw [hSl]; omega)
  have hap : ap S = bs s := by
    rw [ap_map, s3]
    have := fold_ptl false s 30 (by omega) (by omega) (by omega) (np s 30) (Nat.le_refl _)
    simp only [Bool.false_eq_true, if_false] at this
    rw [this]
    exact List.take_of_length_le (by rw [bs_len]; exact np_end s 30 (by omega))
  rw [hap, str_bs] at h
  exact h
end Go.Proofs.YtmchpmfogjhpoabDoor.xb
