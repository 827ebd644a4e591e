/-
  Texts laid together in one: MathLd, LayoutKept, IdsCheckF, MathRn, GraphNew, Law14Among, MathBl.
-/
import Derived.WalkSpells
import Derived.Test.YtlcaedibmlidlaaGreatB21
import Derived.Test.YtlcaedibmlidlaaGreatB22
import Derived.Test.YtlcaedibmlidlaaGreatB09
import Derived.Test.YtlcaedibmlidlaaGreatB20
import Derived.Deep.MidRow
import Derived.Test.YtlcaedibmlidlaaGreatProg
import Derived.WalkMore
import Derived.BigRegion
import Derived.Test.YtlcaedibmlidlaaGreatB10
import Derived.OwnWalk
import Derived.Test.YtlcaedibmlidlaaGreatB01
import Derived.Test.YtlcaedibmlidlaaGreatB04
import Derived.Test.YtlcaedibmlidlaaGreatB05
import Derived.Test.YtlcaedibmlidlaaGreatB11
/-
  What the blocks of a module's functions lead to: in plain mathematics.
-/
namespace Go.Proofs.YtlcaedibmlidlaaGreat
open Go.RowKit
set_option linter.unusedVariables false
set_option linter.unusedSimpArgs false
set_option maxRecDepth 10000

theorem blkC_at {l : List InstT} : ∀ {bs : List (Int × Int × Int)} {s e : Nat}, blkC l s bs e → ∀ j, j < bs.length → ∃ q t : Nat, nthB bs j = ((nthI l q).2.2.1, (q : Int), (t : Int)) ∧ s ≤ q ∧ q + 1 < t ∧ t ≤ e ∧ endsB (nthI l (t - 1)).1 = true
  | [], s, e, h, j, hj => absurd hj (Nat.not_lt_zero j)
  | b :: bs, s, e, h, 0, hj => by
    obtain ⟨h1, h2, t, h3, h4, h5, h6⟩ := h
    refine ⟨s, t, ?_, Nat.le_refl _, h4, blkC_le h6, h5⟩
    obtain ⟨b1, b2, b3⟩ := b
    simp only at h1 h2 h3
    simp [nthB, h1, h2, h3]
  | b :: bs, s, e, h, j + 1, hj => by
    obtain ⟨_, _, t, _, h4, _, h6⟩ := h
    obtain ⟨q, u, a1, a2, a3, a4, a5⟩ := blkC_at h6 j (by simp at hj; omega)
    exact ⟨q, u, by simpa [nthB] using a1, by omega, a3, a4, a5⟩

theorem fnC_mem {l : List InstT} : ∀ {fs : List FuncT} {s e : Nat}, fnC l s fs e → ∀ f ∈ fs, ∃ q t : Nat, s ≤ q ∧ f.2.1 = (q : Int) ∧ (nthI l q).2.2.1 = f.1 ∧ f.2.2.2.1 ≠ [] ∧ f.2.2.2.2 = (t : Int) ∧ blkC l (q + 1 + f.2.2.1.length) f.2.2.2.1 t ∧ t + 1 ≤ e
  | [], s, e, h, f, hf => by cases hf
  | g :: fs, s, e, h, f, hf => by
    obtain ⟨a1, a2, a3, t, a4, a5, a6⟩ := h
    rcases List.mem_cons.1 hf with rfl | hf
    · exact ⟨s, t, Nat.le_refl _, a1, a2, a3, a4, a5, fnC_le a6⟩
    · obtain ⟨q, u, b1, b2⟩ := fnC_mem a6 f hf
      have := blkC_le a5
      exact ⟨q, u, by omega, b2⟩

theorem whole246 : (lookF refT 246).2 = true ∧ (lookF refT 246).1.2.2.2.1.size = 3 ∧ (lookF refT 247).2 = true ∧ (lookF refT 247).1.2.2.2.1.size = 2 := ⟨by kernel_rfl, by kernel_rfl, by kernel_rfl, by kernel_rfl⟩
theorem rawE_whole {x : InstT} {b : Int} (h : rawE x b = 0) : (lookF refT x.1).1.2.2.2.1.size ≤ x.2.2.2.length := by
  unfold rawE at h
  split at h
  · unfold faultI at h
    split at h
    · next h1 => exact absurd h h1
    · split at h
      · next h1 => exact absurd h h1
      · split at h
        · next h1 => exact absurd h h1
        · split at h
          · cases h
          · next h1 =>
            have h2 : wholeN (lookF refT x.1).1 x.2.2.2.length = true := by simpa using h1
            unfold wholeN at h2
            split at h2
            · cases h2
            · omega
  · cases h
theorem merge_args {b : Int} {l : List InstT} (h : (layE b l).1 = 0) : ∀ i, i < l.length → ((nthI l i).1 = 246 → 2 ≤ (nthI l i).2.2.2.length) ∧ ((nthI l i).1 = 247 → 1 ≤ (nthI l i).2.2.2.length) := by
  intro i hi
  have h1 := rawE_whole (shape_each (layE_ok h).2.1 i hi)
  refine ⟨fun e => ?_, fun e => ?_⟩
  · rw [e, whole246.2.1] at h1; omega
  · rw [e, whole246.2.2.2] at h1; omega

/-- What Lead asks of a function of a module in order. -/
theorem lead_prem {b : Int} {l : List InstT} {f : FuncT} (h : (layE b l).1 = 0) (hok : InstsOk l) (hf : f ∈ cutTo l l.length) :
    f.2.2.2.1 ≠ [] ∧ f.2.2.2.1.length ≤ 1048576 ∧ f.2.2.1.length ≤ 1048576 ∧ ∀ j, j < f.2.2.2.1.length → 0 ≤ (nthB f.2.2.2.1 j).1 ∧ (nthB f.2.2.2.1 j).1 < 4294967296 ∧ 2 ≤ (nthB f.2.2.2.1 j).2.2 ∧ (nthB f.2.2.2.1 j).2.2 ≤ (l.length : Int) := by
  have hsm := cutTo_small l l.length
  have h20 := (shape_few (layE_ok h).2.1).1
  obtain ⟨q, t, _, _, _, hne, _, hbl, hle⟩ := fnC_mem (whole_cut h) f hf
  have h2 := hsm.2 f hf
  refine ⟨hne, by omega, by omega, fun j hj => ?_⟩
  obtain ⟨s, u, e, _, h3, h4, _⟩ := blkC_at hbl j hj
  rw [e]
  have hs := hok s (by omega)
  refine ⟨hs.2.2.2.2.1, hs.2.2.2.2.2.1, ?_, ?_⟩
  · show (2 : Int) ≤ (u : Int); omega
  · show (u : Int) ≤ (l.length : Int); omega

open Classical in
/-- What is wrong with where blocks lead. -/
noncomputable def ldE (F : Int → Option Int) (l : List InstT) : List (Int × Int × Int) → Int × Int
  | [] => (0, 0)
  | b :: bs => if ¬ okM F l b then (140, b.2.2 - 2) else if ¬ okT F l b then (140, b.2.2 - 1) else ldE F l bs
theorem ldE_ok {F : Int → Option Int} {l : List InstT} : ∀ {bs : List (Int × Int × Int)}, (∀ b ∈ bs, okM F l b ∧ okT F l b) → ldE F l bs = (0, 0)
  | [], _ => rfl
  | b :: bs, h => by
    have h1 := h b (List.mem_cons_self ..)
    rw [ldE, if_neg (by simpa using h1.1), if_neg (by simpa using h1.2)]
    exact ldE_ok fun c hc => h c (List.mem_cons_of_mem _ hc)
theorem ldE_at {F : Int → Option Int} {l : List InstT} : ∀ {bs : List (Int × Int × Int)} {k : Nat}, k < bs.length → (∀ j, j < k → okM F l (nthB bs j) ∧ okT F l (nthB bs j)) → ldE F l bs = ldE F l (bs.drop k)
  | bs, 0, _, _ => rfl
  | [], k + 1, h, _ => absurd h (Nat.not_lt_zero _)
  | b :: bs, k + 1, h, hj => by
    have h1 := hj 0 (by omega)
    simp only [nthB, List.getD_cons_zero] at h1
    rw [ldE, if_neg (by simpa using h1.1), if_neg (by simpa using h1.2), List.drop_succ_cons]
    exact ldE_at (by simp at h; omega) fun j hj2 => by have := hj (j + 1) (by omega); simpa [nthB] using this
theorem drop_nthB {bs : List (Int × Int × Int)} {k : Nat} (h : k < bs.length) : bs.drop k = nthB bs k :: bs.drop (k + 1) := by
  rw [List.drop_eq_getElem_cons h]
  simp [nthB, List.getD, h]
theorem ldE_zero {F : Int → Option Int} {l : List InstT} : ∀ {bs : List (Int × Int × Int)}, (ldE F l bs).1 = 0 → ∀ b ∈ bs, okM F l b ∧ okT F l b
  | [], _, b, hb => by cases hb
  | c :: bs, h, b, hb => by
    rw [ldE] at h
    split at h
    · cases h
    · next h1 =>
      split at h
      · cases h
      · next h2 =>
        rcases List.mem_cons.1 hb with rfl | hb
        · exact ⟨by simpa using h1, by simpa using h2⟩
        · exact ldE_zero h b hb
/-- What Lead answers, by one function. -/
theorem leadQ_E {w w' : World} {F : Int → Option Int} {l : List InstT} {bs : List (Int × Int × Int)} {e : Ending} (h : LeadQ w w' F l bs e) :
    Below w.heap.size w w' ∧ ∃ hv mv, e = .returned (.tuple #[hv, mv, .agg #[.int .i64 (ldE F l bs).1, .int .i64 (ldE F l bs).2]]) ∧ ((ldE F l bs).1 = 0 ∧ (ldE F l bs).2 = 0 ∧ LeadR w' w.heap.size hv (bs.map (ldN F l)) mv (bs.map (ldM F l)) ∨ (ldE F l bs).1 = 140) := by
  obtain ⟨hb, h⟩ := h
  refine ⟨hb, ?_⟩
  rcases h with ⟨hall, hv, mv, rfl, hL⟩ | ⟨k, hk, hj, h⟩
  · rw [ldE_ok hall]
    exact ⟨hv, mv, rfl, .inl ⟨rfl, rfl, hL⟩⟩
  · rw [ldE_at hk hj, drop_nthB hk]
    rcases h with ⟨h1, rfl⟩ | ⟨h1, h2, rfl⟩
    · rw [ldE, if_pos h1]
      exact ⟨_, _, rfl, .inr rfl⟩
    · rw [ldE, if_neg (by simpa using h1), if_pos h2]
      exact ⟨_, _, rfl, .inr rfl⟩
/-- Of a block that may stand, what it leads to are numbers of blocks. -/
theorem numT_range (bs : List (Int × Int × Int)) : ∀ (k : Nat) (y n : Int), numT bs k y = some n → 0 ≤ n ∧ n < k
  | 0, y, n, h => by cases h
  | k + 1, y, n, h => by
    have h : (if y = (nthB bs k).1 then some (k : Int) else numT bs k y) = some n := h
    split at h
    · injection h with h; omega
    · have := numT_range bs k y n h; omega
theorem numG_range {bs : List (Int × Int × Int)} {k : Nat} {y : Int} (h : ¬ numG (numT bs k) y = 0) : 0 < numG (numT bs k) y ∧ numG (numT bs k) y < k := by
  unfold numG at h ⊢
  cases e : numT bs k y with
  | none => rw [e] at h; exact absurd rfl h
  | some n =>
    rw [e] at h
    have := numT_range bs k y n e
    simp only [Option.getD_some] at h ⊢
    omega
theorem lead_edges {l : List InstT} {bs : List (Int × Int × Int)} (h : ∀ b ∈ bs, okM (numT bs bs.length) l b ∧ okT (numT bs bs.length) l b) : ∀ j x, x ∈ rowN (bs.map (ldN (numT bs bs.length) l)) j → 0 < x ∧ x < (bs.length : Int) := by
  intro j x hx
  by_cases hj : j < bs.length
  · have e : rowN (bs.map (ldN (numT bs bs.length) l)) j = ldN (numT bs bs.length) l (nthB bs j) := by
      simp [rowN, nthB, List.getD, hj]
    rw [e] at hx
    unfold ldN at hx
    obtain ⟨y, hy, rfl⟩ := List.mem_map.1 hx
    have hm : nthB bs j ∈ bs := by simp [nthB, List.getD, hj]
    exact numG_range ((h _ hm).2 y hy)
  · have e : rowN (bs.map (ldN (numT bs bs.length) l)) j = [] := by
      unfold rowN; rw [List.getD_eq_getElem?_getD, List.getElem?_eq_none (by rw [List.length_map]; omega)]; rfl
    rw [e] at hx; cases hx

theorem tgL_any (l : List InstT) (hok : InstsOk l) (k : Nat) : 8 * (tgL (nthI l k)).length ≤ 140737488351232 := by
  by_cases hk : k < l.length
  · have h := hok k hk
    have h2 := tgL_facts (nthI l k) h.2.2.2.2.2.2.1
    have h3 := h.2.2.2.2.2.2.2
    have h4 := h2.1
    omega
  · have e : (nthI l k).2.2.2 = [] := by
      unfold nthI; rw [List.getD_eq_getElem?_getD, List.getElem?_eq_none (by omega)]; rfl
    have : (tgL (nthI l k)).length ≤ (nthI l k).2.2.2.length := by
      unfold tgL; split
      · exact tgP_len _ _ _
      · exact Nat.zero_le _
    rw [e] at this
    simp at this
    rw [this]; simp
theorem lead_few {F : Int → Option Int} {l : List InstT} (hok : InstsOk l) (bs : List (Int × Int × Int)) : ∀ j, 8 * (rowN (bs.map (ldN F l)) j).length ≤ 140737488351232 := by
  intro j
  by_cases hj : j < bs.length
  · have e : rowN (bs.map (ldN F l)) j = ldN F l (nthB bs j) := by
      simp [rowN, nthB, List.getD, hj]
    rw [e]
    unfold ldN
    rw [List.length_map]
    exact tgL_any l hok _
  · have e : rowN (bs.map (ldN F l)) j = [] := by
      unfold rowN; rw [List.getD_eq_getElem?_getD, List.getElem?_eq_none (by rw [List.length_map]; omega)]; rfl
    rw [e]; simp

open Classical in
/-- What is wrong with a function's blocks. -/
noncomputable def newE (b : Int) (l : List InstT) (f : FuncT) : Int × Int :=
  if (idsE b l).1 ≠ 0 then ((idsE b l).1, ((idsE b l).2 : Int)) else if f ∉ cutTo l l.length then (2, 0) else if 4096 < f.2.2.2.1.length then (4, f.2.1) else ldE (numT f.2.2.2.1 f.2.2.2.1.length) l f.2.2.2.1
def newN (l : List InstT) (f : FuncT) : List (List Int) := f.2.2.2.1.map (ldN (numT f.2.2.2.1 f.2.2.2.1.length) l)
def newM (l : List InstT) (f : FuncT) : List (Int × Int × Int) := f.2.2.2.1.map (ldM (numT f.2.2.2.1 f.2.2.2.1.length) l)

end Go.Proofs.YtlcaedibmlidlaaGreat

/-
  Places and a spot, laid into two new boxes.
-/
namespace Go.Proofs.YtlcaedibmlidlaaGreat
open Go.RowKit
set_option linter.unusedVariables false
set_option linter.unusedSimpArgs false
set_option maxRecDepth 10000

/-- Places and a spot, laid into two new boxes. -/
theorem kept_parts (w1 : World) (f : Nat → Int) (e1 e2 : Int) :
    let W2 := (w1.alloc (.cells #[.int .i64 0, .int .i64 0, .int .i64 0, .int .i64 0, .int .i64 0, .int .i64 0, .int .i64 0, .int .i64 0, .int .i64 0, .int .i64 0, .int .i64 0, .int .i64 0, .int .i64 0, .int .i64 0, .int .i64 0, .int .i64 0, .int .i64 0, .int .i64 0, .int .i64 0, .int .i64 0] 83)).alloc (.cells #[.int .i64 0, .int .i64 0] 33)
    let X := (W2.setCells w1.heap.size 0 [.int .i64 (f 0), .int .i64 (f 1), .int .i64 (f 2), .int .i64 (f 3), .int .i64 (f 4), .int .i64 (f 5), .int .i64 (f 6), .int .i64 (f 7), .int .i64 (f 8), .int .i64 (f 9), .int .i64 (f 10), .int .i64 (f 11), .int .i64 (f 12), .int .i64 (f 13), .int .i64 (f 14), .int .i64 (f 15), .int .i64 (f 16), .int .i64 (f 17), .int .i64 (f 18), .int .i64 (f 19)]).setCells (w1.heap.size + 1) 0 [.int .i64 e1, .int .i64 e2]
    W2.there w1.heap.size 0 20 ∧ (W2.setCells w1.heap.size 0 [.int .i64 (f 0), .int .i64 (f 1), .int .i64 (f 2), .int .i64 (f 3), .int .i64 (f 4), .int .i64 (f 5), .int .i64 (f 6), .int .i64 (f 7), .int .i64 (f 8), .int .i64 (f 9), .int .i64 (f 10), .int .i64 (f 11), .int .i64 (f 12), .int .i64 (f 13), .int .i64 (f 14), .int .i64 (f 15), .int .i64 (f 16), .int .i64 (f 17), .int .i64 (f 18), .int .i64 (f 19)]).there (w1.heap.size + 1) 0 2 ∧ X.heap[w1.heap.size]? = some (.cells #[.int .i64 (f 0), .int .i64 (f 1), .int .i64 (f 2), .int .i64 (f 3), .int .i64 (f 4), .int .i64 (f 5), .int .i64 (f 6), .int .i64 (f 7), .int .i64 (f 8), .int .i64 (f 9), .int .i64 (f 10), .int .i64 (f 11), .int .i64 (f 12), .int .i64 (f 13), .int .i64 (f 14), .int .i64 (f 15), .int .i64 (f 16), .int .i64 (f 17), .int .i64 (f 18), .int .i64 (f 19)] 83 (0, 0)) ∧ X.heap[w1.heap.size + 1]? = some (.cells #[.int .i64 e1, .int .i64 e2] 33 (0, 0)) ∧ Below w1.heap.size w1 X ∧ w1.heap.size + 1 < X.heap.size := by
  intro W2 X
  have h1 : W2.heap[w1.heap.size]? = some (.cells #[.int .i64 0, .int .i64 0, .int .i64 0, .int .i64 0, .int .i64 0, .int .i64 0, .int .i64 0, .int .i64 0, .int .i64 0, .int .i64 0, .int .i64 0, .int .i64 0, .int .i64 0, .int .i64 0, .int .i64 0, .int .i64 0, .int .i64 0, .int .i64 0, .int .i64 0, .int .i64 0] 83 (0, 0)) := by
    show (World.alloc _ _).heap[_]? = _
    rw [Below.heap_alloc _ _ _ (by simp)]; exact heap_alloc_new w1 _
  have h2 : W2.heap[w1.heap.size + 1]? = some (.cells #[.int .i64 0, .int .i64 0] 33 (0, 0)) := by
    have := heap_alloc_new (w1.alloc (.cells #[.int .i64 0, .int .i64 0, .int .i64 0, .int .i64 0, .int .i64 0, .int .i64 0, .int .i64 0, .int .i64 0, .int .i64 0, .int .i64 0, .int .i64 0, .int .i64 0, .int .i64 0, .int .i64 0, .int .i64 0, .int .i64 0, .int .i64 0, .int .i64 0, .int .i64 0, .int .i64 0] 83)) (.cells #[.int .i64 0, .int .i64 0] 33)
    rw [World.size_alloc] at this
    exact this
  have hg := setCells_grown w1.heap.size [.int .i64 (f 0), .int .i64 (f 1), .int .i64 (f 2), .int .i64 (f 3), .int .i64 (f 4), .int .i64 (f 5), .int .i64 (f 6), .int .i64 (f 7), .int .i64 (f 8), .int .i64 (f 9), .int .i64 (f 10), .int .i64 (f 11), .int .i64 (f 12), .int .i64 (f 13), .int .i64 (f 14), .int .i64 (f 15), .int .i64 (f 16), .int .i64 (f 17), .int .i64 (f 18), .int .i64 (f 19)] 0 W2
  have hs : W2.heap.size = w1.heap.size + 2 := by show (World.alloc _ _).heap.size = _; simp
  have hb2 : Below w1.heap.size w1 W2 := ((Below.refl _ w1).alloc (Nat.le_refl _) _).alloc (by simp) _
  have k2 := (hg.block (w1.heap.size + 1) (by omega) (by simp)).trans h2
  have hg2 := setCells_grown (w1.heap.size + 1) [.int .i64 e1, .int .i64 e2] 0 (W2.setCells w1.heap.size 0 [.int .i64 (f 0), .int .i64 (f 1), .int .i64 (f 2), .int .i64 (f 3), .int .i64 (f 4), .int .i64 (f 5), .int .i64 (f 6), .int .i64 (f 7), .int .i64 (f 8), .int .i64 (f 9), .int .i64 (f 10), .int .i64 (f 11), .int .i64 (f 12), .int .i64 (f 13), .int .i64 (f 14), .int .i64 (f 15), .int .i64 (f 16), .int .i64 (f 17), .int .i64 (f 18), .int .i64 (f 19)])
  have hs2 : w1.heap.size + 1 < (W2.setCells w1.heap.size 0 [.int .i64 (f 0), .int .i64 (f 1), .int .i64 (f 2), .int .i64 (f 3), .int .i64 (f 4), .int .i64 (f 5), .int .i64 (f 6), .int .i64 (f 7), .int .i64 (f 8), .int .i64 (f 9), .int .i64 (f 10), .int .i64 (f 11), .int .i64 (f 12), .int .i64 (f 13), .int .i64 (f 14), .int .i64 (f 15), .int .i64 (f 16), .int .i64 (f 17), .int .i64 (f 18), .int .i64 (f 19)]).heap.size := Nat.lt_of_lt_of_le (show w1.heap.size + 1 < W2.heap.size by omega) hg.size
  refine ⟨there_of_block h1 20 rfl, there_of_block k2 2 rfl, (hg2.block _ (by omega) (by simp)).trans (setCells_all [.int .i64 (f 0), .int .i64 (f 1), .int .i64 (f 2), .int .i64 (f 3), .int .i64 (f 4), .int .i64 (f 5), .int .i64 (f 6), .int .i64 (f 7), .int .i64 (f 8), .int .i64 (f 9), .int .i64 (f 10), .int .i64 (f 11), .int .i64 (f 12), .int .i64 (f 13), .int .i64 (f 14), .int .i64 (f 15), .int .i64 (f 16), .int .i64 (f 17), .int .i64 (f 18), .int .i64 (f 19)] h1 rfl), setCells_all [.int .i64 e1, .int .i64 e2] k2 rfl, below_grown (below_grown hb2 hg (fun g e => by simp at e; omega)) hg2 (fun g e => by simp at e; omega), Nat.lt_of_lt_of_le hs2 hg2.size⟩

end Go.Proofs.YtlcaedibmlidlaaGreat

/-
  Check of the package ids.
-/
namespace Go.Proofs.YtlcaedibmlidlaaGreat
open Go.RowKit
set_option linter.unusedVariables false
set_option linter.unusedSimpArgs false
set_option maxRecDepth 10000

set_option maxHeartbeats 8000000 in
theorem idsCheck_any (gen bnd : Int) (a : Option Addr) (n c : Nat) (l : List InstT) (w : World) (hv : InstsV w a l) (hok : InstsOk l) (hl : l.length = n) (hn : 40 * n ≤ 140737488351232) (g0 : 0 ≤ gen) (g1 : gen < 4294967296) (b0 : 0 ≤ bnd) (b1 : bnd < 4294967296) :
    Calls Tryz.prog 32 #[modV gen bnd a n c] w fun e w' => e = .returned (.agg #[.int .i64 (idsE bnd l).1, .int .i64 ((idsE bnd l).2 : Int)]) ∧ Below w.heap.size w w' := by
  obtain ⟨L, hL⟩ : ∃ L, L = idsE bnd l := ⟨_, rfl⟩
  rw [← hL]
  have hb0 : Below w.heap.size w ((w.alloc (.cells #[.int .u32 gen, .int .u32 bnd, .slice a n c] 25)).alloc (.cells #[.int .i64 0, .int .i64 0] 33)) := ((Below.refl _ w).alloc (Nat.le_refl _) _).alloc (by simp) _
  have hPp := layParts_any gen bnd a n c l _ (hv.below hb0) hok hl hn g0 g1 b0 b1
  have HFF := hide fun wx (h : InstsV wx a l) (h2 : n ≤ 1048576) (h3 : okTo l n) => firstFault_any a n c l wx h hok hl h2 h3
  have HE1 : Hid ((layE bnd l).1 ≠ 0 → L = layE bnd l) := fun h => by rw [hL]; unfold idsE; rw [if_pos h]
  have HE0 : Hid ((layE bnd l).1 = 0 → L = idsF l n 0 ∧ n ≤ 1048576 ∧ okTo l n ∧ partsF bnd l 14 = ((cntP l 7 n : Nat) : Int) ∧ partsF bnd l 15 = ((cntP l 8 n : Nat) : Int)) := fun h => by
    obtain ⟨q1, q2, q3⟩ := layE_ok h
    rw [hl] at q1
    refine ⟨by rw [hL]; unfold idsE; rw [if_neg (by simpa using h), hl], by rw [← hl]; exact (shape_few q2).1, q1, ?_, ?_⟩
    · unfold partsF; rw [if_neg (by simpa using h), hl]
    · unfold partsF; rw [if_neg (by simpa using h), hl]
  have HMB : Hid (((w.alloc (.cells #[.int .u32 gen, .int .u32 bnd, .slice a n c] 25)).alloc (.cells #[.int .i64 0, .int .i64 0] 33)).heap[w.heap.size]? = some (.cells #[.int .u32 gen, .int .u32 bnd, .slice a n c] 25 (0, 0))) := by
    show _ = _
    rw [Below.heap_alloc _ _ _ (by simp)]; exact heap_alloc_new w _
  have HRB : Hid (SpotB ((w.alloc (.cells #[.int .u32 gen, .int .u32 bnd, .slice a n c] 25)).alloc (.cells #[.int .i64 0, .int .i64 0] 33)) (w.heap.size + 1) 0 0) := by
    have := heap_alloc_new (w.alloc (.cells #[.int .u32 gen, .int .u32 bnd, .slice a n c] 25)) (.cells #[.int .i64 0, .int .i64 0] 33)
    rw [World.size_alloc] at this
    exact this
  have HLT : Hid (w.heap.size + 1 < ((w.alloc (.cells #[.int .u32 gen, .int .u32 bnd, .slice a n c] 25)).alloc (.cells #[.int .i64 0, .int .i64 0] 33)).heap.size) := by show _ < _; simp
  have HB0 := hide hb0
  have HV := hide hv
  have HRET : Hid (∀ (a' : Act) (Z : World), slot a'.tmps 2 = .pointer (some ⟨w.heap.size + 1, 0, none⟩) → a'.defers = [] → SpotB Z (w.heap.size + 1) L.1 (L.2 : Int) → Below w.heap.size w Z → bodyPost Tryz.prog Tryz.f32 (fun e w' => e = .returned (.agg #[.int .i64 L.1, .int .i64 (L.2 : Int)]) ∧ Below w.heap.size w w') .ret a' Z) := by
    intro a' Z q2 q3 q4 q5
    have r6 := run_loadVar_mid (P := Tryz.prog) Z (w.heap.size + 1) 0 33 [.int .i64 L.1, .int .i64 (L.2 : Int)] _ (range_of_block q4) Tryz.underlying33 rfl (by kernel_rfl)
    refine bodyPost_ret (v := .agg #[.int .i64 L.1, .int .i64 (L.2 : Int)]) ?_ q3 ⟨rfl, q5⟩
    have hG2 : a'.tmps.getD 2 undef = .pointer (some ⟨w.heap.size + 1, 0, none⟩) := q2
    simp only [results, Tryz.results32, List.mapM_toArray, List.mapM_cons, List.mapM_nil, hG2, asAddr, Sem.run_bind, Sem.run_pure, Result.andThen_ok, bind_assoc, pure_bind, Sem.run_map, map_pure, r6]
    rfl
  generalize partsF bnd l = f at *
  generalize layE bnd l = E at *
  obtain ⟨e1, e2⟩ := E
  unfold modV partsV at *
  simp only at *
  clear hb0 hv hok hl hL
  go_enter Tryz.func32, Tryz.ntmps32
  go_wp2_with fail
  generalize (w.alloc (.cells #[.int .u32 gen, .int .u32 bnd, .slice a n c] 25)).alloc (.cells #[.int .i64 0, .int .i64 0] 33) = W0 at *
  refine hPp.mono ?_
  rintro e w1 ⟨rfl, hb1⟩
  obtain ⟨k1, k2, k3, k4, k5, k6⟩ := kept_parts w1 f e1 e2
  have HK1 := hide k1
  have HK2 := hide k2
  have HK3 := hide k3
  have HK4 := hide k4
  have HK5 := hide (hb1.trans (k5.mono hb1.size))
  have HK6 := hide k6
  have HS1 : Hid (W0.heap.size ≤ w1.heap.size) := hb1.size
  clear k1 k2 k3 k4 k5 k6 hPp hb1
  go_wp2_with (with_reducible refine stopS 83 ?_)
  refine wpList_store_mid rfl 83 (.tmp 3) (.tmp 8) rfl w1.heap.size 0 #[.int .i64 (f 0), .int .i64 (f 1), .int .i64 (f 2), .int .i64 (f 3), .int .i64 (f 4), .int .i64 (f 5), .int .i64 (f 6), .int .i64 (f 7), .int .i64 (f 8), .int .i64 (f 9), .int .i64 (f 10), .int .i64 (f 11), .int .i64 (f 12), .int .i64 (f 13), .int .i64 (f 14), .int .i64 (f 15), .int .i64 (f 16), .int .i64 (f 17), .int .i64 (f 18), .int .i64 (f 19)] rfl rfl HK1.out (by kernel_rfl) (by simp [Value.oneCell']) ?_
  simp only [Act.put]
  refine wpList_store_mid rfl 33 (.tmp 4) (.tmp 9) rfl (w1.heap.size + 1) 0 #[.int .i64 e1, .int .i64 (e2 : Nat)] rfl rfl HK2.out (by kernel_rfl) (by simp [Value.oneCell']) ?_
  simp only [Act.put]
  generalize (((w1.alloc (.cells #[.int .i64 0, .int .i64 0, .int .i64 0, .int .i64 0, .int .i64 0, .int .i64 0, .int .i64 0, .int .i64 0, .int .i64 0, .int .i64 0, .int .i64 0, .int .i64 0, .int .i64 0, .int .i64 0, .int .i64 0, .int .i64 0, .int .i64 0, .int .i64 0, .int .i64 0, .int .i64 0] 83)).alloc (.cells #[.int .i64 0, .int .i64 0] 33)).setCells w1.heap.size 0 [.int .i64 (f 0), .int .i64 (f 1), .int .i64 (f 2), .int .i64 (f 3), .int .i64 (f 4), .int .i64 (f 5), .int .i64 (f 6), .int .i64 (f 7), .int .i64 (f 8), .int .i64 (f 9), .int .i64 (f 10), .int .i64 (f 11), .int .i64 (f 12), .int .i64 (f 13), .int .i64 (f 14), .int .i64 (f 15), .int .i64 (f 16), .int .i64 (f 17), .int .i64 (f 18), .int .i64 (f 19)]).setCells (w1.heap.size + 1) 0 [.int .i64 e1, .int .i64 (e2 : Nat)] = X at *
  clear HK1 HK2
  have hl0 := HLT.out
  have hs1 := HS1.out
  have hlx := HK6.out
  have HBX := hide (HB0.out.trans (HK5.out.mono HB0.out.size))
  have hwX : w.heap.size + 1 < X.heap.size := by omega
  obtain ⟨cm, _⟩ := one_block ((HK5.out.block w.heap.size (by omega)).trans HMB.out)
  have m2 := cm 2
  have hr : SpotB X (w.heap.size + 1) 0 0 := (HK5.out.block _ hl0).trans HRB.out
  obtain ⟨cr, fr⟩ := one_block hr
  have u0 := cr 0
  have u1 := cr 1
  obtain ⟨c4, _⟩ := one_block HK4.out
  have x0 := c4 0
  have x1 := c4 1
  obtain ⟨c3, _⟩ := one_block HK3.out
  have y14 := c3 14
  have y15 := c3 15
  have HR := hide hr
  have FINE : Hid (∀ (Z : World) (x y : Int), Below X.heap.size X Z → SpotB ((Z.setCell ⟨w.heap.size + 1, 0, none⟩ (.int .i64 x)).setCell ⟨w.heap.size + 1, 1, none⟩ (.int .i64 y)) (w.heap.size + 1) x y ∧ Below w.heap.size w ((Z.setCell ⟨w.heap.size + 1, 0, none⟩ (.int .i64 x)).setCell ⟨w.heap.size + 1, 1, none⟩ (.int .i64 y))) := fun Z x y hZ =>
    ⟨SpotB.put (e := 0) (p := 0) ((hZ.block _ hwX).trans HR.out) x y, below_grown (HBX.out.trans (hZ.mono HBX.out.size)) (setCells_grown (w.heap.size + 1) [.int .i64 x, .int .i64 y] 0 Z) (fun g e => by simp at e; omega)⟩
  clear cm cr c4 c3 hr
  by_cases he : e1 = 0
  · subst he
    obtain ⟨hLf, hnn, hto, hp7, hp8⟩ := HE0.out rfl
    have hF := HFF.out X (HV.out.below HBX.out) hnn hto
    rw [← hp7, ← hp8] at hF
    rw [← hLf] at hF
    clear HE1 HE0 HFF hLf hnn hto hp7 hp8
    go_wp2_with fail
    refine hF.mono ?_
    rintro e w3 ⟨rfl, hb3⟩
    obtain ⟨f1, f2⟩ := FINE.out w3 L.1 (L.2 : Int) hb3
    have F1 := hide f1
    have F2 := hide f2
    obtain ⟨cr3, fr3⟩ := one_block ((hb3.block (w.heap.size + 1) hwX).trans HR.out)
    have v0 := cr3 0
    have v1 := cr3 1
    have hw3 : w.heap.size + 1 < w3.heap.size := Nat.lt_of_lt_of_le hwX hb3.size
    clear hF f1 f2 hb3 cr3 u0 u1 fr
    go_wp2_with fail
    exact HRET.out _ _ rfl rfl F1.out F2.out
  · have he1 : (e1 != 0) = true := by simpa using he
    have HLE := hide (HE1.out he)
    obtain ⟨f1, f2⟩ := FINE.out X e1 e2 (Below.refl _ _)
    have F1 := hide f1
    have F2 := hide f2
    clear he HE0 HE1 f1 f2
    go_wp2_with fail
    refine HRET.out _ _ rfl rfl ?_ F2.out
    rw [HLE.out]
    exact F1.out
end Go.Proofs.YtlcaedibmlidlaaGreat

/-
  Ids numbered as they are made: in plain mathematics.
-/
namespace Go.Proofs.YtlcaedibmlidlaaGreat
open Go.RowKit
set_option linter.unusedVariables false
set_option linter.unusedSimpArgs false

/-- How many of the first k make an id. -/
def cntR (l : List InstT) : Nat → Nat
  | 0 => 0
  | k + 1 => cntR l k + (if (nthI l k).2.2.1 = 0 then 0 else 1)
theorem cntR_le (l : List InstT) : ∀ k, cntR l k ≤ k
  | 0 => Nat.le_refl _
  | k + 1 => by rw [cntR]; have := cntR_le l k; split <;> omega
theorem cntR_mono (l : List InstT) {j k : Nat} (h : j ≤ k) : cntR l j ≤ cntR l k := by
  induction k with
  | zero => rw [show j = 0 by omega]; exact Nat.le_refl _
  | succ k ih =>
    by_cases e : j = k + 1
    · rw [e]; exact Nat.le_refl _
    · rw [cntR]; have := ih (by omega); omega
/-- The numbers of the ids that the first k make. -/
def rnT (l : List InstT) (k : Nat) (id : Int) : Option Int := (makT l k id).map fun p => ((cntR l p.toNat + 1 : Nat) : Int)
def rnF (l : List InstT) (id : Int) : Int := (rnT l l.length id).getD 0
theorem rnT_skip {l : List InstT} {k : Nat} (h : (nthI l k).2.2.1 = 0) (y : Int) : rnT l (k + 1) y = rnT l k y := by
  unfold rnT
  congr 1
  rw [makT, h]
  by_cases e : (makT l k y).isSome = true
  · rw [if_pos e]
  · rw [if_neg e, if_neg (fun e2 => e2.2 e2.1.symm)]
    cases hm : makT l k y with
    | none => rfl
    | some p => rw [hm] at e; simp at e
theorem rnT_next {l : List InstT} {k : Nat} (h : (nthI l k).2.2.1 ≠ 0) (hf : (makT l k (nthI l k).2.2.1).isSome = false) (y : Int) : (if y = (nthI l k).2.2.1 then some ((cntR l k + 1 : Nat) : Int) else rnT l k y) = rnT l (k + 1) y := by
  unfold rnT
  rw [makT]
  by_cases e : y = (nthI l k).2.2.1
  · subst e
    rw [if_pos rfl, hf, if_neg (by simp), if_pos ⟨rfl, h⟩]
    simp
  · rw [if_neg e]
    by_cases e2 : (makT l k y).isSome = true
    · rw [if_pos e2]
    · rw [if_neg e2, if_neg (fun e3 => e e3.1.symm)]
      cases hm : makT l k y with
      | none => rfl
      | some p => rw [hm] at e2; simp at e2
theorem rnT_none {l : List InstT} {k : Nat} {y : Int} (h : (makT l k y).isSome = false) : rnT l k y = none := by
  unfold rnT
  cases hm : makT l k y with
  | none => rfl
  | some p => rw [hm] at h; simp at h
theorem maker_at {l : List InstT} {y p : Int} : ∀ {k : Nat}, makT l k y = some p → (nthI l p.toNat).2.2.1 = y ∧ y ≠ 0
  | 0, h => by cases h
  | k + 1, h => by
    rw [makT] at h
    split at h
    · exact maker_at h
    · split at h
      · next h2 => cases h; simpa using h2
      · cases h
theorem rnT_range {l : List InstT} {k : Nat} {y v : Int} (h : rnT l k y = some v) : 0 < v ∧ v ≤ (cntR l k : Int) := by
  unfold rnT at h
  cases hm : makT l k y with
  | none => rw [hm] at h; cases h
  | some p =>
    rw [hm] at h
    simp only [Option.map_some, Option.some.injEq] at h
    subst h
    have hr := makT_some l y k p hm
    refine ⟨by omega, ?_⟩
    have hmk : (nthI l p.toNat).2.2.1 = y ∧ y ≠ 0 := maker_at hm
    have h1 : cntR l (p.toNat + 1) = cntR l p.toNat + 1 := by rw [cntR, if_neg (by rw [hmk.1]; exact hmk.2)]
    have h2 := cntR_mono l (show p.toNat + 1 ≤ k by omega)
    omega
theorem rnF_range (l : List InstT) (y : Int) : 0 ≤ rnF l y ∧ rnF l y ≤ (cntR l l.length : Int) := by
  unfold rnF
  cases hm : rnT l l.length y with
  | none => simp
  | some v => have := rnT_range hm; simp; omega
/-- What holds of a module whose ids are sound. -/
theorem ids_sound {b : Int} {l : List InstT} (h : (idsE b l).1 = 0) : (layE b l).1 = 0 ∧ idsE b l = (0, 0) ∧ ∀ k, k < l.length → faultAt l k = 0 := by
  unfold idsE at h
  by_cases h1 : (layE b l).1 = 0
  · rw [if_neg (by simpa using h1)] at h
    have key : ∀ m k, (idsF l m k).1 = 0 → ∀ i, i < m → faultAt l (k + i) = 0 := by
      intro m
      induction m with
      | zero => intro k _ i hi; omega
      | succ m ih =>
        intro k h0 i hi
        rw [idsF] at h0
        by_cases e : faultAt l k = 0
        · rw [if_neg (by simpa using e)] at h0
          by_cases e2 : i = 0
          · rw [e2]; exact e
          · have := ih (k + 1) h0 (i - 1) (by omega)
            rwa [show k + 1 + (i - 1) = k + i by omega] at this
        · rw [if_pos e] at h0; exact absurd h0 e
    have hall : ∀ i, i < l.length → faultAt l i = 0 := fun i hi => by have := key l.length 0 h i hi; rwa [Nat.zero_add] at this
    refine ⟨h1, ?_, hall⟩
    unfold idsE
    rw [if_neg (by simpa using h1)]
    exact idsF_done hall
  · rw [if_pos h1] at h; exact absurd h h1
theorem fresh_at {l : List InstT} {k : Nat} (h : faultAt l k = 0) : (makT l k (nthI l k).2.2.1).isSome = false := by
  cases e : (makT l k (nthI l k).2.2.1).isSome with
  | false => rfl
  | true => rw [fault_first e] at h; cases h
end Go.Proofs.YtlcaedibmlidlaaGreat

/-
  New of graph: the graph of a function's blocks.
-/
namespace Go.Proofs.YtlcaedibmlidlaaGreat
open Go.RowKit
set_option linter.unusedVariables false
set_option linter.unusedSimpArgs false
set_option maxRecDepth 10000

/-- Lists and merges as they are read. -/
theorem LeadR.lv {w : World} {lo : Nat} {hv mv : Value} {N : List (List Int)} {ms : List (Int × Int × Int)} (h : LeadR w lo hv N mv ms) : ∃ a c, hv = .slice a N.length c ∧ LV w a N := by
  obtain ⟨a, c, e, hv⟩ := h.lists.head
  exact ⟨a, c, e, hv.2.1⟩
/-- What New answers. -/
def NewQ (w w' : World) (b : Int) (l : List InstT) (f : FuncT) (e : Ending) : Prop :=
  Below w.heap.size w w' ∧ ∃ gv mv, e = .returned (.tuple #[gv, mv, .agg #[.int .i64 (newE b l f).1, .int .i64 (newE b l f).2]]) ∧
  (((newE b l f).1 ≠ 0 ∧ gv = .pointer none ∧ mv = .slice none 0 0) ∨
   ((newE b l f).1 = 0 ∧ (newE b l f).2 = 0 ∧ ∃ p, gv = .pointer (some ⟨p, 0, none⟩) ∧ GrV w' w.heap.size p ((newN l f).map onceF) ∧ w'.ownsRow w.heap.size 96 3 mv (newM l f).length ((newM l f).flatMap mgC)))
theorem newRet {Q : Ending → World → Prop} {a' : Act} {Z : World} {B : Nat} {hv mv : Value} {e k : Int} (h4 : slot a'.tmps 4 = hv) (h5 : slot a'.tmps 5 = mv) (h6 : slot a'.tmps 6 = .pointer (some ⟨B, 0, none⟩)) (hd : a'.defers = []) (hZ : Z.heap[B]? = some (.cells #[.int .i64 e, .int .i64 k] 33 (0, 0)))
    (hq : Q (.returned (.tuple #[hv, mv, .agg #[.int .i64 e, .int .i64 k]])) Z) : bodyPost Tryz.prog Tryz.f13 Q .ret a' Z := by
  have r6 := run_loadVar_mid (P := Tryz.prog) Z B 0 33 [.int .i64 e, .int .i64 k] _ (range_of_block hZ) Tryz.underlying33 rfl (by kernel_rfl)
  refine bodyPost_ret (v := .tuple #[hv, mv, .agg #[.int .i64 e, .int .i64 k]]) ?_ hd hq
  have g4 : a'.tmps.getD 4 undef = hv := h4
  have g5 : a'.tmps.getD 5 undef = mv := h5
  have g6 : a'.tmps.getD 6 undef = .pointer (some ⟨B, 0, none⟩) := h6
  simp only [results, Tryz.results13, List.mapM_toArray, List.mapM_cons, List.mapM_nil, g4, g5, g6, asAddr, Sem.run_bind, Sem.run_pure, Result.andThen_ok, bind_assoc, pure_bind, Sem.run_map, map_pure, r6]
  rfl

theorem newErr {w w' : World} {b : Int} {l : List InstT} {f : FuncT} {E1 E2 : Int} (h : newE b l f = (E1, E2)) (h0 : E1 ≠ 0) (hb : Below w.heap.size w w') : NewQ w w' b l f (.returned (.tuple #[.pointer none, .slice none 0 0, .agg #[.int .i64 E1, .int .i64 E2]])) := by
  refine ⟨hb, _, _, ?_, .inl ⟨?_, rfl, rfl⟩⟩
  · rw [h]
  · rw [h]; exact h0
theorem spotKeep {W : World} {b k T S : Nat} {x0 x1 y0 y1 : Value} (h : W.heap[k]? = some (.cells #[x0, x1] T (0, 0))) (hne : k ≠ b) (u v : Value) : ((W.setCell ⟨b, 0, none⟩ u).setCell ⟨b, 1, none⟩ v).heap[k]? = some (.cells #[x0, x1] T (0, 0)) := by
  simp [World.setCell, Array.getElem?_modify, h, Ne.symm hne]
theorem inBlock_then {K : Act → World → Prop} {Q : Exit → Act → World → Prop} {a : Act} {w : World} : Exit.then K Q .normal a w = K a w := rfl
/-- What Lead answers of a function of a module whose ids are sound. -/
theorem lead_new (gen bnd : Int) (a xp xq : Option Addr) (n c cp cq : Nat) (l : List InstT) (f : FuncT) (w : World) (hv : InstsV w a l) (hok : InstsOk l) (hl : l.length = n) (hn : 40 * n ≤ 140737488351232) (hq : BlkV w xq f.2.2.2.1) (h0 : (idsE bnd l).1 = 0) (hf : f ∈ cutTo l l.length) :
    Calls Tryz.prog 40 #[modV gen bnd a n c, .agg #[.int .u32 f.1, .int .i64 f.2.1, .slice xp f.2.2.1.length cp, .slice xq f.2.2.2.1.length cq, .int .i64 f.2.2.2.2]] w fun e w' => Below w.heap.size w w' ∧ ∃ hv mv, e = .returned (.tuple #[hv, mv, .agg #[.int .i64 (newE bnd l f).1, .int .i64 (newE bnd l f).2]]) ∧ ((newE bnd l f).1 ≠ 0 ∨ ((newE bnd l f).1 = 0 ∧ (newE bnd l f).2 = 0 ∧ 0 < f.2.2.2.1.length ∧ f.2.2.2.1.length ≤ 4096 ∧ (∀ j x, x ∈ rowN (newN l f) j → 0 < x ∧ x < (f.2.2.2.1.length : Int)) ∧ LeadR w' w.heap.size hv (newN l f) mv (newM l f))) := by
  have hlay := (ids_sound h0).1
  obtain ⟨p1, p2, p3, p4⟩ := lead_prem hlay hok hf
  rw [hl] at p4
  have hE : newE bnd l f = if 4096 < f.2.2.2.1.length then (4, f.2.1) else ldE (numT f.2.2.2.1 f.2.2.2.1.length) l f.2.2.2.1 := by
    unfold newE
    rw [if_neg (by simpa using h0), if_neg (by simpa using hf)]
  refine (lead2_any gen bnd f.1 f.2.1 f.2.2.2.2 a xp xq n c f.2.2.1.length cp f.2.2.2.1.length cq l f.2.2.2.1 w hv hok hl hn hq rfl p2 p4 (by have := merge_args hlay; rwa [hl] at this)).mono ?_
  rintro e w' (⟨h4, rfl, hb⟩ | ⟨h4, hQ⟩)
  · rw [if_pos h4] at hE
    rw [hE]
    exact ⟨hb, _, _, rfl, .inl (fun h => by cases h)⟩
  · rw [if_neg (by omega)] at hE
    obtain ⟨hb, hv, mv, rfl, h⟩ := leadQ_E hQ
    rw [hE]
    refine ⟨hb, hv, mv, rfl, ?_⟩
    rcases h with ⟨q1, q2, hL⟩ | h
    · refine .inr ⟨q1, q2, ?_, h4, lead_edges (ldE_zero q1), hL⟩
      exact List.length_pos_iff.2 p1
    · exact .inl (fun e => by rw [h] at e; cases e)

set_option maxHeartbeats 8000000 in
theorem graphNew_any (gen bnd : Int) (a : Option Addr) (n c : Nat) (l : List InstT) (fv : Value) (f : FuncT) (w : World) (hv : InstsV w a l) (hok : InstsOk l) (hl : l.length = n) (hn : 40 * n ≤ 140737488351232) (g0 : 0 ≤ gen) (g1 : gen < 4294967296) (b0 : 0 ≤ bnd) (b1 : bnd < 4294967296) (hf : FnR w fv f) :
    Calls Tryz.prog 13 #[modV gen bnd a n c, fv] w fun e w' => NewQ w w' bnd l f e := by
  obtain ⟨xp, cp, xq, cq, rfl, hf1, hf2⟩ := hf.form
  have HFF := hide hf
  obtain ⟨sz0, bl0, km0, kf0, ks0⟩ := leadBoxes w #[.int .u32 gen, .int .u32 bnd, .slice a n c] #[.int .u32 f.1, .int .i64 f.2.1, .slice xp f.2.2.1.length cp, .slice xq f.2.2.2.1.length cq, .int .i64 f.2.2.2.2]
  have HV := hide hv
  have HOK := hide hok
  have HL := hide hl
  have HN := hide hn
  have HID := hide (fun (wx : World) (hx : Below w.heap.size w wx) => idsCheck_any gen bnd a n c l wx (hv.below hx) hok hl hn g0 g1 b0 b1)
  have HCU := hide (fun (wx : World) (hx : Below w.heap.size w wx) => layCut_any gen bnd a n c l wx (hv.below hx) hok hl hn g0 g1 b0 b1)
  have hid := HID.out _ bl0
  have HFA : Hid (∀ wx, Below w.heap.size w wx → wx.heap[w.heap.size + 1]? = some (.cells #[.int .u32 f.1, .int .i64 f.2.1, .slice xp f.2.2.1.length cp, .slice xq f.2.2.2.1.length cq, .int .i64 f.2.2.2.2] 29 (0, 0)) → FnAt wx (w.heap.size + 1) f) := fun wx hx h => ⟨xp, cp, xq, cq, h, hf1.below hx, hf2.below hx⟩
  have HF2 := hide hf2
  have m0 := (one_block km0).1 0
  have m1 := (one_block km0).1 1
  have m2 := (one_block km0).1 2
  have HBL := hide bl0
  have HKM := hide km0
  have HKF := hide kf0
  have HKS := hide ks0
  have HSZ := hide sz0
  obtain ⟨E1, hE1v⟩ : ∃ E1, E1 = (idsE bnd l).1 := ⟨_, rfl⟩
  obtain ⟨e2, he2v⟩ : ∃ e2 : Int, e2 = ((idsE bnd l).2 : Int) := ⟨_, rfl⟩
  have HEE : Hid (E1 ≠ 0 → newE bnd l f = (E1, e2)) := fun h => by rw [hE1v] at h; unfold newE; rw [if_pos h, hE1v, he2v]
  have HIS : Hid (E1 = 0 → (layE bnd l).1 = 0 ∧ (idsE bnd l).1 = 0 ∧ e2 = 0) := fun h => by rw [hE1v] at h; exact ⟨(ids_sound h).1, h, by rw [he2v, (ids_sound h).2.1]; rfl⟩
  rw [← hE1v, ← he2v] at hid
  clear hE1v he2v
  unfold modV at *
  clear hv hok hl hn hf hf1 hf2 km0 kf0 ks0 sz0 bl0
  obtain ⟨fi, fa, fp, fb, fe⟩ := f
  simp only at *
  go_enter Tryz.func13, Tryz.ntmps13
  go_wp2_with fail
  generalize World.alloc (World.alloc (World.alloc w _) _) _ = W0 at *
  refine hid.mono ?_
  rintro e w1 ⟨rfl, hb1⟩
  have hbw1 := HBL.out.trans (hb1.mono HBL.out.size)
  have hle : w.heap.size + 3 ≤ w1.heap.size := HSZ.out ▸ hb1.size
  have hkm1 := (hb1.block _ (Array.getElem?_eq_some_iff.1 HKM.out).1).trans HKM.out
  have hkf1 := (hb1.block _ (Array.getElem?_eq_some_iff.1 HKF.out).1).trans HKF.out
  have hks1 := (hb1.block _ (Array.getElem?_eq_some_iff.1 HKS.out).1).trans HKS.out
  have HB1 := hide (hbw1.trans (((Below.refl _ w1).alloc (Nat.le_refl _) (.cells #[.int .i64 E1, .int .i64 e2] 33)).mono hbw1.size))
  have HKM1 := hide (allocOld hkm1 (.cells #[.int .i64 E1, .int .i64 e2] 33))
  have HKF1 := hide (allocOld hkf1 (.cells #[.int .i64 E1, .int .i64 e2] 33))
  have HKS1 := hide (allocOld hks1 (.cells #[.int .i64 E1, .int .i64 e2] 33))
  have hk7 := allocNew w1 (.cells #[.int .i64 E1, .int .i64 e2] 33) rfl
  clear hid hb1 hbw1 hkm1 hkf1 hks1 HKM HKF HKS HBL m0 m1 m2
  have s0 := (one_block hk7).1 0
  have s1 := (one_block hk7).1 1
  by_cases hE1 : E1 = 0
  · obtain ⟨hlay, hid0, hz2⟩ := HIS.out hE1
    subst hE1; subst hz2
    have HIE := hide hid0
    clear hid0
    have HLY := hide hlay
    have hcu := HCU.out _ HB1.out
    unfold CutQ at hcu
    have m0 := (one_block HKM1.out).1 0
    have m1 := (one_block HKM1.out).1 1
    have m2 := (one_block HKM1.out).1 2
    have HSL := hide (Nat.lt_of_lt_of_le (Nat.lt_of_lt_of_le (Nat.lt_add_of_pos_right (n := w.heap.size) (k := 3) (by decide)) hle) (Nat.le_refl _))
    clear HCU HIS hk7 HEE
    go_wp2_with fail
    generalize World.alloc w1 _ = W1 at *
    refine hcu.mono ?_
    rintro e w2 ⟨cv, rfl, hb2, hcut⟩
    have hcut := (hcut.resolve_left (fun h => h.1 HLY.out)).2
    have hlz : layE bnd l = (0, 0) := (layE_ok HLY.out).2.2
    rw [hlz]
    simp only
    have HCR := hide (FuncsAt.readV (hcut.below ((Below.refl _ w2).alloc (Nat.le_refl _) (.cells #[.int .i64 0, .int .i64 0] 33))))
    have hbw2 := HB1.out.trans (hb2.mono HB1.out.size)
    have HB2 := hide (hbw2.trans (((Below.refl _ w2).alloc (Nat.le_refl _) (.cells #[.int .i64 0, .int .i64 0] 33)).mono hbw2.size))
    have HKM2 := hide (allocOld ((hb2.block _ (Array.getElem?_eq_some_iff.1 HKM1.out).1).trans HKM1.out) (.cells #[.int .i64 0, .int .i64 0] 33))
    have HKF2 := hide (allocOld ((hb2.block _ (Array.getElem?_eq_some_iff.1 HKF1.out).1).trans HKF1.out) (.cells #[.int .i64 0, .int .i64 0] 33))
    have HKS2 := hide (allocOld ((hb2.block _ (Array.getElem?_eq_some_iff.1 HKS1.out).1).trans HKS1.out) (.cells #[.int .i64 0, .int .i64 0] 33))
    have hco := containsNew_any cv (cutTo l l.length) (fi, fa, fp, fb, fe) (w.heap.size + 1) _ HCR.out (few_cut HLY.out) (HFA.out _ HB2.out HKF2.out) HFF.out.few
    have HEE : Hid ((fi, fa, fp, fb, fe) ∉ cutTo l l.length → newE bnd l (fi, fa, fp, fb, fe) = (2, 0)) := fun h => by
      unfold newE; rw [if_neg (by rw [HIE.out]; simp), if_pos h]
    clear hcu hcut hlz hb2 hbw2 m0 m1 m2 HKM1 HKF1 HKS1 HB1 s0 s1
    go_wp2_with fail
    generalize World.alloc w2 _ = W2 at *
    refine hco.mono ?_
    rintro e w3 ⟨⟨r, rfl, hr⟩, hb3⟩
    have HB3 := hide (HB2.out.trans (hb3.mono HB2.out.size))
    have HKM3 := hide ((hb3.block _ (Array.getElem?_eq_some_iff.1 HKM2.out).1).trans HKM2.out)
    have HKF3 := hide ((hb3.block _ (Array.getElem?_eq_some_iff.1 HKF2.out).1).trans HKF2.out)
    have HKS3 := hide ((hb3.block _ (Array.getElem?_eq_some_iff.1 HKS2.out).1).trans HKS2.out)
    clear hco hb3 HKM2 HKF2 HKS2 HB2 HCR HFA
    cases r with
    | false =>
      have HNE := hide (HEE.out (fun h => by have := hr.2 h; cases this))
      obtain ⟨z0, z1, _, _⟩ := twoF HKS3.out
      have x0 := (one_block HKS3.out).1 0
      have x1 := (one_block HKS3.out).1 1
      clear hr HKM3 HKF3
      go_wp2_with fail
      exact newRet (B := w.heap.size + 2) (hv := .pointer none) (mv := .slice none 0 0) rfl rfl rfl rfl (spotLd HKS3.out _ _) (newErr HNE.out (by decide) ((HB3.out.setCell (le2 _) _).setCell (le2 _) _))
    | true =>
      have hmem : (fi, fa, fp, fb, fe) ∈ cutTo l l.length := hr.1 rfl
      have hle2 := lead_new gen bnd a xp xq n c cp cq l (fi, fa, fp, fb, fe) w3 (HV.out.below HB3.out) HOK.out HL.out HN.out (HF2.out.below HB3.out) HIE.out hmem
      have m0 := (one_block HKM3.out).1 0
      have m1 := (one_block HKM3.out).1 1
      have m2 := (one_block HKM3.out).1 2
      obtain ⟨n0, n1, n2, n3, n4⟩ := fiveCells HKF3.out
      have HMEM := hide hmem
      unfold modV at hle2
      clear hmem hr HEE
      go_wp2_with fail
      refine hle2.mono ?_
      rintro e w4 ⟨hb4, hv4, mv4, rfl, hq4⟩
      obtain ⟨NE, hNE⟩ : ∃ N, N = newE bnd l (fi, fa, fp, fb, fe) := ⟨_, rfl⟩
      have HNE := hide hNE
      rw [← hNE] at hq4
      rw [← hNE]
      clear hNE hle2 m0 m1 m2 n0 n1 n2 n3 n4
      obtain ⟨N1, N2⟩ := NE
      simp only at *
      have hbw4 := HB3.out.trans (hb4.mono HB3.out.size)
      have HB4 := hide (hbw4.trans (((Below.refl _ w4).alloc (Nat.le_refl _) (.cells #[.int .i64 N1, .int .i64 N2] 33)).mono hbw4.size))
      have HKS4 := hide (allocOld ((hb4.block _ (Array.getElem?_eq_some_iff.1 HKS3.out).1).trans HKS3.out) (.cells #[.int .i64 N1, .int .i64 N2] 33))
      have hk12 := allocNew w4 (.cells #[.int .i64 N1, .int .i64 N2] 33) rfl
      have s0 := (one_block hk12).1 0
      have s1 := (one_block hk12).1 1
      have hz := twoF HKS4.out
      have z0 := hz.1
      have z1 := hz.2.1
      have x0 := (one_block HKS4.out).1 0
      have x1 := (one_block HKS4.out).1 1
      have HKB := hide (Array.getElem?_eq_some_iff.1 HKS3.out).1
      rcases hq4 with hN | ⟨rfl, rfl, hpos, h4, hed, hL⟩
      · have hb0 : (N1 == 0) = false := by simpa using hN
        have hbn : (N1 != 0) = true := by simpa using hN
        have HN1 := hide hN
        have HK9 := hide hk12
        have HK8 : Hid (w4.heap.size ≠ w.heap.size + 1 + 1) := by have := hb4.size; have := HKB.out; show _ ≠ _; omega
        clear hN hb4 hbw4 hk12 hz HKM3 HKF3 HKS3
        go_wp2_with fail
        generalize World.alloc w4 _ = W4 at *
        have hC0 : W4.drew.heap[w4.heap.size]? = some (.cells #[.int .i64 N1, .int .i64 N2] 33 (0, 0)) := HK9.out
        have hmix : Tryz.prog.follows .mixedOrders = true := by kernel_rfl
        have LC : Hid (∀ w' : World, w'.heap[w4.heap.size]? = some (.cells #[.int .i64 N1, .int .i64 N2] 33 (0, 0)) → w'.cell? ⟨w4.heap.size, 0, none⟩ = some (.int .i64 N1) ∧ w'.cell? ⟨w4.heap.size, 1, none⟩ = some (.int .i64 N2)) := fun w' h => ⟨(one_block h).1 0, (one_block h).1 1⟩
        refine (wpIn_wide (n := 0)).1 ?_
        refine wpIn_normal (wpIn_region_any hmix (wpAnyE_sound (C := fun w' => w'.heap[w4.heap.size]? = some (.cells #[.int .i64 N1, .int .i64 N2] 33 (0, 0))) (E := fun _ => false) _ _ _ _ ?_))
        change wpAnyE _ _ _ _ _ _ _ _ _ _ _ (World.drew _)
        refine wpAnyE_takeD (i := 0) (some 39) (v := (.agg #[.int .i64 N1, .int .i64 N2])) (fun _ => trivial) (by kernel_rfl) rfl rfl (by kernel_rfl) (by kernel_rfl) (by kernel_rfl) (by kernel_rfl) (fun _ _ _ h => by cases h.1) hC0 (Or.inl ⟨by rfl, fun w' hC => by obtain ⟨e1, e2⟩ := LC.out w' hC; clear hC; go_simp⟩) ?_
        simp only [Act.put, List.setIfInBounds_toArray, List.set_cons_succ, List.set_cons_zero]
        refine wpAnyE_takeD (i := 1) (some 4) (v := (.pointer none)) (fun _ => trivial) (by kernel_rfl) rfl rfl (by kernel_rfl) (by kernel_rfl) (by kernel_rfl) (by kernel_rfl) (fun _ _ _ h => by cases h.1) hC0 (Or.inl ⟨by rfl, fun w' hC => by obtain ⟨e1, e2⟩ := LC.out w' hC; clear hC; go_simp⟩) ?_
        simp only [Act.put, List.setIfInBounds_toArray, List.set_cons_succ, List.set_cons_zero]
        refine wpAnyE_takeD (i := 2) (some 5) (v := (.slice none 0 0)) (fun _ => trivial) (by kernel_rfl) rfl rfl (by kernel_rfl) (by kernel_rfl) (by kernel_rfl) (by kernel_rfl) (fun _ _ _ h => by cases h.1) hC0 (Or.inl ⟨by rfl, fun w' hC => by obtain ⟨e1, e2⟩ := LC.out w' hC; clear hC; go_simp⟩) ?_
        simp only [Act.put, List.setIfInBounds_toArray, List.set_cons_succ, List.set_cons_zero]
        refine wpAnyE_ready (rs := [3]) (by kernel_rfl) (by simp) ?_
        refine AllE.cons rfl (fun Kk hK => ?_) AllE.nil
        clear LC
        go_simp
        refine hK _ _ (.inr (spotKeep (S := 0) (y0 := undef) (y1 := undef) HK9.out HK8.out _ _)) ?_
        clear hK Kk
        refine wpAnyE_done (by kernel_rfl) ⟨rfl, ?_⟩ _
        rw [inBlock_then]
        go_wp2_with fail
        refine newRet (B := w.heap.size + 2) (hv := .pointer none) (mv := .slice none 0 0) rfl rfl rfl rfl (spotLd HKS4.out _ _) (newErr HNE.out.symm HN1.out ?_)
        first | exact ((HB4.out.setCell (le2 _) _).setCell (le2 _) _).drew | exact ((HB4.out.drew.setCell (le2 _) _).setCell (le2 _) _) | exact ((HB4.out.setCell (le2 _) _).setCell (le2 _) _)
      · have hL2 := hL.below ((Below.refl _ w4).alloc (Nat.le_refl _) (.cells #[.int .i64 0, .int .i64 0] 33))
        have hlen : (newN l (fi, fa, fp, fb, fe)).length = fb.length := List.length_map _
        obtain ⟨a9, c9, rfl, hlv⟩ := hL2.lv
        have hma := made_any a9 _ c9 (newN l (fi, fa, fp, fb, fe)) _ hlv rfl (by rw [hlen]; exact hpos) (by rw [hlen]; exact h4) (fun j x hx => by have := hed j x hx; rw [hlen]; exact ⟨Int.le_of_lt this.1, this.2⟩) (lead_few HOK.out _)
        have HMM := hide hL2.merges
        generalize hNN : newN l (fi, fa, fp, fb, fe) = NN at *
        generalize hMM : newM l (fi, fa, fp, fb, fe) = MM at *
        have HNN := hide hNN
        have HMN := hide hMM
        clear hNN hMM
        have hle4 := hide hb4.size
        clear hL hL2 hlv hlen hed hpos h4 hb4 hbw4 hk12 hz HKM3 HKF3 HKS3
        go_wp2_with fail
        generalize World.alloc w4 _ = W4 at *
        refine hma.mono ?_
        rintro e w5 ⟨p, rfl, hG, hb5⟩
        have hks5 := (hb5.block _ (Array.getElem?_eq_some_iff.1 HKS4.out).1).trans HKS4.out
        have HKS5 := hide hks5
        have HB5 := hide (HB4.out.trans (hb5.mono HB4.out.size))
        have HG := hide hG
        have HM5 := hide (own_below HMM.out hb5)
        have hz5 := twoF hks5
        have v0 := hz5.1
        have v1 := hz5.2.1
        have y0 := (one_block hks5).1 0
        have y1 := (one_block hks5).1 1
        have HSS := hide (Nat.le_trans HB3.out.size hle4.out)
        clear hma hG hb5 hks5 hz5 s0 s1 z0 z1 x0 x1
        go_wp2_with fail
        refine newRet (B := w.heap.size + 2) (hv := .pointer (some ⟨p, 0, none⟩)) (mv := mv4) rfl rfl rfl rfl (spotLd HKS5.out _ _) ⟨((HB5.out.setCell (le2 _) _).setCell (le2 _) _), _, _, by rw [← HNE.out], .inr ⟨by rw [← HNE.out], by rw [← HNE.out], p, rfl, ?_, ?_⟩⟩
        · rw [HNN.out]
          have hlt := (Array.getElem?_eq_some_iff.1 HKS4.out).1
          exact ((HG.out.kept (grown_setCell w5 (w.heap.size + 2) 0 _) (fun g e => by cases e; exact hlt)).kept (grown_setCell _ (w.heap.size + 2) 1 _) (fun g e => by cases e; exact hlt)).mono HB4.out.size
        · rw [HMN.out]
          exact own_mono (own_kept (own_kept HM5.out (grown_setCell w5 (w.heap.size + 2) 0 _) (fun g e => by cases e; exact HKB.out)) (grown_setCell _ (w.heap.size + 2) 1 _) (fun g e => by cases e; exact HKB.out)) HB3.out.size
  · have hb0 : (E1 == 0) = false := by simpa using hE1
    have hbn : (E1 != 0) = true := by simpa using hE1
    have HE1 := hide hE1
    obtain ⟨z0, z1, _, _⟩ := twoF HKS1.out
    have x0 := (one_block HKS1.out).1 0
    have x1 := (one_block HKS1.out).1 1
    have HK9 := hide hk7
    have HK8 : Hid (w1.heap.size ≠ w.heap.size + 1 + 1) := by show _ ≠ _; omega
    clear hE1 hk7 HCU HID HFA HF2 HFF HKM1 HKF1 HIS
    go_wp2_with fail
    generalize World.alloc w1 _ = W1 at *
    have hC0 : W1.drew.heap[w1.heap.size]? = some (.cells #[.int .i64 E1, .int .i64 e2] 33 (0, 0)) := HK9.out
    have hmix : Tryz.prog.follows .mixedOrders = true := by kernel_rfl
    have LC : Hid (∀ w' : World, w'.heap[w1.heap.size]? = some (.cells #[.int .i64 E1, .int .i64 e2] 33 (0, 0)) → w'.cell? ⟨w1.heap.size, 0, none⟩ = some (.int .i64 E1) ∧ w'.cell? ⟨w1.heap.size, 1, none⟩ = some (.int .i64 e2)) := fun w' h => ⟨(one_block h).1 0, (one_block h).1 1⟩
    refine (wpIn_wide (n := 0)).1 ?_
    refine wpIn_normal (wpIn_region_any hmix (wpAnyE_sound (C := fun w' => w'.heap[w1.heap.size]? = some (.cells #[.int .i64 E1, .int .i64 e2] 33 (0, 0))) (E := fun _ => false) _ _ _ _ ?_))
    change wpAnyE _ _ _ _ _ _ _ _ _ _ _ (World.drew _)
    refine wpAnyE_takeD (i := 0) (some 18) (v := (.agg #[.int .i64 E1, .int .i64 e2])) (fun _ => trivial) (by kernel_rfl) rfl rfl (by kernel_rfl) (by kernel_rfl) (by kernel_rfl) (by kernel_rfl) (fun _ _ _ h => by cases h.1) hC0 (Or.inl ⟨by rfl, fun w' hC => by obtain ⟨e1, e2⟩ := LC.out w' hC; clear hC; go_simp⟩) ?_
    simp only [Act.put, List.setIfInBounds_toArray, List.set_cons_succ, List.set_cons_zero]
    refine wpAnyE_takeD (i := 1) (some 4) (v := (.pointer none)) (fun _ => trivial) (by kernel_rfl) rfl rfl (by kernel_rfl) (by kernel_rfl) (by kernel_rfl) (by kernel_rfl) (fun _ _ _ h => by cases h.1) hC0 (Or.inl ⟨by rfl, fun w' hC => by obtain ⟨e1, e2⟩ := LC.out w' hC; clear hC; go_simp⟩) ?_
    simp only [Act.put, List.setIfInBounds_toArray, List.set_cons_succ, List.set_cons_zero]
    refine wpAnyE_takeD (i := 2) (some 5) (v := (.slice none 0 0)) (fun _ => trivial) (by kernel_rfl) rfl rfl (by kernel_rfl) (by kernel_rfl) (by kernel_rfl) (by kernel_rfl) (fun _ _ _ h => by cases h.1) hC0 (Or.inl ⟨by rfl, fun w' hC => by obtain ⟨e1, e2⟩ := LC.out w' hC; clear hC; go_simp⟩) ?_
    simp only [Act.put, List.setIfInBounds_toArray, List.set_cons_succ, List.set_cons_zero]
    refine wpAnyE_ready (rs := [3]) (by kernel_rfl) (by simp) ?_
    refine AllE.cons rfl (fun Kk hK => ?_) AllE.nil
    clear LC
    go_simp
    refine hK _ _ (.inr (spotKeep (S := 0) (y0 := undef) (y1 := undef) HK9.out HK8.out _ _)) ?_
    clear hK Kk
    refine wpAnyE_done (by kernel_rfl) ⟨rfl, ?_⟩ _
    rw [inBlock_then]
    go_wp2_with fail
    refine newRet (B := w.heap.size + 2) (hv := .pointer none) (mv := .slice none 0 0) rfl rfl rfl rfl (spotLd HKS1.out _ _) (newErr (HEE.out HE1.out) HE1.out ?_)
    first | exact ((HB1.out.setCell (le2 _) _).setCell (le2 _) _).drew | exact ((HB1.out.drew.setCell (le2 _) _).setCell (le2 _) _) | exact ((HB1.out.setCell (le2 _) _).setCell (le2 _) _)

end Go.Proofs.YtlcaedibmlidlaaGreat

/-
  among of the laws of layer 14.
-/
namespace Go.Proofs.YtlcaedibmlidlaaGreat
open Go.RowKit
set_option linter.unusedVariables false
set_option linter.unusedSimpArgs false
set_option maxRecDepth 10000

end Go.Proofs.YtlcaedibmlidlaaGreat

/-
  A function's nodes are its blocks, their edges its targets: in plain mathematics.
-/
namespace Go.Proofs.YtlcaedibmlidlaaGreat
open Go.RowKit
set_option linter.unusedVariables false
set_option linter.unusedSimpArgs false
set_option maxRecDepth 10000

theorem mem_onLast {fs : List FuncT} {g : FuncT → FuncT} {f : FuncT} (h : f ∈ onLast fs g) : f ∈ fs ∨ ∃ f0 ∈ fs, f = g f0 := by
  unfold onLast at h
  split at h
  · cases h
  · next f1 e =>
    have h1 : f1 ∈ fs := List.mem_of_getLast? e
    rcases List.mem_append.1 h with h | h
    · exact .inl (List.dropLast_subset _ h)
    · exact .inr ⟨f1, h1, by simpa using h⟩
theorem mem_endLast {bs : List (Int × Int × Int)} {k : Int} {b : Int × Int × Int} (h : b ∈ endLast bs k) : ∃ b0 ∈ bs, b.1 = b0.1 ∧ b.2.1 = b0.2.1 := by
  unfold endLast at h
  split at h
  · cases h
  · next b1 e =>
    have h1 : b1 ∈ bs := List.mem_of_getLast? e
    rcases List.mem_append.1 h with h | h
    · exact ⟨b, List.dropLast_subset _ h, rfl, rfl⟩
    · refine ⟨b1, h1, ?_⟩
      have h2 : b = (b1.1, b1.2.1, k) := by simpa using h
      rw [h2]; exact ⟨rfl, rfl⟩
/-- A block begins at a label. -/
theorem blk_begin (l : List InstT) : ∀ (k : Nat) (f : FuncT), f ∈ cutTo l k → ∀ b ∈ f.2.2.2.1, ∃ q : Nat, q < k ∧ b.2.1 = (q : Int) ∧ (nthI l q).1 = 248 ∧ (nthI l q).2.2.1 = b.1
  | 0, f, h, b, hb => by cases h
  | k + 1, f, h, b, hb => by
    have old : ∀ f0 ∈ cutTo l k, ∀ b0 ∈ f0.2.2.2.1, ∃ q : Nat, q < k + 1 ∧ b0.2.1 = (q : Int) ∧ (nthI l q).1 = 248 ∧ (nthI l q).2.2.1 = b0.1 := fun f0 h0 b0 hb0 => by
      obtain ⟨q, h1, h2⟩ := blk_begin l k f0 h0 b0 hb0
      exact ⟨q, by omega, h2⟩
    rw [cutTo] at h
    unfold stepC at h
    split at h
    · rcases List.mem_append.1 h with h | h
      · exact old f h b hb
      · simp at h; subst h; cases hb
    · split at h
      · rcases mem_onLast h with h | ⟨f0, h0, rfl⟩
        · exact old f h b hb
        · exact old f0 h0 b hb
      · split at h
        · rcases mem_onLast h with h | ⟨f0, h0, rfl⟩
          · exact old f h b hb
          · exact old f0 h0 b hb
        · split at h
          · next h248 =>
            rcases mem_onLast h with h | ⟨f0, h0, rfl⟩
            · exact old f h b hb
            · unfold withBlock at hb
              rcases List.mem_append.1 hb with hb | hb
              · exact old f0 h0 b hb
              · simp at hb; subst hb
                exact ⟨k, by omega, rfl, h248, rfl⟩
          · split at h
            · rcases mem_onLast h with h | ⟨f0, h0, rfl⟩
              · exact old f h b hb
              · unfold withTo at hb
                obtain ⟨b0, hb0, e1, e2⟩ := mem_endLast hb
                obtain ⟨q, h1, h2, h3, h4⟩ := old f0 h0 b0 hb0
                exact ⟨q, h1, by rw [e2]; exact h2, h3, by rw [e1]; exact h4⟩
            · exact old f h b hb
theorem res248 : (lookF refT 248).1.2.2.1 = true := by kernel_rfl
theorem rawE_res {x : InstT} {b : Int} (h : rawE x b = 0) (h248 : x.1 = 248) : x.2.2.1 ≠ 0 := by
  intro e
  unfold rawE at h
  split at h
  · unfold faultI at h
    split at h
    · next h1 => exact absurd h h1
    · split at h
      · next h1 => exact absurd h h1
      · next h1 =>
        rw [h248, res248, e] at h1
        simp [idE] at h1
  · cases h
end Go.Proofs.YtlcaedibmlidlaaGreat
