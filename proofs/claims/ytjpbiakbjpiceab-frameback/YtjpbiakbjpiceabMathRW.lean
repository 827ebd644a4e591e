/-
  What is written is read as it was, and what is read is written as it was: on lists.
-/
import Derived.Test.YtjpbiakbjpiceabMathRL
import Derived.Test.YtjpbiakbjpiceabFrameMeasure
namespace Go.Proofs.Ytjpbiakbjpiceab
open Go.RowKit

theorem nth_app_lo (xs ys : List Int) (k : Nat) (h : k < xs.length) : nth (xs ++ ys) k = nth xs k := getD_left xs ys k h
theorem nth_app_hi (xs ys : List Int) (k : Nat) : nth (xs ++ ys) (xs.length + k) = nth ys k := by
  rw [getD_right _ _ _ (by omega)]; congr 1; omega

/-- The words from the k-th instruction on. -/
theorem writeTo_split (gen bound : Int) (rs : List (Int × List Int)) (k : Nat) : writeTo gen bound rs rs.length = writeTo gen bound rs k ++ (rs.drop k).flatMap rawW := by
  unfold writeTo
  rw [List.take_length, List.append_assoc, ← List.flatMap_append, List.take_append_drop]

theorem drop_cons (rs : List (Int × List Int)) (k : Nat) (h : k < rs.length) : rs.drop k = nthR rs k :: rs.drop (k + 1) := by
  rw [List.drop_eq_getElem_cons h]; simp [nthR, List.getD, h]

theorem rest_write (gen bound : Int) (rs : List (Int × List Int)) (hok : RawsOk rs) (hsm : ∀ j, j < rs.length → (nthR rs j).2.length < 65535) :
    ∀ d k, rs.length - k = d → k ≤ rs.length → (rest (writeTo gen bound rs rs.length) (sizeTo rs k)).map (rawAt (writeTo gen bound rs rs.length)) = rs.drop k ∧ stop (writeTo gen bound rs rs.length) (sizeTo rs k) = (writeTo gen bound rs rs.length).length := by
  intro d
  induction d with
  | zero =>
    intro k hd hk
    obtain rfl : k = rs.length := by omega
    have hl := writeTo_len gen bound rs rs.length (Nat.le_refl _)
    rw [rest_end _ _ (by omega), stop_end _ _ (by omega), List.drop_length]
    exact ⟨rfl, hl.symm⟩
  | succ d ih =>
    intro k hd hk
    have hkl : k < rs.length := by omega
    obtain ⟨o1, o2, o3, _⟩ := hok k hkl
    have hs := hsm k hkl
    have hlk := writeTo_len gen bound rs k hk
    have hln := writeTo_len gen bound rs rs.length (Nat.le_refl _)
    have hsp := writeTo_split gen bound rs k
    rw [drop_cons rs k hkl, List.flatMap_cons] at hsp
    generalize hw : writeTo gen bound rs rs.length = ws at *
    have hzl : ws.length = sizeTo rs k + (1 + (nthR rs k).2.length + ((rs.drop (k + 1)).flatMap rawW).length) := by
      rw [hsp, List.length_append, List.length_append, hlk]; simp [rawW]; omega
    have hx : nth ws (sizeTo rs k) = ((nthR rs k).2.length + 1 : Int) * 65536 + (nthR rs k).1 := by
      have h0 := nth_app_hi (writeTo gen bound rs k) (rawW (nthR rs k) ++ (rs.drop (k + 1)).flatMap rawW) 0
      rw [← hsp, hlk] at h0
      exact h0
    have hc : cntN ws (sizeTo rs k) = (nthR rs k).2.length + 1 := by unfold cntN; rw [hx]; omega
    have ho : opI ws (sizeTo rs k) = (nthR rs k).1 := by unfold opI; rw [hx]; omega
    have hb : badB ws (sizeTo rs k) = false := badB_false (fun h => by
      unfold badAt at h
      rw [hc] at h
      omega)
    have hm : midL ws (sizeTo rs k + 1) (cntN ws (sizeTo rs k) - 1) = (nthR rs k).2 := by
      rw [hc, hsp, midL, ← hlk]
      have : (writeTo gen bound rs k ++ (rawW (nthR rs k) ++ (rs.drop (k + 1)).flatMap rawW)) = (writeTo gen bound rs k ++ [((nthR rs k).2.length + 1 : Int) * 65536 + (nthR rs k).1]) ++ ((nthR rs k).2 ++ (rs.drop (k + 1)).flatMap rawW) := by simp [rawW]
      rw [this, List.drop_left' (by simp), Nat.add_sub_cancel, List.take_left' rfl]
    have hnx : sizeTo rs k + cntN ws (sizeTo rs k) = sizeTo rs (k + 1) := by rw [hc, sizeTo_succ rs k hkl]; omega
    obtain ⟨i1, i2⟩ := ih (k + 1) (by omega) (by omega)
    rw [rest_go ws _ (by omega) hb, stop_go ws _ (by omega) hb, hnx, List.map_cons, i1, i2, drop_cons rs k hkl]
    refine ⟨?_, rfl⟩
    congr 1
    unfold rawAt
    rw [ho, hm]

theorem headE_write (gen bound : Int) (ys : List Int) (hb1 : ¬ bound = 0) (hb2 : ¬ 65536 < bound) : headE ([119734787, 65536, gen, bound, 0] ++ ys) 0 = (0, 0) := by
  have hl : 5 ≤ ([119734787, 65536, gen, bound, 0] ++ ys).length := by simp
  rw [headE_step _ 0 (by omega), if_neg (by omega), if_neg (by simp [nth, wrongE]), headE_step _ 1 (by omega), if_neg (by omega), if_neg (by simp [nth, wrongE]), headE_step _ 2 (by omega), if_neg (by omega), if_neg (by simp [wrongE]),
    headE_step _ 3 (by omega), if_neg (by omega), if_neg (by simp [nth, wrongE, hb1, hb2]), headE_step _ 4 (by omega), if_neg (by omega), if_neg (by simp [nth, wrongE])]
  exact headE_end _

theorem writeTo_within (gen bound : Int) (hg0 : 0 ≤ gen) (hg1 : gen < 4294967296) (hb0 : 0 ≤ bound) (hb1 : bound < 4294967296) (rs : List (Int × List Int)) (hok : RawsOk rs) (hsm : ∀ j, j < rs.length → (nthR rs j).2.length < 65535) : Within 4294967296 (writeTo gen bound rs rs.length) := by
  intro z hz
  unfold writeTo at hz
  rw [List.take_length, List.mem_append] at hz
  rcases hz with hz | hz
  · simp at hz; omega
  · obtain ⟨r, hr, hz⟩ := List.mem_flatMap.1 hz
    obtain ⟨j, hj, rfl⟩ := List.mem_iff_getElem.1 hr
    have e : nthR rs j = rs[j] := by simp [nthR, List.getD, hj]
    obtain ⟨o1, o2, o3, _⟩ := hok j hj
    have h1 := hsm j hj
    rw [e] at o1 o2 o3 h1
    simp only [rawW, List.mem_cons] at hz
    rcases hz with rfl | hz
    · constructor <;> omega
    · exact o3 z hz

/-- Read of what Write answers. -/
theorem read_write (gen bound : Int) (rs : List (Int × List Int)) (hok : RawsOk rs) (hz : fault rs 0 = (0, 0)) (hb1 : ¬ bound = 0) (hb2 : ¬ 65536 < bound) :
    readE (writeTo gen bound rs rs.length) = (0, 0) ∧ readL (writeTo gen bound rs rs.length) = rs ∧ readAt (writeTo gen bound rs rs.length) 2 = gen ∧ readAt (writeTo gen bound rs rs.length) 3 = bound := by
  have hn := fault_none rs (by rw [hz])
  have hlen := writeTo_len gen bound rs rs.length (Nat.le_refl _)
  obtain ⟨h1, h2⟩ := rest_write gen bound rs hok (fun j hj => (hn rs.length (Nat.le_refl _)).2 j hj) rs.length 0 rfl (by omega)
  rw [sizeTo_zero] at h1 h2
  rw [List.drop_zero] at h1
  have hh : headE (writeTo gen bound rs rs.length) 0 = (0, 0) := headE_write gen bound _ hb1 hb2
  have he : readE (writeTo gen bound rs rs.length) = (0, 0) := by
    unfold readE
    rw [if_neg (by have := (hn rs.length (Nat.le_refl _)).1; omega), hh, if_neg (by simp), if_neg (by omega)]
  refine ⟨he, ?_, ?_, ?_⟩
  · unfold readL; rw [he, if_pos rfl]; exact h1
  · unfold readAt; rw [he, if_pos rfl]; rfl
  · unfold readAt; rw [he, if_pos rfl]; rfl

end Go.Proofs.Ytjpbiakbjpiceab
