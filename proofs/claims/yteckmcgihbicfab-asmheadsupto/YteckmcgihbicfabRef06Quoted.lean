/-
  Quoted of the document's answer. Nothing that was there turns.
-/
import Derived.WalkSpells
import Derived.WalkMore
import Derived.Laws.BytesArg
import Derived.Test.YteckmcgihbicfabProg
import Derived.Test.YteckmcgihbicfabRef06Part
import Derived.Test.YteckmcgihbicfabRef06Quote
namespace Go.Proofs.Yteckmcgihbicfab
open Go.RowKit
set_option maxRecDepth 10000
set_option linter.unusedVariables false
set_option linter.unusedSimpArgs false

theorem rowB_convert {B : Nat} {v : Value} {zs : List Int} {wx : World} (hr : RowB B v zs wx) : (convert 131 9 v).run Try.prog wx = .ok (.string (strOfNums zs)) wx := by
  unfold RowB at hr
  rcases hr.2 with ⟨hv, h0⟩ | ⟨g, cap, cur, hv, _⟩
  · have : zs = [] := List.length_eq_zero_iff.1 h0
    subst this
    subst hv
    exact run_convert_bytes_nil wx _ _ Try.underlying131 Try.underlying5 _ _ _ Try.underlying9
  · subst hv
    refine run_convert_bytes_arg wx _ _ Try.underlying131 Try.underlying5 g 0 _ cap zs rfl (fun i hi => ?_) _ Try.underlying9
    obtain ⟨b', off', e, _, hcell⟩ := View.ofRow hr rfl i hi
    simp at e
    obtain ⟨rfl, rfl⟩ := e
    exact hcell
/-- What Quoted answers. -/
def quotR6 (l : List Int) (p : Nat) : List Int := match quotP l (p + 1) with
  | some x => x.1
  | none => []
def quotN6 (l : List Int) (p : Nat) : Nat := match quotP l (p + 1) with
  | some x => x.2 - p
  | none => 0
theorem quotP_over {l : List Int} {p : Nat} (h : l.length ≤ p) : quotP l p = none :=
  quotP_none (by rw [nth_over l p h]; decide) (partP_over h)

set_option maxHeartbeats 2000000 in
theorem refQuoted_any (s : ByteArray) (p : Nat) (w : World) (hs : s.size ≤ 16777216) (hp : p < s.size) :
    Calls Try.prog 61 #[.string s, .int .i64 p] w fun e w' => e = .returned (.tuple #[.string (strOfNums (quotR6 (strI s) p)), .int .i64 (quotN6 (strI s) p)]) ∧ Below w.heap.size w w' := by
  obtain ⟨i0, hi, hz0, hz1, hz2⟩ := info_parts Bld.info
  have HLEN := hid1 (strI_len s)
  have HOV : Hid (∀ k, s.size ≤ k → quotP (strI s) k = none) := fun k hk => quotP_over (by rw [strI_len]; exact hk)
  have HCL : Hid (∀ k, nth (strI s) k = 34 → quotP (strI s) k = some ([], k + 1)) := fun k h => quotP_close h
  have HNO : Hid (∀ k, nth (strI s) k ≠ 34 → (partV (strI s) k).2 = 0 → quotP (strI s) k = none) := fun k h h1 => by
    refine quotP_none h ?_
    unfold partV at h1
    cases e : partP (strI s) k with
    | none => rfl
    | some x =>
      obtain ⟨b, n⟩ := x
      have := (partP_some e).1
      rw [e] at h1; simp at h1; omega
  have HSO : Hid (∀ k, nth (strI s) k ≠ 34 → (partV (strI s) k).2 ≠ 0 → quotP (strI s) k = (quotP (strI s) (k + (partV (strI s) k).2)).map (fun r => ((partV (strI s) k).1 :: r.1, r.2)) ∧ 1 ≤ (partV (strI s) k).2 ∧ k + (partV (strI s) k).2 ≤ s.size) := fun k h h1 => by
    cases e : partP (strI s) k with
    | none => unfold partV at h1; rw [e] at h1; exact absurd rfl h1
    | some x =>
      obtain ⟨b, n⟩ := x
      have h2 := partP_some e
      have h3 : partV (strI s) k = (b, n) := by unfold partV; rw [e]
      rw [h3, ← strI_len]
      exact ⟨quotP_some h e, h2.1, h2.2⟩
  have HOUTN : Hid (quotP (strI s) (p + 1) = none → strOfNums (quotR6 (strI s) p) = ⟨#[]⟩ ∧ quotN6 (strI s) p = 0) := fun h => by
    unfold quotR6 quotN6; rw [h]; exact ⟨rfl, rfl⟩
  have HOUTS : Hid (∀ acc k, quotP (strI s) (p + 1) = some (acc, k) → quotR6 (strI s) p = acc ∧ quotN6 (strI s) p = k - p) := fun acc k h => by
    unfold quotR6 quotN6; rw [h]; exact ⟨rfl, rfl⟩
  have hpi : (p : Int) < (s.size : Int) := by omega
  go_enter Try.func61, Try.ntmps61
  go_wp2_with fail
  go_loopw [6, 7] (fun v i wr => ∃ (k : Nat) (acc : List Int), p + 1 ≤ k ∧ k ≤ s.size ∧ i = .int .i64 k ∧ acc.length ≤ k ∧ Hid (quotP (strI s) (p + 1) = (quotP (strI s) k).map (fun r => (acc ++ r.1, r.2))) ∧ RowB w.heap.size v acc wr ∧ Below w.heap.size w wr) (fun _ i _ => s.size - (intOf i).toNat)
  case atStart => exact ⟨p + 1, [], Nat.le_refl _, by omega, by go_num, by simp, by show _ = _; cases quotP (strI s) (p + 1) <;> rfl, World.ownsRow_nil _ _ _ _, Below.refl _ _⟩
  case round =>
    obtain ⟨k, acc, hpk, hk, rfl, hal, HI, hrow, hbel⟩ := hrel
    have hsz := hbel.size
    by_cases hlt : k < s.size
    · have hki : (k : Int) < (s.size : Int) := by omega
      have hpki : (p : Int) + 1 ≤ (k : Int) := by omega
      have nk := nth_strI s k hlt
      by_cases h34 : (s[k].toNat : Int) = 34
      · have HO : Hid (quotR6 (strI s) p = acc ∧ quotN6 (strI s) p = k + 1 - p) := HOUTS.out acc (k + 1) (by rw [HI.out, HCL.out k (nk.trans h34)]; simp)
        have hcv := rowB_convert hrow
        have h34' : ((s[k].toNat : Int) == 34) = true := by simpa using h34
        have HB := hid1 hbel
        clear nk h34 HI HCL HNO HSO HOV HOUTN HOUTS hrow hbel
        go_wp2_with fail
        go_ret2
        exact ⟨by rw [HO.out.1, HO.out.2]; exact congrArg (fun z => Ending.returned (.tuple #[.string (strOfNums acc), .int .i64 z])) (by omega), HB.out⟩
      · have h34' : ((s[k].toNat : Int) == 34) = false := by simpa using h34
        have hP := fun wx => refPart_any s k wx (by omega) hlt (by rw [nk]; exact h34)
        by_cases hz : (partV (strI s) k).2 = 0
        · have HO : Hid (strOfNums (quotR6 (strI s) p) = ⟨#[]⟩ ∧ quotN6 (strI s) p = 0) := HOUTN.out (by rw [HI.out, HNO.out k (by rw [nk]; exact h34) hz]; rfl)
          rw [hz] at hP
          generalize (partV (strI s) k).1 = pc at *
          have HB := hid1 hbel
          clear nk h34 HI HCL HNO HSO HOV HOUTN HOUTS hrow hbel hz
          go_wp2_with fail
          refine (hP _).mono ?_
          rintro e w2 ⟨rfl, qd, rfl⟩
          go_wp2_with fail
          go_ret2
          exact ⟨by rw [HO.out.1, HO.out.2]; rfl, bel_drewN HB.out _⟩
        · obtain ⟨q1, q2, q3⟩ := HSO.out k (by rw [nk]; exact h34) hz
          have HN : Hid (quotP (strI s) (p + 1) = (quotP (strI s) (k + (partV (strI s) k).2)).map (fun r => ((acc ++ [(partV (strI s) k).1]) ++ r.1, r.2))) := by
            show _ = _
            rw [HI.out, q1]
            cases quotP (strI s) (k + (partV (strI s) k).2) <;> simp
          clear nk h34 HI HCL HNO HSO HOV HOUTN HOUTS q1
          generalize (partV (strI s) k).1 = pc at *
          generalize (partV (strI s) k).2 = pn at *
          have hzi : (pn : Int) ≠ 0 := by omega
          have hzb : ((pn : Int) == 0) = false := by simpa using hz
          go_wp2_with fail
          refine (hP _).mono ?_
          rintro e w2 ⟨rfl, qd, rfl⟩
          have hbd := bel_drewN (Below.refl wr.heap.size wr) qd
          have hrow2 : RowB w.heap.size u6 acc (wr.drewN qd) := hrow
          have hbel2 : Below w.heap.size w (wr.drewN qd) := bel_drewN hbel qd
          clear hrow hbel hbd hP
          have hsz2 := hbel2.size
          generalize wr.drewN qd = W at *
          have hra := World.ownsRow.alloc hrow2 (.cells #[.int .u8 pc] 5)
          have ew := hbel2.alloc hsz2 (.cells #[.int .u8 pc] 5)
          have hnone : ∀ kk, u6.ownBlock = some kk → w.heap.size ≤ kk := fun kk e => (World.ownsRow.lt hrow2 kk e).1
          clear hrow2
          go_wp2_with (at_builtin; refine wpList_append_own _ rfl _ _ 131 rfl w.heap.size 5 i0 (.int .u8 0) 1 1 Try.underlying131 hi hz0 hz1 hz2 rfl (by decide) _ acc.length (acc.map (Value.int .u8)) rfl hra ⟨W.heap.size, 0, none⟩ 1 1 ([pc].map (Value.int .u8)) rfl rfl (one_cells [pc]) (oneC_all _) (by unfold maxLen; omega) (by omega) (by simp; omega) ?_)
          intro v2 w2 hown2 hgr2 _
          have hr2 : RowB w.heap.size v2 (acc ++ [pc]) w2 := rowB_push hown2
          have hb2 : Below w.heap.size w w2 := ew.grown hgr2 (by simp; omega) (fun kk e => hnone kk e)
          clear hown2 hgr2 hra ew
          go_wp2_with fail
          go_roundw
          case rel => exact ⟨k + pn, acc ++ [pc], by omega, by omega, by go_num, by simp; omega, HN, hr2, hb2⟩
          case measure => simp [intOf]; omega
    · obtain rfl : k = s.size := by omega
      have HO : Hid (strOfNums (quotR6 (strI s) p) = ⟨#[]⟩ ∧ quotN6 (strI s) p = 0) := HOUTN.out (by rw [HI.out, HOV.out s.size (Nat.le_refl _)]; rfl)
      have HB := hid1 hbel
      clear HI HCL HNO HSO HOV HOUTN HOUTS hrow hbel
      go_wp2_with fail
      go_ret2
      exact ⟨by rw [HO.out.1, HO.out.2]; rfl, HB.out⟩

end Go.Proofs.Yteckmcgihbicfab
