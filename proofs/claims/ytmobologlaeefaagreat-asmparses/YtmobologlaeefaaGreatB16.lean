/-
  Texts laid together in one: Ref06Quoted, Ref06Token, Ref06Tokens, Ref07Head.
-/
import Derived.WalkSpells
import Derived.WalkMore
import Derived.Laws.BytesArg
import Derived.Test.YtmobologlaeefaaGreatProg
import Derived.Test.YtmobologlaeefaaGreatB15
import Derived.Deep.QuietTactic
import Derived.BigQuiet
import Derived.Test.YtmobologlaeefaaGreatB01
import Derived.Test.YtmobologlaeefaaGreatB12
import Derived.BigRegion
import Derived.Test.YtmobologlaeefaaGreatB10
/-
  Quoted of the document's answer. Nothing that was there turns.
-/
namespace Go.Proofs.YtmobologlaeefaaGreat
open Go.RowKit
set_option maxRecDepth 10000
set_option linter.unusedVariables false
set_option linter.unusedSimpArgs false

theorem rowB_convert {B : Nat} {v : Value} {zs : List Int} {wx : World} (hr : RowB B v zs wx) : (convert 43 9 v).run Tryz.prog wx = .ok (.string (strOfNums zs)) wx := by
  unfold RowB at hr
  rcases hr.2 with ⟨hv, h0⟩ | ⟨g, cap, cur, hv, _⟩
  · have : zs = [] := List.length_eq_zero_iff.1 h0
    subst this
    subst hv
    exact run_convert_bytes_nil wx _ _ Tryz.underlying43 Tryz.underlying5 _ _ _ Tryz.underlying9
  · subst hv
    refine run_convert_bytes_arg wx _ _ Tryz.underlying43 Tryz.underlying5 g 0 _ cap zs rfl (fun i hi => ?_) _ Tryz.underlying9
    obtain ⟨b', off', e, _, hcell⟩ := View.ofRow hr rfl i hi
    simp at e
    obtain ⟨rfl, rfl⟩ := e
    exact hcell
/-- What Quoted answers. -/
def quotR6 (l : List Int) (p : Nat) : List Int := match quotP l (p + 1) with
  | some x => x.1
  | none => []
def quotN6 (l : List Int) (p : Nat) : Nat := match quotP l (p + 1) with
  | some x => x.2 - p
  | none => 0
theorem quotP_over {l : List Int} {p : Nat} (h : l.length ≤ p) : quotP l p = none :=
  quotP_none (by rw [nth_over l p h]; decide) (partP_over h)

set_option maxHeartbeats 2000000 in
theorem refQuoted_any (s : ByteArray) (p : Nat) (w : World) (hs : s.size ≤ 16777216) (hp : p < s.size) :
    Calls Tryz.prog 89 #[.string s, .int .i64 p] w fun e w' => e = .returned (.tuple #[.string (strOfNums (quotR6 (strI s) p)), .int .i64 (quotN6 (strI s) p)]) ∧ Below w.heap.size w w' := by
  obtain ⟨i0, hi, hz0, hz1, hz2⟩ := info_parts Bld.info
  have HLEN := hid1 (strI_len s)
  have HOV : Hid (∀ k, s.size ≤ k → quotP (strI s) k = none) := fun k hk => quotP_over (by rw [strI_len]; exact hk)
  have HCL : Hid (∀ k, nth (strI s) k = 34 → quotP (strI s) k = some ([], k + 1)) := fun k h => quotP_close h
  have HNO : Hid (∀ k, nth (strI s) k ≠ 34 → (part6V (strI s) k).2 = 0 → quotP (strI s) k = none) := fun k h h1 => by
    refine quotP_none h ?_
    unfold part6V at h1
    cases e : partP (strI s) k with
    | none => rfl
    | some x =>
      obtain ⟨b, n⟩ := x
      have := (partP_some e).1
      rw [e] at h1; simp at h1; omega
  have HSO : Hid (∀ k, nth (strI s) k ≠ 34 → (part6V (strI s) k).2 ≠ 0 → quotP (strI s) k = (quotP (strI s) (k + (part6V (strI s) k).2)).map (fun r => ((part6V (strI s) k).1 :: r.1, r.2)) ∧ 1 ≤ (part6V (strI s) k).2 ∧ k + (part6V (strI s) k).2 ≤ s.size) := fun k h h1 => by
    cases e : partP (strI s) k with
    | none => unfold part6V at h1; rw [e] at h1; exact absurd rfl h1
    | some x =>
      obtain ⟨b, n⟩ := x
      have h2 := partP_some e
      have h3 : part6V (strI s) k = (b, n) := by unfold part6V; rw [e]
      rw [h3, ← strI_len]
      exact ⟨quotP_some h e, h2.1, h2.2⟩
  have HOUTN : Hid (quotP (strI s) (p + 1) = none → strOfNums (quotR6 (strI s) p) = ⟨#[]⟩ ∧ quotN6 (strI s) p = 0) := fun h => by
    unfold quotR6 quotN6; rw [h]; exact ⟨rfl, rfl⟩
  have HOUTS : Hid (∀ acc k, quotP (strI s) (p + 1) = some (acc, k) → quotR6 (strI s) p = acc ∧ quotN6 (strI s) p = k - p) := fun acc k h => by
    unfold quotR6 quotN6; rw [h]; exact ⟨rfl, rfl⟩
  have hpi : (p : Int) < (s.size : Int) := by omega
  go_enter Tryz.func89, Tryz.ntmps89
  go_wp2_with fail
  go_loopw [6, 7] (fun v i wr => ∃ (k : Nat) (acc : List Int), p + 1 ≤ k ∧ k ≤ s.size ∧ i = .int .i64 k ∧ acc.length ≤ k ∧ Hid (quotP (strI s) (p + 1) = (quotP (strI s) k).map (fun r => (acc ++ r.1, r.2))) ∧ RowB w.heap.size v acc wr ∧ Below w.heap.size w wr) (fun _ i _ => s.size - (intOf i).toNat)
  case atStart => exact ⟨p + 1, [], Nat.le_refl _, by omega, by go_num, by simp, by show _ = _; cases quotP (strI s) (p + 1) <;> rfl, World.ownsRow_nil _ _ _ _, Below.refl _ _⟩
  case round =>
    obtain ⟨k, acc, hpk, hk, rfl, hal, HI, hrow, hbel⟩ := hrel
    have hsz := hbel.size
    by_cases hlt : k < s.size
    · have hki : (k : Int) < (s.size : Int) := by omega
      have hpki : (p : Int) + 1 ≤ (k : Int) := by omega
      have nk := nth_strI s k hlt
      by_cases h34 : (s[k].toNat : Int) = 34
      · have HO : Hid (quotR6 (strI s) p = acc ∧ quotN6 (strI s) p = k + 1 - p) := HOUTS.out acc (k + 1) (by rw [HI.out, HCL.out k (nk.trans h34)]; simp)
        have hcv := rowB_convert hrow
        have h34' : ((s[k].toNat : Int) == 34) = true := by simpa using h34
        have HB := hid1 hbel
        clear nk h34 HI HCL HNO HSO HOV HOUTN HOUTS hrow hbel
        go_wp2_with fail
        go_ret2
        exact ⟨by rw [HO.out.1, HO.out.2]; exact congrArg (fun z => Ending.returned (.tuple #[.string (strOfNums acc), .int .i64 z])) (by omega), HB.out⟩
      · have h34' : ((s[k].toNat : Int) == 34) = false := by simpa using h34
        have hP := fun wx => refPart_any s k wx (by omega) hlt (by rw [nk]; exact h34)
        by_cases hz : (part6V (strI s) k).2 = 0
        · have HO : Hid (strOfNums (quotR6 (strI s) p) = ⟨#[]⟩ ∧ quotN6 (strI s) p = 0) := HOUTN.out (by rw [HI.out, HNO.out k (by rw [nk]; exact h34) hz]; rfl)
          rw [hz] at hP
          generalize (part6V (strI s) k).1 = pc at *
          have HB := hid1 hbel
          clear nk h34 HI HCL HNO HSO HOV HOUTN HOUTS hrow hbel hz
          go_wp2_with fail
          refine (hP _).mono ?_
          rintro e w2 ⟨rfl, qd, rfl⟩
          go_wp2_with fail
          go_ret2
          exact ⟨by rw [HO.out.1, HO.out.2]; rfl, bel_drewN HB.out _⟩
        · obtain ⟨q1, q2, q3⟩ := HSO.out k (by rw [nk]; exact h34) hz
          have HN : Hid (quotP (strI s) (p + 1) = (quotP (strI s) (k + (part6V (strI s) k).2)).map (fun r => ((acc ++ [(part6V (strI s) k).1]) ++ r.1, r.2))) := by
            show _ = _
            rw [HI.out, q1]
            cases quotP (strI s) (k + (part6V (strI s) k).2) <;> simp
          clear nk h34 HI HCL HNO HSO HOV HOUTN HOUTS q1
          generalize (part6V (strI s) k).1 = pc at *
          generalize (part6V (strI s) k).2 = pn at *
          have hzi : (pn : Int) ≠ 0 := by omega
          have hzb : ((pn : Int) == 0) = false := by simpa using hz
          go_wp2_with fail
          refine (hP _).mono ?_
          rintro e w2 ⟨rfl, qd, rfl⟩
          have hbd := bel_drewN (Below.refl wr.heap.size wr) qd
          have hrow2 : RowB w.heap.size u6 acc (wr.drewN qd) := hrow
          have hbel2 : Below w.heap.size w (wr.drewN qd) := bel_drewN hbel qd
          clear hrow hbel hbd hP
          have hsz2 := hbel2.size
          generalize wr.drewN qd = W at *
          have hra := World.ownsRow.alloc hrow2 (.cells #[.int .u8 pc] 5)
          have ew := hbel2.alloc hsz2 (.cells #[.int .u8 pc] 5)
          have hnone : ∀ kk, u6.ownBlock = some kk → w.heap.size ≤ kk := fun kk e => (World.ownsRow.lt hrow2 kk e).1
          clear hrow2
          go_wp2_with (at_builtin; refine wpList_append_own _ rfl _ _ 43 rfl w.heap.size 5 i0 (.int .u8 0) 1 1 Tryz.underlying43 hi hz0 hz1 hz2 rfl (by decide) _ acc.length (acc.map (Value.int .u8)) rfl hra ⟨W.heap.size, 0, none⟩ 1 1 ([pc].map (Value.int .u8)) rfl rfl (one_cells [pc]) (oneC_all _) (by unfold maxLen; omega) (by omega) (by simp; omega) ?_)
          intro v2 w2 hown2 hgr2 _
          have hr2 : RowB w.heap.size v2 (acc ++ [pc]) w2 := rowB_push hown2
          have hb2 : Below w.heap.size w w2 := ew.grown hgr2 (by simp; omega) (fun kk e => hnone kk e)
          clear hown2 hgr2 hra ew
          go_wp2_with fail
          go_roundw
          case rel => exact ⟨k + pn, acc ++ [pc], by omega, by omega, by go_num, by simp; omega, HN, hr2, hb2⟩
          case measure => simp [intOf]; omega
    · obtain rfl : k = s.size := by omega
      have HO : Hid (strOfNums (quotR6 (strI s) p) = ⟨#[]⟩ ∧ quotN6 (strI s) p = 0) := HOUTN.out (by rw [HI.out, HOV.out s.size (Nat.le_refl _)]; rfl)
      have HB := hid1 hbel
      clear HI HCL HNO HSO HOV HOUTN HOUTS hrow hbel
      go_wp2_with fail
      go_ret2
      exact ⟨by rw [HO.out.1, HO.out.2]; rfl, HB.out⟩

end Go.Proofs.YtmobologlaeefaaGreat

/-
  Token of the document's answer. Nothing that was there turns.
-/
namespace Go.Proofs.YtmobologlaeefaaGreat
open Go.RowKit
set_option maxRecDepth 10000
set_option linter.unusedVariables false
set_option linter.unusedSimpArgs false

/-- What Token answers: the token, how many bytes it is, what is wrong. -/
def tkT (l : List Int) (p : Nat) : TokT := match tokP l p with
  | .inr x => (x.1, strOfNums x.2.1, (p : Int))
  | .inl _ => (0, ⟨#[]⟩, 0)
def tkN (l : List Int) (p : Nat) : Nat := match tokP l p with
  | .inr x => x.2.2 - p
  | .inl _ => 0
def tkE (l : List Int) (p : Nat) : Int := match tokP l p with
  | .inr _ => 0
  | .inl e => e
theorem tk_ok {l : List Int} {p q : Nat} {k : Int} {t : List Int} (h : tokP l p = .inr (k, t, q)) : tkT l p = (k, strOfNums t, (p : Int)) ∧ tkN l p = q - p ∧ tkE l p = 0 := by
  unfold tkT tkN tkE; rw [h]; exact ⟨rfl, rfl, rfl⟩
theorem tk_bad {l : List Int} {p : Nat} {e : Int} (h : tokP l p = .inl e) : tkT l p = (0, ⟨#[]⟩, 0) ∧ tkN l p = 0 ∧ tkE l p = e := by
  unfold tkT tkN tkE; rw [h]; exact ⟨rfl, rfl, rfl⟩
theorem cut_str (s : ByteArray) (a b : Nat) : strOfNums (cutL (strI s) a b) = s.extract a b := by
  have : cutL (strI s) a b = strI (s.extract a b) := by rw [strI_extract]; rfl
  rw [this, str_of_strI]
theorem three_set6 {W : World} {g T : Nat} {a b c : Value} (h : W.heap[g]? = some (.cells #[a, b, c] T (0, 0))) (u v x : Value) :
    (((W.setCell ⟨g, 0, none⟩ u).setCell ⟨g, 1, none⟩ v).setCell ⟨g, 2, none⟩ x).heap[g]? = some (.cells #[u, v, x] T (0, 0)) := by
  simp only [World.setCell, Array.getElem?_modify, h]; simp

set_option maxHeartbeats 4000000 in
theorem refToken_any (s : ByteArray) (p : Nat) (w : World) (hs : s.size ≤ 16777216) (hp : p < s.size) :
    Calls Tryz.prog 48 #[.string s, .int .i64 p] w fun e w' => e = .returned (.tuple #[tokV (tkT (strI s) p), .int .i64 (tkN (strI s) p), .int .i64 (tkE (strI s) p)]) ∧ Below w.heap.size w w' := by
  have hs' : s.size ≤ 140737488351232 := by omega
  have hpi : (p : Int) < (s.size : Int) := by omega
  have n0 := nth_strI s p hp
  have HLEN := strI_len s
  obtain ⟨c0, c1⟩ := byte_lo s p hp
  have hL := fun wx => ref6Letter_any (s[p].toNat : Int) wx c0 c1
  have hD := fun wx => refDigit_any (s[p].toNat : Int) wx c0 c1
  have b1 : Below w.heap.size w (w.alloc (.cells #[.int .u8 0, .string ⟨#[]⟩, .int .i64 0] 102)) := (Below.refl _ w).alloc (Nat.le_refl _) _
  have k1 : (w.alloc (.cells #[.int .u8 0, .string ⟨#[]⟩, .int .i64 0] 102)).heap[w.heap.size]? = some (.cells #[.int .u8 0, .string ⟨#[]⟩, .int .i64 0] 102 (0, 0)) := heap_alloc_new w _
  have l1 : w.heap.size < (w.alloc (.cells #[.int .u8 0, .string ⟨#[]⟩, .int .i64 0] 102)).heap.size := by simp
  have HSET : Hid (∀ W, Below (w.alloc (.cells #[.int .u8 0, .string ⟨#[]⟩, .int .i64 0] 102)).heap.size (w.alloc (.cells #[.int .u8 0, .string ⟨#[]⟩, .int .i64 0] 102)) W → ∀ u v x, (((W.setCell ⟨w.heap.size, 0, none⟩ u).setCell ⟨w.heap.size, 1, none⟩ v).setCell ⟨w.heap.size, 2, none⟩ x).cell? ⟨w.heap.size, 0, none⟩ = some u ∧ (((W.setCell ⟨w.heap.size, 0, none⟩ u).setCell ⟨w.heap.size, 1, none⟩ v).setCell ⟨w.heap.size, 2, none⟩ x).cell? ⟨w.heap.size, 1, none⟩ = some v ∧ (((W.setCell ⟨w.heap.size, 0, none⟩ u).setCell ⟨w.heap.size, 1, none⟩ v).setCell ⟨w.heap.size, 2, none⟩ x).cell? ⟨w.heap.size, 2, none⟩ = some x ∧ Below w.heap.size w (((W.setCell ⟨w.heap.size, 0, none⟩ u).setCell ⟨w.heap.size, 1, none⟩ v).setCell ⟨w.heap.size, 2, none⟩ x)) := by
    intro W hb u v x
    have h := three_set6 ((hb.block _ l1).trans k1) u v x
    refine ⟨by rw [Lib.cell_of_heap h]; rfl, by rw [Lib.cell_of_heap h]; rfl, by rw [Lib.cell_of_heap h]; rfl, ?_⟩
    exact (((b1.trans (hb.mono b1.size)).setCell (by simp) _).setCell (by simp) _).setCell (by simp) _
  have HCELL : Hid (∀ W, Below (w.alloc (.cells #[.int .u8 0, .string ⟨#[]⟩, .int .i64 0] 102)).heap.size (w.alloc (.cells #[.int .u8 0, .string ⟨#[]⟩, .int .i64 0] 102)) W → W.cell? ⟨w.heap.size, 0, none⟩ = some (.int .u8 0) ∧ W.cell? ⟨w.heap.size, 1, none⟩ = some (.string ⟨#[]⟩) ∧ W.cell? ⟨w.heap.size, 2, none⟩ = some (.int .i64 0) ∧ W.frozen? ⟨w.heap.size, 0, none⟩ = false ∧ W.frozen? ⟨w.heap.size, 1, none⟩ = false ∧ W.frozen? ⟨w.heap.size, 2, none⟩ = false ∧ w.heap.size < W.heap.size) := by
    intro W hb
    have h := (hb.block _ l1).trans k1
    refine ⟨by rw [Lib.cell_of_heap h]; rfl, by rw [Lib.cell_of_heap h]; rfl, by rw [Lib.cell_of_heap h]; rfl, by simp [World.frozen?, h], by simp [World.frozen?, h], by simp [World.frozen?, h], Nat.lt_of_lt_of_le l1 hb.size⟩
  obtain ⟨d0, d1, d2, f0, f1, f2, l2⟩ := HCELL.out _ (Below.refl _ _)
  clear b1 k1 l1
  cases hl : letterB (s[p].toNat : Int)
  rotate_left
  · have ht : tokP (strI s) p = .inr (1, cutL (strI s) p (runE (strI s) p), runE (strI s) p) := by
      unfold tokP; rw [n0, if_pos hl]
    have HO := hid1 (tk_ok ht)
    rw [cut_str] at HO
    have r0 := runE_ge (strI s) p
    have r1 := runE_le (strI s) p (by omega)
    have hR := fun wx => refRun_any s p wx hs' (by omega)
    have hsz : (s.extract p (runE (strI s) p)).size = runE (strI s) p - p := by rw [ByteArray.size_extract]; omega
    rw [hl] at hL
    clear hl n0 ht hD HCELL
    generalize runE (strI s) p = r at *
    generalize s.extract p r = x at *
    go_enter Tryz.func48, Tryz.ntmps48
    go_wp2_with fail
    generalize w.alloc (.cells #[.int .u8 0, .string ⟨#[]⟩, .int .i64 0] 102) = w1 at *
    refine (hL _).mono ?_
    rintro e w2 ⟨rfl, rfl⟩
    go_wp2_with fail
    refine (hR _).mono ?_
    rintro e w2 ⟨rfl, rfl⟩
    go_wp2_with fail
    obtain ⟨e0, e1, e2, hbE⟩ := HSET.out _ (Below.refl _ _) (.int .u8 1) (.string x) (.int .i64 p)
    refine bodyPost_ret (v := .tuple #[.agg #[.int .u8 1, .string x, .int .i64 p], .int .i64 x.size, .int .i64 0]) ?_ rfl ⟨by rw [HO.out.1, HO.out.2.1, HO.out.2.2]; rw [← hsz]; rfl, hbE⟩
    simp only [results, Tryz.results48]
    first | (simp [go_sem, e0, e1, e2]; done) | (simp [go_sem, e0, e1, e2]; omega)
  rw [hl] at hL
  have e0 : ¬ (letterB (nth (strI s) p) = true) := by rw [n0, hl]; simp
  clear hl
  by_cases h37 : (s[p].toNat : Int) = 37
  · have hR := fun wx => refRun_any s (p + 1) wx hs' (by omega)
    have r0 := runE_ge (strI s) (p + 1)
    have r1 := runE_le (strI s) (p + 1) (by omega)
    have hsz : (s.extract (p + 1) (runE (strI s) (p + 1))).size = runE (strI s) (p + 1) - (p + 1) := by rw [ByteArray.size_extract]; omega
    have hP := fun wx => refPlain_any (s.extract (p + 1) (runE (strI s) (p + 1))) wx (by omega)
    have ec : strI (s.extract (p + 1) (runE (strI s) (p + 1))) = cutL (strI s) (p + 1) (runE (strI s) (p + 1)) := by rw [strI_extract]; rfl
    rw [ec] at hP
    have h37' : ((s[p].toNat : Int) == 37) = true := by simpa using h37
    have hpc : ((p : Int) + 1) = ((p + 1 : Nat) : Int) := by omega
    cases hpl : plainB (cutL (strI s) (p + 1) (runE (strI s) (p + 1)))
    · have HO := hid1 (tk_bad (show tokP (strI s) p = .inl 62 by unfold tokP; rw [if_neg e0, if_pos (n0.trans h37), if_neg (by rw [hpl]; simp)]))
      rw [hpl] at hP
      clear hpl n0 e0 hD HCELL h37 ec
      generalize runE (strI s) (p + 1) = r at *
      generalize s.extract (p + 1) r = x at *
      generalize cutL (strI s) (p + 1) r = y at *
      rw [← hpc] at hR
      clear hpc
      go_enter Tryz.func48, Tryz.ntmps48
      go_wp2_with fail
      generalize w.alloc (.cells #[.int .u8 0, .string ⟨#[]⟩, .int .i64 0] 102) = w1 at *
      refine (hL _).mono ?_
      rintro e w2 ⟨rfl, rfl⟩
      go_wp2_with fail
      refine (hR _).mono ?_
      rintro e w2 ⟨rfl, rfl⟩
      go_wp2_with fail
      refine (hP _).mono ?_
      rintro e w2 ⟨⟨z, rfl, _, _⟩, rfl⟩
      go_wp2_with fail
      obtain ⟨e0, e1, e2, hbE⟩ := HSET.out _ (Below.refl _ _) (.int .u8 0) (.string ⟨#[]⟩) (.int .i64 0)
      refine bodyPost_ret (v := .tuple #[.agg #[.int .u8 0, .string ⟨#[]⟩, .int .i64 0], .int .i64 0, .int .i64 62]) ?_ rfl ⟨by rw [HO.out.1, HO.out.2.1, HO.out.2.2]; rfl, hbE⟩
      simp only [results, Tryz.results48]
      first | (simp [go_sem, e0, e1, e2]; done) | (simp [go_sem, e0, e1, e2]; omega)
    · have HO := hid1 (tk_ok (show tokP (strI s) p = .inr (2, cutL (strI s) (p + 1) (runE (strI s) (p + 1)), runE (strI s) (p + 1)) by unfold tokP; rw [if_neg e0, if_pos (n0.trans h37), if_pos hpl]))
      rw [cut_str] at HO
      rw [hpl] at hP
      clear hpl n0 e0 hD HCELL h37 ec
      generalize runE (strI s) (p + 1) = r at *
      generalize s.extract (p + 1) r = x at *
      generalize cutL (strI s) (p + 1) r = y at *
      rw [← hpc] at hR
      clear hpc
      go_enter Tryz.func48, Tryz.ntmps48
      go_wp2_with fail
      generalize w.alloc (.cells #[.int .u8 0, .string ⟨#[]⟩, .int .i64 0] 102) = w1 at *
      refine (hL _).mono ?_
      rintro e w2 ⟨rfl, rfl⟩
      go_wp2_with fail
      refine (hR _).mono ?_
      rintro e w2 ⟨rfl, rfl⟩
      go_wp2_with fail
      refine (hP _).mono ?_
      rintro e w2 ⟨⟨z, rfl, _, _⟩, rfl⟩
      go_wp2_with fail
      obtain ⟨e0, e1, e2, hbE⟩ := HSET.out _ (Below.refl _ _) (.int .u8 2) (.string x) (.int .i64 p)
      refine bodyPost_ret (v := .tuple #[.agg #[.int .u8 2, .string x, .int .i64 p], .int .i64 ((x.size : Int) + 1), .int .i64 0]) ?_ rfl ⟨by rw [HO.out.1, HO.out.2.1, HO.out.2.2]; rw [show r - p = x.size + 1 by omega]; rfl, hbE⟩
      simp only [results, Tryz.results48]
      first | (simp [go_sem, e0, e1, e2]; done) | (simp [go_sem, e0, e1, e2]; omega)
  have e1 : ¬ (nth (strI s) p = 37) := by rw [n0]; exact h37
  have h37' : ((s[p].toNat : Int) == 37) = false := by simpa using h37
  clear h37
  by_cases hdm : (digitB (s[p].toNat : Int) || decide ((s[p].toNat : Int) = 45)) = true
  · have hR := fun wx => refRun_any s (p + 1) wx hs' (by omega)
    have r0 := runE_ge (strI s) (p + 1)
    have r1 := runE_le (strI s) (p + 1) (by omega)
    have hsz : (s.extract (p + 1) (runE (strI s) (p + 1))).size = runE (strI s) (p + 1) - (p + 1) := by rw [ByteArray.size_extract]; omega
    have hsy : (s.extract p (runE (strI s) (p + 1))).size = runE (strI s) (p + 1) - p := by rw [ByteArray.size_extract]; omega
    have hN := fun wx => refNumber_any (s.extract p (runE (strI s) (p + 1))) wx (by omega)
    have ec : strI (s.extract p (runE (strI s) (p + 1))) = cutL (strI s) p (runE (strI s) (p + 1)) := by rw [strI_extract]; rfl
    have hpc : ((p : Int) + 1) = ((p + 1 : Nat) : Int) := by omega
    have e2 : (digitB (nth (strI s) p) || decide (nth (strI s) p = 45)) = true := by rw [n0]; exact hdm
    rw [ec] at hN
    have HOK : Hid (numB (cutL (strI s) p (runE (strI s) (p + 1))) = true → numErr (cutL (strI s) p (runE (strI s) (p + 1))) = 0 ∧ (tkT (strI s) p = (3, s.extract p (runE (strI s) (p + 1)), (p : Int)) ∧ tkN (strI s) p = runE (strI s) (p + 1) - p ∧ tkE (strI s) p = 0)) := fun h => by
      refine ⟨by unfold numErr; rw [h]; rfl, ?_⟩
      have := tk_ok (show tokP (strI s) p = .inr (3, cutL (strI s) p (runE (strI s) (p + 1)), runE (strI s) (p + 1)) by unfold tokP; rw [if_neg e0, if_neg e1, if_pos e2, if_pos h])
      rw [cut_str] at this
      exact this
    have HBAD : Hid (numB (cutL (strI s) p (runE (strI s) (p + 1))) = false → numErr (cutL (strI s) p (runE (strI s) (p + 1))) ≠ 0 ∧ (tkT (strI s) p = (0, ⟨#[]⟩, 0) ∧ tkN (strI s) p = 0 ∧ tkE (strI s) p = 62)) := fun h =>
      ⟨by unfold numErr; rw [h]; decide, tk_bad (by unfold tokP; rw [if_neg e0, if_neg e1, if_pos e2, if_neg (by rw [h]; simp)])⟩
    clear n0 e0 e1 e2 HCELL ec
    have hpr : (p : Int) ≤ (p : Int) + 1 + ((s.extract (p + 1) (runE (strI s) (p + 1))).size : Int) := by omega
    have hqr : (p : Int) + 1 + ((s.extract (p + 1) (runE (strI s) (p + 1))).size : Int) ≤ (s.size : Int) := by omega
    have hrr : ((p : Int) + 1 + ((s.extract (p + 1) (runE (strI s) (p + 1))).size : Int)) = (runE (strI s) (p + 1) : Int) := by omega
    generalize runE (strI s) (p + 1) = r at *
    generalize numOut (cutL (strI s) p r) = no at *
    generalize numErr (cutL (strI s) p r) = ne at *
    rw [← hpc] at hR
    clear hpc
    cases hnb : numB (cutL (strI s) p r)
    · obtain ⟨hne, ho⟩ := HBAD.out hnb
      have HO := hid1 ho
      have hne' : (ne != 0) = true := by simpa using hne
      clear ho HOK HBAD hnb hne
      generalize s.extract (p + 1) r = x at *
      cases hd : digitB (s[p].toNat : Int)
      · have h45 : ((s[p].toNat : Int) == 45) = true := by rw [hd] at hdm; simpa using hdm
        rw [hd] at hD
        clear hd hdm
        go_enter Tryz.func48, Tryz.ntmps48
        go_wp2_with fail
        generalize w.alloc (.cells #[.int .u8 0, .string ⟨#[]⟩, .int .i64 0] 102) = w1 at *
        refine (hL _).mono ?_
        rintro e w2 ⟨rfl, rfl⟩
        go_wp2_with fail
        refine (hD _).mono ?_
        rintro e w2 ⟨rfl, rfl⟩
        go_wp2_with fail
        refine (hR _).mono ?_
        rintro e w2 ⟨rfl, rfl⟩
        go_wp2_with fail
        simp only [show p + 1 + (r - (p + 1)) = r by omega]
        refine (hN _).mono ?_
        rintro e w2 ⟨rfl, rfl⟩
        go_wp2_with fail
        obtain ⟨e0, e1, e2, hbE⟩ := HSET.out _ (Below.refl _ _) (.int .u8 0) (.string ⟨#[]⟩) (.int .i64 0)
        refine bodyPost_ret (v := .tuple #[.agg #[.int .u8 0, .string ⟨#[]⟩, .int .i64 0], .int .i64 0, .int .i64 62]) ?_ rfl ⟨by rw [HO.out.1, HO.out.2.1, HO.out.2.2]; rfl, hbE⟩
        simp only [results, Tryz.results48]
        first | (simp [go_sem, e0, e1, e2]; done) | (simp [go_sem, e0, e1, e2]; omega)
      · rw [hd] at hD
        clear hd hdm
        go_enter Tryz.func48, Tryz.ntmps48
        go_wp2_with fail
        generalize w.alloc (.cells #[.int .u8 0, .string ⟨#[]⟩, .int .i64 0] 102) = w1 at *
        refine (hL _).mono ?_
        rintro e w2 ⟨rfl, rfl⟩
        go_wp2_with fail
        refine (hD _).mono ?_
        rintro e w2 ⟨rfl, rfl⟩
        go_wp2_with fail
        refine (hR _).mono ?_
        rintro e w2 ⟨rfl, rfl⟩
        go_wp2_with fail
        simp only [show p + 1 + (r - (p + 1)) = r by omega]
        refine (hN _).mono ?_
        rintro e w2 ⟨rfl, rfl⟩
        go_wp2_with fail
        obtain ⟨e0, e1, e2, hbE⟩ := HSET.out _ (Below.refl _ _) (.int .u8 0) (.string ⟨#[]⟩) (.int .i64 0)
        refine bodyPost_ret (v := .tuple #[.agg #[.int .u8 0, .string ⟨#[]⟩, .int .i64 0], .int .i64 0, .int .i64 62]) ?_ rfl ⟨by rw [HO.out.1, HO.out.2.1, HO.out.2.2]; rfl, hbE⟩
        simp only [results, Tryz.results48]
        first | (simp [go_sem, e0, e1, e2]; done) | (simp [go_sem, e0, e1, e2]; omega)
    · obtain ⟨hne, ho⟩ := HOK.out hnb
      have HO := hid1 ho
      subst hne
      clear ho HOK HBAD hnb
      generalize s.extract (p + 1) r = x at *
      cases hd : digitB (s[p].toNat : Int)
      · have h45 : ((s[p].toNat : Int) == 45) = true := by rw [hd] at hdm; simpa using hdm
        rw [hd] at hD
        clear hd hdm
        go_enter Tryz.func48, Tryz.ntmps48
        go_wp2_with fail
        generalize w.alloc (.cells #[.int .u8 0, .string ⟨#[]⟩, .int .i64 0] 102) = w1 at *
        refine (hL _).mono ?_
        rintro e w2 ⟨rfl, rfl⟩
        go_wp2_with fail
        refine (hD _).mono ?_
        rintro e w2 ⟨rfl, rfl⟩
        go_wp2_with fail
        refine (hR _).mono ?_
        rintro e w2 ⟨rfl, rfl⟩
        go_wp2_with fail
        simp only [show p + 1 + (r - (p + 1)) = r by omega]
        refine (hN _).mono ?_
        rintro e w2 ⟨rfl, rfl⟩
        go_wp2_with fail
        obtain ⟨e0, e1, e2, hbE⟩ := HSET.out _ (Below.refl _ _) (.int .u8 3) (.string (s.extract p r)) (.int .i64 p)
        refine bodyPost_ret (v := .tuple #[.agg #[.int .u8 3, .string (s.extract p r), .int .i64 p], .int .i64 ((s.extract p r).size : Int), .int .i64 0]) ?_ rfl ⟨by rw [HO.out.1, HO.out.2.1, HO.out.2.2]; rw [← hsy]; rfl, hbE⟩
        simp only [results, Tryz.results48]
        first | (simp [go_sem, e0, e1, e2]; done) | (simp [go_sem, e0, e1, e2]; omega)
      · rw [hd] at hD
        clear hd hdm
        go_enter Tryz.func48, Tryz.ntmps48
        go_wp2_with fail
        generalize w.alloc (.cells #[.int .u8 0, .string ⟨#[]⟩, .int .i64 0] 102) = w1 at *
        refine (hL _).mono ?_
        rintro e w2 ⟨rfl, rfl⟩
        go_wp2_with fail
        refine (hD _).mono ?_
        rintro e w2 ⟨rfl, rfl⟩
        go_wp2_with fail
        refine (hR _).mono ?_
        rintro e w2 ⟨rfl, rfl⟩
        go_wp2_with fail
        simp only [show p + 1 + (r - (p + 1)) = r by omega]
        refine (hN _).mono ?_
        rintro e w2 ⟨rfl, rfl⟩
        go_wp2_with fail
        obtain ⟨e0, e1, e2, hbE⟩ := HSET.out _ (Below.refl _ _) (.int .u8 3) (.string (s.extract p r)) (.int .i64 p)
        refine bodyPost_ret (v := .tuple #[.agg #[.int .u8 3, .string (s.extract p r), .int .i64 p], .int .i64 ((s.extract p r).size : Int), .int .i64 0]) ?_ rfl ⟨by rw [HO.out.1, HO.out.2.1, HO.out.2.2]; rw [← hsy]; rfl, hbE⟩
        simp only [results, Tryz.results48]
        first | (simp [go_sem, e0, e1, e2]; done) | (simp [go_sem, e0, e1, e2]; omega)
  have e2 : ¬ ((digitB (nth (strI s) p) || decide (nth (strI s) p = 45)) = true) := by rw [n0]; exact hdm
  have hd : digitB (s[p].toNat : Int) = false := by cases h : digitB (s[p].toNat : Int) <;> simp [h] at hdm ⊢
  have h45 : ((s[p].toNat : Int) == 45) = false := by rw [hd] at hdm; simpa using hdm
  rw [hd] at hD
  clear hdm hd
  by_cases h34 : (s[p].toNat : Int) = 34
  · have hQ := fun wx => refQuoted_any s p wx hs hp
    have h34' : ((s[p].toNat : Int) == 34) = true := by simpa using h34
    cases hq : quotP (strI s) (p + 1) with
    | none =>
      have HO := hid1 (tk_bad (show tokP (strI s) p = .inl 61 by unfold tokP; rw [if_neg e0, if_neg e1, if_neg e2, if_pos (n0.trans h34), hq]))
      have q1 : quotN6 (strI s) p = 0 := by unfold quotN6; rw [hq]
      rw [q1] at hQ
      generalize strOfNums (quotR6 (strI s) p) = x at *
      clear hq n0 e0 e1 e2 q1 h34
      go_enter Tryz.func48, Tryz.ntmps48
      go_wp2_with fail
      generalize w.alloc (.cells #[.int .u8 0, .string ⟨#[]⟩, .int .i64 0] 102) = w1 at *
      refine (hL _).mono ?_
      rintro e w2 ⟨rfl, rfl⟩
      go_wp2_with fail
      refine (hD _).mono ?_
      rintro e w2 ⟨rfl, rfl⟩
      go_wp2_with fail
      refine (hQ _).mono ?_
      rintro e w2 ⟨rfl, hb2⟩
      obtain ⟨d0, d1, d2, f0, f1, f2, l2⟩ := HCELL.out _ hb2
      clear HCELL
      go_wp2_with fail
      obtain ⟨e0, e1, e2, hbE⟩ := HSET.out _ (hb2) (.int .u8 0) (.string ⟨#[]⟩) (.int .i64 0)
      refine bodyPost_ret (v := .tuple #[.agg #[.int .u8 0, .string ⟨#[]⟩, .int .i64 0], .int .i64 0, .int .i64 61]) ?_ rfl ⟨by rw [HO.out.1, HO.out.2.1, HO.out.2.2]; rfl, hbE⟩
      simp only [results, Tryz.results48]
      first | (simp [go_sem, e0, e1, e2]; done) | (simp [go_sem, e0, e1, e2]; omega)
    | some x =>
      obtain ⟨b, q⟩ := x
      have HO := hid1 (tk_ok (show tokP (strI s) p = .inr (4, b, q) by unfold tokP; rw [if_neg e0, if_neg e1, if_neg e2, if_pos (n0.trans h34), hq]))
      have hend := quotP_end hq
      have q1 : quotN6 (strI s) p = q - p := by unfold quotN6; rw [hq]
      have q2 : quotR6 (strI s) p = b := by unfold quotR6; rw [hq]
      rw [q1, q2] at hQ
      have hnz : (((q - p : Nat) : Int) == 0) = false := by simp; omega
      generalize strOfNums b = x at *
      generalize q - p = m at *
      clear hq n0 e0 e1 e2 q1 q2 h34 hend
      go_enter Tryz.func48, Tryz.ntmps48
      go_wp2_with fail
      generalize w.alloc (.cells #[.int .u8 0, .string ⟨#[]⟩, .int .i64 0] 102) = w1 at *
      refine (hL _).mono ?_
      rintro e w2 ⟨rfl, rfl⟩
      go_wp2_with fail
      refine (hD _).mono ?_
      rintro e w2 ⟨rfl, rfl⟩
      go_wp2_with fail
      refine (hQ _).mono ?_
      rintro e w2 ⟨rfl, hb2⟩
      obtain ⟨d0, d1, d2, f0, f1, f2, l2⟩ := HCELL.out _ hb2
      clear HCELL
      go_wp2_with fail
      obtain ⟨e0, e1, e2, hbE⟩ := HSET.out _ (hb2) (.int .u8 4) (.string x) (.int .i64 p)
      refine bodyPost_ret (v := .tuple #[.agg #[.int .u8 4, .string x, .int .i64 p], .int .i64 m, .int .i64 0]) ?_ rfl ⟨by rw [HO.out.1, HO.out.2.1, HO.out.2.2]; rfl, hbE⟩
      simp only [results, Tryz.results48]
      first | (simp [go_sem, e0, e1, e2]; done) | (simp [go_sem, e0, e1, e2]; omega)
  have e3 : ¬ (nth (strI s) p = 34) := by rw [n0]; exact h34
  have h34' : ((s[p].toNat : Int) == 34) = false := by simpa using h34
  clear h34
  by_cases h61 : (s[p].toNat : Int) = 61
  · have HO := hid1 (tk_ok (show tokP (strI s) p = .inr (5, [61], p + 1) by unfold tokP; rw [if_neg e0, if_neg e1, if_neg e2, if_neg e3, if_pos (n0.trans h61)]))
    have h61' : ((s[p].toNat : Int) == 61) = true := by simpa using h61
    clear n0 e0 e1 e2 e3 h61 HCELL
    go_enter Tryz.func48, Tryz.ntmps48
    go_wp2_with fail
    generalize w.alloc (.cells #[.int .u8 0, .string ⟨#[]⟩, .int .i64 0] 102) = w1 at *
    refine (hL _).mono ?_
    rintro e w2 ⟨rfl, rfl⟩
    go_wp2_with fail
    refine (hD _).mono ?_
    rintro e w2 ⟨rfl, rfl⟩
    go_wp2_with fail
    obtain ⟨e0, e1, e2, hbE⟩ := HSET.out _ (Below.refl _ _) (.int .u8 5) (.string ⟨#[61]⟩) (.int .i64 p)
    refine bodyPost_ret (v := .tuple #[.agg #[.int .u8 5, .string ⟨#[61]⟩, .int .i64 p], .int .i64 1, .int .i64 0]) ?_ rfl ⟨by rw [HO.out.1, HO.out.2.1, HO.out.2.2]; rw [show p + 1 - p = 1 by omega]; rfl, hbE⟩
    simp only [results, Tryz.results48]
    first | (simp [go_sem, e0, e1, e2]; done) | (simp [go_sem, e0, e1, e2]; omega)
  · have HO := hid1 (tk_bad (show tokP (strI s) p = .inl 60 by unfold tokP; rw [if_neg e0, if_neg e1, if_neg e2, if_neg e3, if_neg (by rw [n0]; exact h61)]))
    have h61' : ((s[p].toNat : Int) == 61) = false := by simpa using h61
    clear n0 e0 e1 e2 e3 h61 HCELL
    go_enter Tryz.func48, Tryz.ntmps48
    go_wp2_with fail
    generalize w.alloc (.cells #[.int .u8 0, .string ⟨#[]⟩, .int .i64 0] 102) = w1 at *
    refine (hL _).mono ?_
    rintro e w2 ⟨rfl, rfl⟩
    go_wp2_with fail
    refine (hD _).mono ?_
    rintro e w2 ⟨rfl, rfl⟩
    go_wp2_with fail
    obtain ⟨e0, e1, e2, hbE⟩ := HSET.out _ (Below.refl _ _) (.int .u8 0) (.string ⟨#[]⟩) (.int .i64 0)
    refine bodyPost_ret (v := .tuple #[.agg #[.int .u8 0, .string ⟨#[]⟩, .int .i64 0], .int .i64 0, .int .i64 60]) ?_ rfl ⟨by rw [HO.out.1, HO.out.2.1, HO.out.2.2]; rfl, hbE⟩
    simp only [results, Tryz.results48]
    first | (simp [go_sem, e0, e1, e2]; done) | (simp [go_sem, e0, e1, e2]; omega)

end Go.Proofs.YtmobologlaeefaaGreat

/-
  Tokens of the document's answer: the tokens of the line in new memory. Nothing that was there turns.
-/
namespace Go.Proofs.YtmobologlaeefaaGreat
open Go.RowKit
set_option maxRecDepth 10000
set_option linter.unusedVariables false
set_option linter.unusedSimpArgs false

theorem tokP_err {l : List Int} {p : Nat} {e : Int} (h : tokP l p = .inl e) : e ≠ 0 := by
  unfold tokP at h
  repeat' split at h
  all_goals first | (cases h; decide) | (cases h; done)
theorem allocOld2 {w : World} {k : Nat} {x : Obj} (h : w.heap[k]? = some x) (o : Obj) : (w.alloc o).heap[k]? = some x := (Below.heap_alloc _ _ _ (Array.getElem?_eq_some_iff.1 h).1).trans h
theorem own_low {w : World} {B B' e size n : Nat} {v : Value} {xs : List Value} (h : w.ownsRow B e size v n xs) (hB : B' ≤ B) : w.ownsRow B' e size v n xs := by
  refine ⟨h.1, ?_⟩
  rcases h.2 with hn | ⟨g, cap, cur, e1, e2, rest⟩
  · exact .inl hn
  · exact .inr ⟨g, cap, cur, e1, Nat.le_trans hB e2, rest⟩

set_option maxHeartbeats 4000000 in
theorem refTokens_any (s : ByteArray) (w : World) (hs : s.size ≤ 16777216) :
    Calls Tryz.prog 24 #[.string s] w fun e w' => ∃ v, e = .returned (.tuple #[v, .agg #[.int .i64 (toksP (strI s) 0).2.1, .int .i64 (toksP (strI s) 0).2.2]]) ∧ w'.ownsRow w.heap.size 102 3 v (toksP (strI s) 0).1.length ((toksP (strI s) 0).1.flatMap tokC) ∧ Below w.heap.size w w' := by
  obtain ⟨i0, hi, hz0, hz1, hz2⟩ := info_parts TokMake.info
  have HLEN := hid1 (strI_len s)
  have HJ0 : Hid (joinR [] (toksP (strI s) 0) = toksP (strI s) 0) := join_nil _ _
  have HEND : Hid (∀ acc k, ¬ (k < s.size ∧ nth (strI s) k ≠ 59) → joinR acc (toksP (strI s) k) = toksP (strI s) 0 → toksP (strI s) 0 = (acc, 0, 0)) := fun acc k h1 h2 => by
    rw [← h2, toksP_end (by rw [strI_len]; exact h1)]; simp [joinR]
  have HBL : Hid (∀ acc k, k < s.size → blankB (nth (strI s) k) = true → joinR acc (toksP (strI s) k) = toksP (strI s) 0 → joinR acc (toksP (strI s) (k + 1)) = toksP (strI s) 0) := fun acc k h1 h2 h3 => by
    rw [← toksP_blank (by rw [strI_len]; exact h1) h2]; exact h3
  have HER : Hid (∀ acc k e, k < s.size → nth (strI s) k ≠ 59 → blankB (nth (strI s) k) = false → tokP (strI s) k = .inl e → joinR acc (toksP (strI s) k) = toksP (strI s) 0 → toksP (strI s) 0 = ([], e, (k : Int))) := fun acc k e h1 h2 h3 h4 h5 => by
    rw [← h5, toksP_err (by rw [strI_len]; exact h1) h2 h3 h4]; simp [joinR, tokP_err h4]
  have HTK : Hid (∀ acc k kd t q, k < s.size → nth (strI s) k ≠ 59 → blankB (nth (strI s) k) = false → tokP (strI s) k = .inr (kd, t, q) → joinR acc (toksP (strI s) k) = toksP (strI s) 0 → joinR (acc ++ [(kd, strOfNums t, (k : Int))]) (toksP (strI s) q) = toksP (strI s) 0 ∧ k + 1 ≤ q ∧ q ≤ s.size) := fun acc k kd t q h1 h2 h3 h4 h5 => by
    have he := tokP_end (by rw [strI_len]; exact h1) h4
    rw [strI_len] at he
    refine ⟨?_, he.1, he.2⟩
    rw [← join_cons, ← toksP_tok (by rw [strI_len]; exact h1) h2 h3 h4]; exact h5
  have b1 : Below w.heap.size w (w.alloc (.cells #[.int .i64 0, .int .i64 0] 28)) := (Below.refl _ w).alloc (Nat.le_refl _) _
  have k1 : (w.alloc (.cells #[.int .i64 0, .int .i64 0] 28)).heap[w.heap.size]? = some (.cells #[.int .i64 0, .int .i64 0] 28 (0, 0)) := heap_alloc_new w _
  generalize hRR : toksP (strI s) 0 = R at *
  have HOUT : Hid (∀ (W : World), Below w.heap.size w W → W.heap[w.heap.size]? = some (.cells #[.int .i64 0, .int .i64 0] 28 (0, 0)) → ∀ u v, ((W.setCell ⟨w.heap.size, 0, none⟩ (.int .i64 u)).setCell ⟨w.heap.size, 1, none⟩ (.int .i64 v)).cell? ⟨w.heap.size, 0, none⟩ = some (.int .i64 u) ∧ ((W.setCell ⟨w.heap.size, 0, none⟩ (.int .i64 u)).setCell ⟨w.heap.size, 1, none⟩ (.int .i64 v)).cell? ⟨w.heap.size, 1, none⟩ = some (.int .i64 v) ∧ Below w.heap.size w ((W.setCell ⟨w.heap.size, 0, none⟩ (.int .i64 u)).setCell ⟨w.heap.size, 1, none⟩ (.int .i64 v)) ∧ W.cell? ⟨w.heap.size, 0, none⟩ = some (.int .i64 0) ∧ W.cell? ⟨w.heap.size, 1, none⟩ = some (.int .i64 0) ∧ W.frozen? ⟨w.heap.size, 0, none⟩ = false ∧ W.frozen? ⟨w.heap.size, 1, none⟩ = false) := by
    intro W hb hsp u v
    have h := spot_put hsp (.int .i64 u) (.int .i64 v)
    exact ⟨by rw [Lib.cell_of_heap h]; rfl, by rw [Lib.cell_of_heap h]; rfl, (hb.setCell (by simp) _).setCell (by simp) _, by rw [Lib.cell_of_heap hsp]; rfl, by rw [Lib.cell_of_heap hsp]; rfl, Lib.frozen_of_heap hsp 0, Lib.frozen_of_heap hsp 1⟩
  go_enter Tryz.func24, Tryz.ntmps24
  go_wp2_with fail
  go_loopw [4, 5] (fun v i wr => ∃ (k : Nat) (acc : List TokT), k ≤ s.size ∧ i = .int .i64 k ∧ acc.length ≤ k ∧ Hid (joinR acc (toksP (strI s) k) = R) ∧ wr.ownsRow (w.heap.size + 1) 102 3 v acc.length (acc.flatMap tokC) ∧ wr.heap[w.heap.size]? = some (.cells #[.int .i64 0, .int .i64 0] 28 (0, 0)) ∧ Below w.heap.size w wr) (fun _ i _ => s.size - (intOf i).toNat)
  case atStart => exact ⟨0, [], Nat.zero_le _, rfl, Nat.le_refl _, by show _ = _; rw [hRR]; exact HJ0.out, World.ownsRow_nil _ _ _ _, k1, b1⟩
  case round =>
    obtain ⟨k, acc, hk, rfl, hal, HI, hrow, hsp, hbel⟩ := hrel
    have hsz := hbel.size
    have hwl : w.heap.size < wr.heap.size := (Array.getElem?_eq_some_iff.1 hsp).1
    clear k1 b1
    by_cases hlt : k < s.size
    · have hki : (k : Int) < (s.size : Int) := by omega
      have nk := nth_strI s k hlt
      obtain ⟨c0, c1⟩ := byte_lo s k hlt
      by_cases h59 : (s[k].toNat : Int) = 59
      · have HO := hid1 (HEND.out acc k (fun h => h.2 (nk.trans h59)) HI.out)
        obtain ⟨e0, e1, hbE, z0, z1, f0, f1⟩ := HOUT.out wr hbel hsp 0 0
        have h59' : ((s[k].toNat : Int) != 59) = false := by simpa using h59
        have HROW := hid1 (own_low (ownsRow_setCell_below (ownsRow_setCell_below hrow (a := ⟨w.heap.size, 0, none⟩) (by simp) (.int .i64 0)) (a := ⟨w.heap.size, 1, none⟩) (by simp) (.int .i64 0)) (Nat.le_succ _))
        have HBE := hid1 hbE
        have E0 := hid1 e0
        have E1 := hid1 e1
        clear HI nk h59 HEND HBL HER HTK hrow hbel hsp HOUT hbE e0 e1 HJ0 hRR
        go_wp2_with fail
        refine bodyPost_ret (v := .tuple #[u4, .agg #[.int .i64 0, .int .i64 0]]) ?_ rfl ⟨u4, by rw [HO.out], by rw [HO.out]; exact HROW.out, HBE.out⟩
        simp only [results, Tryz.results24]
        simp [go_sem, E0.out, E1.out]
      have h59' : ((s[k].toNat : Int) != 59) = true := by simpa using h59
      have hB := fun wx => refBlank_any (s[k].toNat : Int) wx c0 c1
      cases hbl : blankB (s[k].toNat : Int)
      · have hT := fun wx => refToken_any s k wx hs hlt
        cases htk : tokP (strI s) k with
        | inl er =>
          have hne := tokP_err htk
          have HO := hid1 (HER.out acc k er hlt (by rw [nk]; exact h59) (by rw [nk]; exact hbl) htk HI.out)
          obtain ⟨q1, q2, q3⟩ := tk_bad htk
          rw [q1, q2, q3] at hT
          rw [hbl] at hB
          have hne' : (er != 0) = true := by simpa using hne
          clear hbl htk nk h59 HEND HBL HER HTK HI q1 q2 q3 HJ0 hRR hne
          unfold tokV at hT
          go_wp2_with fail
          refine (hB _).mono ?_
          rintro e w2 ⟨rfl, rfl⟩
          go_wp2_with fail
          refine (hT _).mono ?_
          rintro e w2 ⟨rfl, hb2⟩
          have hsp2 := (hb2.block _ hwl).trans hsp
          have hbel2 := hbel.trans (hb2.mono hsz)
          have hlt2 : w.heap.size < w2.heap.size := Nat.lt_of_lt_of_le hwl hb2.size
          obtain ⟨e0, e1, hbE, z0, z1, f0, f1⟩ := HOUT.out w2 hbel2 hsp2 er k
          have hX : w.heap.size < ((w2.setCell ⟨w.heap.size, 0, none⟩ (.int .i64 er)).setCell ⟨w.heap.size, 1, none⟩ (.int .i64 k)).heap.size := by simpa [World.setCell] using hlt2
          have HBE := hid1 (hbE.alloc hbE.size (.cells #[.int .u8 0, .string ⟨#[]⟩, .int .i64 0] 102))
          have E0 := hid1 ((((Below.refl _ ((w2.setCell ⟨w.heap.size, 0, none⟩ (.int .i64 er)).setCell ⟨w.heap.size, 1, none⟩ (.int .i64 k))).alloc (Nat.le_refl _) (.cells #[.int .u8 0, .string ⟨#[]⟩, .int .i64 0] 102)).cell (p := ⟨w.heap.size, 0, none⟩) hX).trans e0)
          have E1 := hid1 ((((Below.refl _ ((w2.setCell ⟨w.heap.size, 0, none⟩ (.int .i64 er)).setCell ⟨w.heap.size, 1, none⟩ (.int .i64 k))).alloc (Nat.le_refl _) (.cells #[.int .u8 0, .string ⟨#[]⟩, .int .i64 0] 102)).cell (p := ⟨w.heap.size, 1, none⟩) hX).trans e1)
          clear HOUT hbE e0 e1 hsp hbel hrow hb2 hsp2 hbel2 hX
          go_wp2_with fail
          refine bodyPost_ret (v := .tuple #[.slice none 0 0, .agg #[.int .i64 er, .int .i64 k]]) ?_ rfl ⟨_, by rw [HO.out], by rw [HO.out]; exact World.ownsRow_nil _ _ _ _, HBE.out⟩
          simp only [results, Tryz.results24]
          have E0 := E0.out
          have E1 := E1.out
          generalize ((w2.setCell ⟨w.heap.size, 0, none⟩ (.int .i64 er)).setCell ⟨w.heap.size, 1, none⟩ (.int .i64 k)).alloc (.cells #[.int .u8 0, .string ⟨#[]⟩, .int .i64 0] 102) = WF at *
          simp [go_sem, E0, E1]
        | inr x =>
          obtain ⟨kd, t, q⟩ := x
          obtain ⟨j1, j2, j3⟩ := HTK.out acc k kd t q hlt (by rw [nk]; exact h59) (by rw [nk]; exact hbl) htk HI.out
          have HN := hid1 j1
          obtain ⟨q1, q2, q3⟩ := tk_ok htk
          rw [q1, q2, q3] at hT
          rw [hbl] at hB
          clear hbl htk nk h59 HEND HBL HER HTK HI q1 q2 q3 HJ0 hRR HOUT j1
          unfold tokV at hT
          simp only at hT
          generalize strOfNums t = st at *
          have hqk : (k : Int) + ((q - k : Nat) : Int) = (q : Int) := by omega
          go_wp2_with fail
          refine (hB _).mono ?_
          rintro e w2 ⟨rfl, rfl⟩
          go_wp2_with fail
          refine (hT _).mono ?_
          rintro e w2 ⟨rfl, hb2⟩
          have hsp2 := (hb2.block _ hwl).trans hsp
          have hbel2 := hbel.trans (hb2.mono hsz)
          have hlt2 : w.heap.size < w2.heap.size := Nat.lt_of_lt_of_le hwl hb2.size
          have hrow2 := own_below hrow hb2
          have hsp3 := allocOld2 (allocOld2 hsp2 (.cells #[.int .u8 kd, .string st, .int .i64 k] 102)) (.cells #[.int .u8 kd, .string st, .int .i64 k] 102)
          have hbel3 := (hbel2.alloc hbel2.size (.cells #[.int .u8 kd, .string st, .int .i64 k] 102)).alloc (by have := hbel2.size; simp; omega) (.cells #[.int .u8 kd, .string st, .int .i64 k] 102)
          have hra := World.ownsRow.alloc (World.ownsRow.alloc hrow2 (.cells #[.int .u8 kd, .string st, .int .i64 k] 102)) (.cells #[.int .u8 kd, .string st, .int .i64 k] 102)
          have hnone : ∀ kk, u4.ownBlock = some kk → w.heap.size + 1 ≤ kk := fun kk e => (World.ownsRow.lt hrow2 kk e).1
          clear hsp hbel hrow hb2 hsp2 hbel2 hrow2
          go_wp2_with (at_builtin; refine wpList_append_own _ rfl (.tmp 37) (.tmp 39) 54 rfl (w.heap.size + 1) 102 i0 (.agg #[.int .u8 0, .string ⟨#[]⟩, .int .i64 0]) 3 32 Tryz.underlying54 hi hz0 hz1 hz2 rfl (by decide) _ acc.length (acc.flatMap tokC) rfl hra ⟨w2.heap.size + 1, 0, none⟩ 1 1 [.int .u8 kd, .string st, .int .i64 k] rfl rfl ?c1 ?c2 ?c3 ?c4 ?c5 ?_)
          case c1 =>
            intro j u hj
            match j, hj with
            | 0, hj => simp at hj; subst hj; simp [Addr.add]
            | 1, hj => simp at hj; subst hj; simp [Addr.add]
            | 2, hj => simp at hj; subst hj; simp [Addr.add]
          case c2 => intro u hu; simp at hu; rcases hu with rfl | rfl | rfl <;> rfl
          case c3 => unfold maxLen; omega
          case c4 => omega
          case c5 => simp; omega
          intro v2 w3 hown3 hgr3 _
          have hsp4 := (hgr3.block w.heap.size (by simp; omega) (fun e => by have := hnone _ e.symm; omega)).trans hsp3
          have hb4 : Below w.heap.size w w3 := hbel3.grown hgr3 (by simp; omega) (fun kk e => by have := hnone kk e; omega)
          have hrow4 : w3.ownsRow (w.heap.size + 1) 102 3 v2 (acc ++ [(kd, st, (k : Int))]).length ((acc ++ [(kd, st, (k : Int))]).flatMap tokC) := by
            rw [flatT_push, List.length_append]; exact hown3
          clear hown3 hgr3 hra hsp3 hbel3
          go_wp2_with fail
          go_roundw
          case rel => exact ⟨q, acc ++ [(kd, st, (k : Int))], j3, by first | rfl | (rw [hqk]) | go_num, by simp; omega, HN, hrow4, hsp4, hb4⟩
          case measure => simp [intOf]; omega
      · have HN := hid1 (HBL.out acc k hlt (by rw [nk]; exact hbl) HI.out)
        rw [hbl] at hB
        clear hbl nk h59 HEND HBL HER HTK HI HJ0 hRR HOUT
        go_wp2_with fail
        refine (hB _).mono ?_
        rintro e w2 ⟨rfl, rfl⟩
        go_wp2_with fail
        go_roundw
        case rel => exact ⟨k + 1, acc, by omega, by go_num, by omega, HN, hrow, hsp, hbel⟩
        case measure => simp [intOf]; omega
    · obtain rfl : k = s.size := by omega
      have HO := hid1 (HEND.out acc s.size (fun h => by omega) HI.out)
      obtain ⟨e0, e1, hbE, z0, z1, f0, f1⟩ := HOUT.out wr hbel hsp 0 0
      have HROW := hid1 (own_low (ownsRow_setCell_below (ownsRow_setCell_below hrow (a := ⟨w.heap.size, 0, none⟩) (by simp) (.int .i64 0)) (a := ⟨w.heap.size, 1, none⟩) (by simp) (.int .i64 0)) (Nat.le_succ _))
      have HBE := hid1 hbE
      have E0 := hid1 e0
      have E1 := hid1 e1
      clear HI HEND HBL HER HTK hrow hbel hsp HOUT hbE e0 e1 HJ0 hRR
      go_wp2_with fail
      refine bodyPost_ret (v := .tuple #[u4, .agg #[.int .i64 0, .int .i64 0]]) ?_ rfl ⟨u4, by rw [HO.out], by rw [HO.out]; exact HROW.out, HBE.out⟩
      simp only [results, Tryz.results24]
      simp [go_sem, E0.out, E1.out]

end Go.Proofs.YtmobologlaeefaaGreat

/-
  What Head of the document's answer for layer 7 returns.
-/
namespace Go.Proofs.YtmobologlaeefaaGreat
open Go.RowKit
set_option linter.unusedVariables false
set_option linter.unusedSimpArgs false
set_option maxRecDepth 10000

theorem refSpot_any (e p : Int) (w : World) : Calls Tryz.prog 22 #[.int .i64 e, .int .i64 p] w fun x w' => x = .returned (.agg #[.int .i64 e, .int .i64 p]) ∧ Below w.heap.size w w' := by
  go_enter Tryz.func22, Tryz.ntmps22
  go_wp2
  refine bodyPost_ret (v := .agg #[.int .i64 e, .int .i64 p]) ?_ rfl ⟨rfl, ?_⟩
  · simp [results, Tryz.results22, go_sem]
  · exact (Below.refl _ w).alloc (Nat.le_refl _) _

/-- What holds while a head is gone through: the results' boxes, the head so far. -/
structure RefH (w : World) (Bh : Nat) (a : Option Addr) (l : List TokT) (x y : Value) (W : World) : Prop where
  toks : ToksV W a l
  bel : Below w.heap.size w W
  head : W.heap[w.heap.size]? = some (.cells #[.int .u32 0, .int .u32 0] 58 (0, 0))
  spot : W.heap[w.heap.size + 1]? = some (.cells #[.int .i64 0, .int .i64 0] 28 (0, 0))
  own : W.heap[Bh]? = some (.cells #[x, y] 58 (0, 0))
  lt : w.heap.size + 2 ≤ Bh
  far : ∀ b off, a = some ⟨b, off, none⟩ → b ≠ Bh

section
variable {w : World} {Bh : Nat} {a : Option Addr} {l : List TokT} {x y : Value} {W W' : World}
theorem RefH.below (h : RefH w Bh a l x y W) (hb : Below W.heap.size W W') : RefH w Bh a l x y W' :=
  ⟨h.toks.below hb, h.bel.trans (hb.mono h.bel.size), (hb.block _ (Array.getElem?_eq_some_iff.1 h.head).1).trans h.head, (hb.block _ (Array.getElem?_eq_some_iff.1 h.spot).1).trans h.spot, (hb.block _ (Array.getElem?_eq_some_iff.1 h.own).1).trans h.own, h.lt, h.far⟩
theorem RefH.put (h : RefH w Bh a l x y W) (i : Nat) (v : Value) (x' y' : Value) (ho : (W.setCell ⟨Bh, i, none⟩ v).heap[Bh]? = some (.cells #[x', y'] 58 (0, 0))) : RefH w Bh a l x' y' (W.setCell ⟨Bh, i, none⟩ v) := by
  have hl := h.lt
  refine ⟨?_, h.bel.setCell (by simp; omega) _, (Below.heap_setCell _ _ _ _ (by simp; omega)).trans h.head, (Below.heap_setCell _ _ _ _ (by simp; omega)).trans h.spot, ho, h.lt, h.far⟩
  intro j hj
  obtain ⟨b, off, e, hb, h1, h2, h3⟩ := h.toks j hj
  have hx : (W.setCell ⟨Bh, i, none⟩ v).heap[b]? = W.heap[b]? := Below.heap_setCell _ _ _ _ (by simpa using h.far b off e)
  refine ⟨b, off, e, by simpa using hb, ?_, ?_, ?_⟩
  · simp only [World.cell?, hx] at h1 ⊢; exact h1
  · simp only [World.cell?, hx] at h2 ⊢; exact h2
  · simp only [World.cell?, hx] at h3 ⊢; exact h3
theorem RefH.put0 (h : RefH w Bh a l x y W) (v : Value) : RefH w Bh a l v y (W.setCell ⟨Bh, 0, none⟩ v) := h.put 0 v v y (by have := h.own; simp [World.setCell, Array.getElem?_modify, this])
theorem RefH.put1 (h : RefH w Bh a l x y W) (v : Value) : RefH w Bh a l x v (W.setCell ⟨Bh, 1, none⟩ v) := h.put 1 v x v (by have := h.own; simp [World.setCell, Array.getElem?_modify, this])
end

def genAt (l : List TokT) (k : Nat) : Int := if 2 ≤ k then numV (strI (nthT l 1).2.1) else 0
def bndAt (l : List TokT) (k : Nat) : Int := if 3 ≤ k then numV (strI (nthT l 2).2.1) else 0
/-- The first k tokens are right. -/
def HeadTo (l : List TokT) (k : Nat) : Prop := (1 ≤ k → (nthT l 0).1 = 1 ∧ (nthT l 0).2.1 = moduleS) ∧ (2 ≤ k → numP (nthT l 1) = 0) ∧ (3 ≤ k → numP (nthT l 2) = 0 ∧ ¬ (numV (strI (nthT l 2).2.1) < 1 ∨ 65536 < numV (strI (nthT l 2).2.1)))

theorem head_next0 {l : List TokT} : (nthT l 0).1 = 1 → (nthT l 0).2.1 = moduleS → HeadTo l 1 := fun h1 h2 => ⟨fun _ => ⟨h1, h2⟩, fun h => by omega, fun h => by omega⟩

set_option maxHeartbeats 8000000 in
theorem refHead7_any (s : ByteArray) (w : World) (hs : s.size ≤ 16777216) :
    Calls Tryz.prog 25 #[.string s] w fun e w' => e = .returned (.tuple #[.agg #[.int .u32 (headS s).1, .int .u32 (headS s).2.1], .agg #[.int .i64 (headS s).2.2.1, .int .i64 (headS s).2.2.2]]) ∧ Below w.heap.size w w' := by
  have hT := fun wx => refTokens_any s wx hs
  obtain ⟨_, _, g3, g4, _⟩ := toks_good (strI_within s) 0
  have hIn := toksIn_of (l := (toksP (strI s) 0).1) (n := (strI s).length) (by rw [strI_len]; omega) g4
  rw [strI_len] at g3
  obtain ⟨H, hH⟩ : ∃ H, H = headS s := ⟨_, rfl⟩
  rw [← hH]
  unfold headS at hH
  obtain ⟨R, hR⟩ : ∃ R, R = toksP (strI s) 0 := ⟨_, rfl⟩
  rw [← hR] at hT hH g3 hIn
  clear hR g4
  obtain ⟨l, er, at_⟩ := R
  simp only at hT hH g3 hIn
  have hB0 : Below w.heap.size w ((w.alloc (.cells #[.int .u32 0, .int .u32 0] 58)).alloc (.cells #[.int .i64 0, .int .i64 0] 28)) := ((Below.refl _ w).alloc (Nat.le_refl _) _).alloc (by simp) _
  have kH : ((w.alloc (.cells #[.int .u32 0, .int .u32 0] 58)).alloc (.cells #[.int .i64 0, .int .i64 0] 28)).heap[w.heap.size]? = some (.cells #[.int .u32 0, .int .u32 0] 58 (0, 0)) := (Below.heap_alloc _ _ _ (by simp)).trans (heap_alloc_new w _)
  have kS : ((w.alloc (.cells #[.int .u32 0, .int .u32 0] 58)).alloc (.cells #[.int .i64 0, .int .i64 0] 28)).heap[w.heap.size + 1]? = some (.cells #[.int .i64 0, .int .i64 0] 28 (0, 0)) := by simpa using heap_alloc_new (w.alloc (.cells #[.int .u32 0, .int .u32 0] 58)) (.cells #[.int .i64 0, .int .i64 0] 28)
  go_enter Tryz.func25, Tryz.ntmps25
  go_wp2_with fail
  generalize (w.alloc (.cells #[.int .u32 0, .int .u32 0] 58)).alloc (.cells #[.int .i64 0, .int .i64 0] 28) = W at *
  refine (hT _).mono ?_
  rintro e w1 ⟨v1, rfl, hrow, hb1⟩
  obtain ⟨a1, c1, rfl⟩ := own_shape7 hrow
  have sS := (Array.getElem?_eq_some_iff.1 kS).1
  have s1 : w.heap.size + 1 < w1.heap.size := Nat.lt_of_lt_of_le sS hb1.size
  obtain ⟨hv, hfar⟩ := toks_of_own hrow rfl
  by_cases he : er = 0
  · subst he
    rw [if_neg (by simp)] at hH
    have hba : Below w1.heap.size w1 ((w1.alloc (.cells #[.int .i64 0, .int .i64 at_] 28)).alloc (.cells #[.int .u32 0, .int .u32 0] 58)) := ((Below.refl _ w1).alloc (Nat.le_refl _) _).alloc (by simp) _
    have hb1a := hb1.trans (hba.mono hb1.size)
    have hS0 : RefH w (w1.heap.size + 1) a1 l (.int .u32 0) (.int .u32 0) ((w1.alloc (.cells #[.int .i64 0, .int .i64 at_] 28)).alloc (.cells #[.int .u32 0, .int .u32 0] 58)) :=
      ⟨hv.below hba, hB0.trans (hb1a.mono hB0.size), (hb1a.block _ (by omega)).trans kH, (hb1a.block _ sS).trans kS, by simpa using heap_alloc_new (w1.alloc (.cells #[.int .i64 0, .int .i64 at_] 28)) (.cells #[.int .u32 0, .int .u32 0] 58), by omega, fun b off e => by have := hfar b off e; omega⟩
    have HS0 := hide hS0
    have HH := hide hH
    have HG3 := hide g3
    have HIN := hide hIn
    have hnb : (l.length : Int) ≤ 16777216 := by omega
    have hSp := refSpot_any
    have hNm := fun (k : Nat) (hk : k < l.length) (wx : World) => refNumber_any (nthT l k).2.1 wx (HIN.out k hk).2.2.1
    have HNM := hide hNm
    clear hT hrow hb1 hba hb1a hS0 hH g3 hIn hv hfar kH kS hB0 hNm
    go_wp2_with fail
    generalize hW2 : (w1.alloc (.cells #[.int .i64 0, .int .i64 at_] 28)).alloc (.cells #[.int .u32 0, .int .u32 0] 58) = W2 at *
    generalize hBh : w1.heap.size + 1 = Bh at *
    clear hW2 hBh
    go_loopw [7] (fun i wr => ∃ k : Nat, k ≤ l.length ∧ k ≤ 3 ∧ i = .int .i64 k ∧ RefH w Bh a1 l (.int .u32 (genAt l k)) (.int .u32 (bndAt l k)) wr ∧ Hid (HeadTo l k)) (fun i _ => l.length - (intOf i).toNat)
    case atStart => exact ⟨0, Nat.zero_le _, by omega, rfl, HS0.out, ⟨fun h => by omega, fun h => by omega, fun h => by omega⟩⟩
    case round =>
      obtain ⟨k, hk, hk3, rfl, hS, HTO⟩ := hrel
      clear HS0
      have HHS := hide hS
      by_cases hlt : k < l.length
      · obtain ⟨g1, o1, rfl, hg1, t1, t2, t3⟩ := hS.toks k hlt
        have hki : (k : Int) < (l.length : Int) := by omega
        have hN := HNM.out k hlt
        have hi := HIN.out k hlt
        clear hS HNM
        have hk4 : k = 0 ∨ k = 1 ∨ k = 2 ∨ k = 3 := by omega
        rcases hk4 with rfl | rfl | rfl | rfl
        · have HX := hide (headP_first (len := (s.size : Int)) hlt)
          rw [← HH.out] at HX
          have HNX := hide (head_next0 (l := l))
          generalize nthT l 0 = z at *
          obtain ⟨z1, z2, z3⟩ := z
          simp only [Nat.zero_mul, Nat.add_zero] at t1 t2 t3
          simp only at t1 t2 t3 hN hi HX HNX
          by_cases hk1 : z1 = 1
          · subst hk1
            by_cases hm : z2 = moduleS
            · have hm' : (z2.toList == [109, 111, 100, 117, 108, 101]) = true := by rw [beq_iff_eq, hm]; exact mod_list
              have HM := hide hm
              clear hm
              go_wp2_with fail
              go_roundw
              case rel => exact ⟨1, by omega, by omega, by go_num, HHS.out, HNX.out rfl HM.out⟩
              case measure => simp [intOf]; omega
            · have hm' : (z2.toList == [109, 111, 100, 117, 108, 101]) = false := by
                rw [beq_eq_false_iff_ne]
                intro e
                exact hm (str_injA (e.trans mod_list.symm))
              have HE8 := hide (HX.out (by simp [hm]))
              clear hm
              go_wp2_with fail
              refine (hSp (70) (z3) _).mono ?_
              rintro x w5 ⟨rfl, hb5⟩
              have hS5 := HHS.out.below hb5
              obtain ⟨ch, fh⟩ := blk_cells hS5.head
              obtain ⟨cp, fp⟩ := blk_cells hS5.spot
              have u0 := ch 0
              have u1 := ch 1
              have p0 := cp 0
              have p1 := cp 1
              obtain ⟨r1, r2, r3⟩ := four_putX hS5.head hS5.spot (.int .u32 0) (.int .u32 0) (.int .i64 (70)) (.int .i64 (z3))
              have HY := hide (hS5.bel.trans r3)
              have HY1 := hide r1
              have HY2 := hide r2
              clear r1 r2 r3 ch cp hS5 hb5 HHS
              go_wp2_with fail
              generalize (((w5.setCell ⟨w.heap.size, 0, none⟩ (.int .u32 0)).setCell ⟨w.heap.size, 1, none⟩ (.int .u32 0)).setCell ⟨w.heap.size + 1, 0, none⟩ (.int .i64 (70))).setCell ⟨w.heap.size + 1, 1, none⟩ (.int .i64 (z3)) = X at *
              obtain ⟨e1, _⟩ := blk_cells HY1.out
              obtain ⟨e2, _⟩ := blk_cells HY2.out
              have a0 := e1 0
              have a1 := e1 1
              have b0 := e2 0
              have b1 := e2 1
              refine bodyPost_ret (v := .tuple #[.agg #[.int .u32 0, .int .u32 0], .agg #[.int .i64 (70), .int .i64 (z3)]]) ?_ rfl ⟨by rw [HE8.out], HY.out⟩
              simp [results, Tryz.results25, go_sem, a0, a1, b0, b1]
          · have hk1' : (z1 != 1) = true := by simp [hk1]
            have HE8 := hide (HX.out (by simp [hk1]))
            clear hk1
            go_wp2_with fail
            refine (hSp (70) (z3) _).mono ?_
            rintro x w5 ⟨rfl, hb5⟩
            have hS5 := HHS.out.below hb5
            obtain ⟨ch, fh⟩ := blk_cells hS5.head
            obtain ⟨cp, fp⟩ := blk_cells hS5.spot
            have u0 := ch 0
            have u1 := ch 1
            have p0 := cp 0
            have p1 := cp 1
            obtain ⟨r1, r2, r3⟩ := four_putX hS5.head hS5.spot (.int .u32 0) (.int .u32 0) (.int .i64 (70)) (.int .i64 (z3))
            have HY := hide (hS5.bel.trans r3)
            have HY1 := hide r1
            have HY2 := hide r2
            clear r1 r2 r3 ch cp hS5 hb5 HHS
            go_wp2_with fail
            generalize (((w5.setCell ⟨w.heap.size, 0, none⟩ (.int .u32 0)).setCell ⟨w.heap.size, 1, none⟩ (.int .u32 0)).setCell ⟨w.heap.size + 1, 0, none⟩ (.int .i64 (70))).setCell ⟨w.heap.size + 1, 1, none⟩ (.int .i64 (z3)) = X at *
            obtain ⟨e1, _⟩ := blk_cells HY1.out
            obtain ⟨e2, _⟩ := blk_cells HY2.out
            have a0 := e1 0
            have a1 := e1 1
            have b0 := e2 0
            have b1 := e2 1
            refine bodyPost_ret (v := .tuple #[.agg #[.int .u32 0, .int .u32 0], .agg #[.int .i64 (70), .int .i64 (z3)]]) ?_ rfl ⟨by rw [HE8.out], HY.out⟩
            simp [results, Tryz.results25, go_sem, a0, a1, b0, b1]
        · have hok := HTO.out.1 (by omega)
          have HX := hide (headP_one (len := (s.size : Int)) hlt hok)
          rw [← HH.out] at HX
          have hown := HHS.out.own
          obtain ⟨ch, fh0⟩ := blk_cells hown
          have h0c := ch 0
          have h1c := ch 1
          clear ch hown
          obtain ⟨z, hz⟩ : ∃ z, z = nthT l 1 := ⟨_, rfl⟩
          rw [← hz] at t1 t2 t3 hN hi HX
          have HZ := hide hz
          clear hz
          obtain ⟨z1, z2, z3⟩ := z
          simp only at t1 t2 t3 hN hi HX
          by_cases hk1 : z1 = 3
          · subst hk1
            have hnp : numP ((3, z2, z3) : TokT) = numErr (strI z2) := numP_num rfl
            rw [hnp] at HX
            have HNV := hide (fun (h : numErr (strI z2) = 0) => numV_ok (numErr_zero h))
            generalize hne : numErr (strI z2) = ne at *
            generalize hno : numOut (strI z2) = no at *
            have HNE := hide hne
            have HNO := hide hno
            clear hne hno hnp
            go_wp2_with fail
            refine (hN _).mono ?_
            rintro x w' ⟨rfl, rfl⟩
            by_cases hz0 : ne = 0
            · subst hz0
              obtain ⟨e1, e2, e3, e4⟩ := HNV.out (by trivial)
              have HP := hide (HHS.out.put0 (.int .u32 no))
              have hgen : genAt l 2 = no := by unfold genAt; rw [if_pos (by omega), ← HZ.out]; exact e2.symm
              have hbn : bndAt l 2 = bndAt l 1 := rfl
              have HNX : Hid (HeadTo l 2) := ⟨fun _ => hok, fun _ => by rw [← HZ.out, numP_num rfl]; exact HNE.out, fun h => by omega⟩
              have HGB : Hid (genAt l 2 = no ∧ bndAt l 2 = bndAt l 1) := ⟨hgen, hbn⟩
              clear e1 e2 e3 e4 hgen hbn HHS
              go_wp2_with fail
              go_roundw
              case rel => exact ⟨2, by omega, by omega, by go_num, by rw [HGB.out.1, HGB.out.2]; exact HP.out, HNX⟩
              case measure => simp [intOf]; omega
            · have hz0' : (ne != 0) = true := by simp [hz0]
              have HE8 := hide (HX.out hz0)
              clear hz0
              go_wp2_with fail
              refine (hSp (ne) (z3) _).mono ?_
              rintro x w5 ⟨rfl, hb5⟩
              have hS5 := HHS.out.below hb5
              obtain ⟨ch, fh⟩ := blk_cells hS5.head
              obtain ⟨cp, fp⟩ := blk_cells hS5.spot
              have u0 := ch 0
              have u1 := ch 1
              have p0 := cp 0
              have p1 := cp 1
              obtain ⟨r1, r2, r3⟩ := four_putX hS5.head hS5.spot (.int .u32 0) (.int .u32 0) (.int .i64 (ne)) (.int .i64 (z3))
              have HY := hide (hS5.bel.trans r3)
              have HY1 := hide r1
              have HY2 := hide r2
              clear r1 r2 r3 ch cp hS5 hb5 HHS
              go_wp2_with fail
              generalize (((w5.setCell ⟨w.heap.size, 0, none⟩ (.int .u32 0)).setCell ⟨w.heap.size, 1, none⟩ (.int .u32 0)).setCell ⟨w.heap.size + 1, 0, none⟩ (.int .i64 (ne))).setCell ⟨w.heap.size + 1, 1, none⟩ (.int .i64 (z3)) = X at *
              obtain ⟨e1, _⟩ := blk_cells HY1.out
              obtain ⟨e2, _⟩ := blk_cells HY2.out
              have a0 := e1 0
              have a1 := e1 1
              have b0 := e2 0
              have b1 := e2 1
              refine bodyPost_ret (v := .tuple #[.agg #[.int .u32 0, .int .u32 0], .agg #[.int .i64 (ne), .int .i64 (z3)]]) ?_ rfl ⟨by rw [HE8.out], HY.out⟩
              simp [results, Tryz.results25, go_sem, a0, a1, b0, b1]
          · have hk1' : (z1 != 3) = true := by simp [hk1]
            have hnp : numP ((z1, z2, z3) : TokT) = 70 := numP_kind hk1
            rw [hnp] at HX
            have HE8 := hide (HX.out (by decide))
            clear hk1 hnp
            go_wp2_with fail
            refine (hSp (70) (z3) _).mono ?_
            rintro x w5 ⟨rfl, hb5⟩
            have hS5 := HHS.out.below hb5
            obtain ⟨ch, fh⟩ := blk_cells hS5.head
            obtain ⟨cp, fp⟩ := blk_cells hS5.spot
            have u0 := ch 0
            have u1 := ch 1
            have p0 := cp 0
            have p1 := cp 1
            obtain ⟨r1, r2, r3⟩ := four_putX hS5.head hS5.spot (.int .u32 0) (.int .u32 0) (.int .i64 (70)) (.int .i64 (z3))
            have HY := hide (hS5.bel.trans r3)
            have HY1 := hide r1
            have HY2 := hide r2
            clear r1 r2 r3 ch cp hS5 hb5 HHS
            go_wp2_with fail
            generalize (((w5.setCell ⟨w.heap.size, 0, none⟩ (.int .u32 0)).setCell ⟨w.heap.size, 1, none⟩ (.int .u32 0)).setCell ⟨w.heap.size + 1, 0, none⟩ (.int .i64 (70))).setCell ⟨w.heap.size + 1, 1, none⟩ (.int .i64 (z3)) = X at *
            obtain ⟨e1, _⟩ := blk_cells HY1.out
            obtain ⟨e2, _⟩ := blk_cells HY2.out
            have a0 := e1 0
            have a1 := e1 1
            have b0 := e2 0
            have b1 := e2 1
            refine bodyPost_ret (v := .tuple #[.agg #[.int .u32 0, .int .u32 0], .agg #[.int .i64 (70), .int .i64 (z3)]]) ?_ rfl ⟨by rw [HE8.out], HY.out⟩
            simp [results, Tryz.results25, go_sem, a0, a1, b0, b1]
        · have hok := HTO.out.1 (by omega)
          have HX := hide (headP_two (len := (s.size : Int)) hlt hok (HTO.out.2.1 (by omega)))
          rw [← HH.out] at HX
          have hown := HHS.out.own
          obtain ⟨ch, fh0⟩ := blk_cells hown
          have h0c := ch 0
          have h1c := ch 1
          clear ch hown
          obtain ⟨z, hz⟩ : ∃ z, z = nthT l 2 := ⟨_, rfl⟩
          rw [← hz] at t1 t2 t3 hN hi HX
          have HZ := hide hz
          clear hz
          obtain ⟨z1, z2, z3⟩ := z
          simp only at t1 t2 t3 hN hi HX
          by_cases hk1 : z1 = 3
          · subst hk1
            have hnp : numP ((3, z2, z3) : TokT) = numErr (strI z2) := numP_num rfl
            rw [hnp] at HX
            have HNV := hide (fun (h : numErr (strI z2) = 0) => numV_ok (numErr_zero h))
            generalize hne : numErr (strI z2) = ne at *
            generalize hno : numOut (strI z2) = no at *
            have HNE := hide hne
            have HNO := hide hno
            clear hne hno hnp
            go_wp2_with fail
            refine (hN _).mono ?_
            rintro x w' ⟨rfl, rfl⟩
            by_cases hz0 : ne = 0
            · subst hz0
              obtain ⟨e1, e2, e3, e4⟩ := HNV.out (by trivial)
              have HP := hide (HHS.out.put1 (.int .u32 no))
              have hvn : numV (strI z2) = no := e2.symm
              have hgen : genAt l 3 = genAt l 2 := rfl
              have hbn : bndAt l 3 = no := by unfold bndAt; rw [if_pos (by omega), ← HZ.out]; exact hvn
              have HGB : Hid (genAt l 3 = genAt l 2 ∧ bndAt l 3 = no) := ⟨hgen, hbn⟩
              have HE7 := hide (HX.out.2 (by trivial))
              rw [hvn] at HE7
              have hno0 : 0 ≤ no := by rw [← hvn]; exact e3
              have hno1 : no < 4294967296 := by rw [← hvn]; exact e4
              have HNX : Hid (¬ (no < 1 ∨ 65536 < no) → HeadTo l 3) := fun h => ⟨fun _ => hok, fun _ => HTO.out.2.1 (by omega), fun _ => by rw [← HZ.out]; exact ⟨by rw [numP_num rfl]; exact HNE.out, by simp only; rw [hvn]; exact h⟩⟩
              clear e1 e2 e3 e4 hgen hbn hvn
              by_cases hb : no < 1 ∨ 65536 < no
              · have HE8 := hide (HE7.out hb)
                have HHS := HP
                clear HE7 HNX HP
                by_cases hb1 : no < 1
                · have hd1 : decide (no < 1) = true := decide_eq_true hb1
                  clear hb hb1
                  go_wp2_with fail
                  refine (hSp (24) (z3) _).mono ?_
                  rintro x w5 ⟨rfl, hb5⟩
                  have hS5 := HHS.out.below hb5
                  obtain ⟨ch, fh⟩ := blk_cells hS5.head
                  obtain ⟨cp, fp⟩ := blk_cells hS5.spot
                  have u0 := ch 0
                  have u1 := ch 1
                  have p0 := cp 0
                  have p1 := cp 1
                  obtain ⟨r1, r2, r3⟩ := four_putX hS5.head hS5.spot (.int .u32 0) (.int .u32 0) (.int .i64 (24)) (.int .i64 (z3))
                  have HY := hide (hS5.bel.trans r3)
                  have HY1 := hide r1
                  have HY2 := hide r2
                  clear r1 r2 r3 ch cp hS5 hb5 HHS
                  go_wp2_with fail
                  generalize (((w5.setCell ⟨w.heap.size, 0, none⟩ (.int .u32 0)).setCell ⟨w.heap.size, 1, none⟩ (.int .u32 0)).setCell ⟨w.heap.size + 1, 0, none⟩ (.int .i64 (24))).setCell ⟨w.heap.size + 1, 1, none⟩ (.int .i64 (z3)) = X at *
                  obtain ⟨e1, _⟩ := blk_cells HY1.out
                  obtain ⟨e2, _⟩ := blk_cells HY2.out
                  have a0 := e1 0
                  have a1 := e1 1
                  have b0 := e2 0
                  have b1 := e2 1
                  refine bodyPost_ret (v := .tuple #[.agg #[.int .u32 0, .int .u32 0], .agg #[.int .i64 (24), .int .i64 (z3)]]) ?_ rfl ⟨by rw [HE8.out], HY.out⟩
                  simp [results, Tryz.results25, go_sem, a0, a1, b0, b1]
                · have hd1 : decide (no < 1) = false := decide_eq_false hb1
                  have hd2 : decide ((65536 : Int) < no) = true := decide_eq_true (by omega)
                  clear hb hb1
                  go_wp2_with fail
                  refine (hSp (24) (z3) _).mono ?_
                  rintro x w5 ⟨rfl, hb5⟩
                  have hS5 := HHS.out.below hb5
                  obtain ⟨ch, fh⟩ := blk_cells hS5.head
                  obtain ⟨cp, fp⟩ := blk_cells hS5.spot
                  have u0 := ch 0
                  have u1 := ch 1
                  have p0 := cp 0
                  have p1 := cp 1
                  obtain ⟨r1, r2, r3⟩ := four_putX hS5.head hS5.spot (.int .u32 0) (.int .u32 0) (.int .i64 (24)) (.int .i64 (z3))
                  have HY := hide (hS5.bel.trans r3)
                  have HY1 := hide r1
                  have HY2 := hide r2
                  clear r1 r2 r3 ch cp hS5 hb5 HHS
                  go_wp2_with fail
                  generalize (((w5.setCell ⟨w.heap.size, 0, none⟩ (.int .u32 0)).setCell ⟨w.heap.size, 1, none⟩ (.int .u32 0)).setCell ⟨w.heap.size + 1, 0, none⟩ (.int .i64 (24))).setCell ⟨w.heap.size + 1, 1, none⟩ (.int .i64 (z3)) = X at *
                  obtain ⟨e1, _⟩ := blk_cells HY1.out
                  obtain ⟨e2, _⟩ := blk_cells HY2.out
                  have a0 := e1 0
                  have a1 := e1 1
                  have b0 := e2 0
                  have b1 := e2 1
                  refine bodyPost_ret (v := .tuple #[.agg #[.int .u32 0, .int .u32 0], .agg #[.int .i64 (24), .int .i64 (z3)]]) ?_ rfl ⟨by rw [HE8.out], HY.out⟩
                  simp [results, Tryz.results25, go_sem, a0, a1, b0, b1]
              · have hd1 : decide (no < 1) = false := decide_eq_false (by omega)
                have hd2 : decide ((65536 : Int) < no) = false := decide_eq_false (by omega)
                have HN3 := hide (HNX.out hb)
                clear hb HNX HE7 HHS
                go_wp2_with fail
                go_roundw
                case rel => exact ⟨3, by omega, by omega, by go_num, by rw [HGB.out.1, HGB.out.2]; exact HP.out, HN3.out⟩
                case measure => simp [intOf]; omega
            · have hz0' : (ne != 0) = true := by simp [hz0]
              have HE8 := hide (HX.out.1 hz0)
              clear hz0
              go_wp2_with fail
              refine (hSp (ne) (z3) _).mono ?_
              rintro x w5 ⟨rfl, hb5⟩
              have hS5 := HHS.out.below hb5
              obtain ⟨ch, fh⟩ := blk_cells hS5.head
              obtain ⟨cp, fp⟩ := blk_cells hS5.spot
              have u0 := ch 0
              have u1 := ch 1
              have p0 := cp 0
              have p1 := cp 1
              obtain ⟨r1, r2, r3⟩ := four_putX hS5.head hS5.spot (.int .u32 0) (.int .u32 0) (.int .i64 (ne)) (.int .i64 (z3))
              have HY := hide (hS5.bel.trans r3)
              have HY1 := hide r1
              have HY2 := hide r2
              clear r1 r2 r3 ch cp hS5 hb5 HHS
              go_wp2_with fail
              generalize (((w5.setCell ⟨w.heap.size, 0, none⟩ (.int .u32 0)).setCell ⟨w.heap.size, 1, none⟩ (.int .u32 0)).setCell ⟨w.heap.size + 1, 0, none⟩ (.int .i64 (ne))).setCell ⟨w.heap.size + 1, 1, none⟩ (.int .i64 (z3)) = X at *
              obtain ⟨e1, _⟩ := blk_cells HY1.out
              obtain ⟨e2, _⟩ := blk_cells HY2.out
              have a0 := e1 0
              have a1 := e1 1
              have b0 := e2 0
              have b1 := e2 1
              refine bodyPost_ret (v := .tuple #[.agg #[.int .u32 0, .int .u32 0], .agg #[.int .i64 (ne), .int .i64 (z3)]]) ?_ rfl ⟨by rw [HE8.out], HY.out⟩
              simp [results, Tryz.results25, go_sem, a0, a1, b0, b1]
          · have hk1' : (z1 != 3) = true := by simp [hk1]
            have hnp : numP ((z1, z2, z3) : TokT) = 70 := numP_kind hk1
            rw [hnp] at HX
            have HE8 := hide (HX.out.1 (by decide))
            clear hk1 hnp
            go_wp2_with fail
            refine (hSp (70) (z3) _).mono ?_
            rintro x w5 ⟨rfl, hb5⟩
            have hS5 := HHS.out.below hb5
            obtain ⟨ch, fh⟩ := blk_cells hS5.head
            obtain ⟨cp, fp⟩ := blk_cells hS5.spot
            have u0 := ch 0
            have u1 := ch 1
            have p0 := cp 0
            have p1 := cp 1
            obtain ⟨r1, r2, r3⟩ := four_putX hS5.head hS5.spot (.int .u32 0) (.int .u32 0) (.int .i64 (70)) (.int .i64 (z3))
            have HY := hide (hS5.bel.trans r3)
            have HY1 := hide r1
            have HY2 := hide r2
            clear r1 r2 r3 ch cp hS5 hb5 HHS
            go_wp2_with fail
            generalize (((w5.setCell ⟨w.heap.size, 0, none⟩ (.int .u32 0)).setCell ⟨w.heap.size, 1, none⟩ (.int .u32 0)).setCell ⟨w.heap.size + 1, 0, none⟩ (.int .i64 (70))).setCell ⟨w.heap.size + 1, 1, none⟩ (.int .i64 (z3)) = X at *
            obtain ⟨e1, _⟩ := blk_cells HY1.out
            obtain ⟨e2, _⟩ := blk_cells HY2.out
            have a0 := e1 0
            have a1 := e1 1
            have b0 := e2 0
            have b1 := e2 1
            refine bodyPost_ret (v := .tuple #[.agg #[.int .u32 0, .int .u32 0], .agg #[.int .i64 (70), .int .i64 (z3)]]) ?_ rfl ⟨by rw [HE8.out], HY.out⟩
            simp [results, Tryz.results25, go_sem, a0, a1, b0, b1]
        · have h3 := HTO.out.2.2 (by omega)
          have HX := hide (headP_three (len := (s.size : Int)) (by omega) (HTO.out.1 (by omega)) (HTO.out.2.1 (by omega)) h3.1 h3.2)
          rw [if_pos hlt, ← HH.out] at HX
          clear h3
          generalize nthT l 3 = z at *
          obtain ⟨z1, z2, z3⟩ := z
          simp only at t1 t2 t3 hN hi HX
          go_wp2_with fail
          refine (hSp (70) (z3) _).mono ?_
          rintro x w5 ⟨rfl, hb5⟩
          have hS5 := HHS.out.below hb5
          obtain ⟨ch, fh⟩ := blk_cells hS5.head
          obtain ⟨cp, fp⟩ := blk_cells hS5.spot
          have u0 := ch 0
          have u1 := ch 1
          have p0 := cp 0
          have p1 := cp 1
          obtain ⟨r1, r2, r3⟩ := four_putX hS5.head hS5.spot (.int .u32 0) (.int .u32 0) (.int .i64 (70)) (.int .i64 (z3))
          have HY := hide (hS5.bel.trans r3)
          have HY1 := hide r1
          have HY2 := hide r2
          clear r1 r2 r3 ch cp hS5 hb5 HHS
          go_wp2_with fail
          generalize (((w5.setCell ⟨w.heap.size, 0, none⟩ (.int .u32 0)).setCell ⟨w.heap.size, 1, none⟩ (.int .u32 0)).setCell ⟨w.heap.size + 1, 0, none⟩ (.int .i64 (70))).setCell ⟨w.heap.size + 1, 1, none⟩ (.int .i64 (z3)) = X at *
          obtain ⟨e1, _⟩ := blk_cells HY1.out
          obtain ⟨e2, _⟩ := blk_cells HY2.out
          have a0 := e1 0
          have a1 := e1 1
          have b0 := e2 0
          have b1 := e2 1
          refine bodyPost_ret (v := .tuple #[.agg #[.int .u32 0, .int .u32 0], .agg #[.int .i64 (70), .int .i64 (z3)]]) ?_ rfl ⟨by rw [HX.out], HY.out⟩
          simp [results, Tryz.results25, go_sem, a0, a1, b0, b1]
      · obtain rfl : k = l.length := by omega
        have hown := hS.own
        obtain ⟨ch, fh0⟩ := blk_cells hown
        have h0c := ch 0
        have h1c := ch 1
        clear hS HNM ch hown
        by_cases h3 : l.length < 3
        · have HX := hide (headP_early (len := (s.size : Int)) h3 HTO.out.1 HTO.out.2.1)
          rw [← HH.out] at HX
          have hd : decide ((l.length : Int) < 3) = true := decide_eq_true (by omega)
          clear h3
          go_wp2_with fail
          refine (hSp (72) ((s.size : Int)) _).mono ?_
          rintro x w5 ⟨rfl, hb5⟩
          have hS5 := HHS.out.below hb5
          obtain ⟨ch, fh⟩ := blk_cells hS5.head
          obtain ⟨cp, fp⟩ := blk_cells hS5.spot
          have u0 := ch 0
          have u1 := ch 1
          have p0 := cp 0
          have p1 := cp 1
          obtain ⟨r1, r2, r3⟩ := four_putX hS5.head hS5.spot (.int .u32 0) (.int .u32 0) (.int .i64 (72)) (.int .i64 ((s.size : Int)))
          have HY := hide (hS5.bel.trans r3)
          have HY1 := hide r1
          have HY2 := hide r2
          clear r1 r2 r3 ch cp hS5 hb5 HHS
          go_wp2_with fail
          generalize (((w5.setCell ⟨w.heap.size, 0, none⟩ (.int .u32 0)).setCell ⟨w.heap.size, 1, none⟩ (.int .u32 0)).setCell ⟨w.heap.size + 1, 0, none⟩ (.int .i64 (72))).setCell ⟨w.heap.size + 1, 1, none⟩ (.int .i64 ((s.size : Int))) = X at *
          obtain ⟨e1, _⟩ := blk_cells HY1.out
          obtain ⟨e2, _⟩ := blk_cells HY2.out
          have a0 := e1 0
          have a1 := e1 1
          have b0 := e2 0
          have b1 := e2 1
          refine bodyPost_ret (v := .tuple #[.agg #[.int .u32 0, .int .u32 0], .agg #[.int .i64 (72), .int .i64 ((s.size : Int))]]) ?_ rfl ⟨by rw [HX.out], HY.out⟩
          simp [results, Tryz.results25, go_sem, a0, a1, b0, b1]
        · have h4 := HTO.out.2.2 (by omega)
          have HX := hide (headP_three (len := (s.size : Int)) (by omega) (HTO.out.1 (by omega)) (HTO.out.2.1 (by omega)) h4.1 h4.2)
          rw [if_neg (by omega), ← HH.out] at HX
          have hd : decide ((l.length : Int) < 3) = false := decide_eq_false (by omega)
          have hgen : genAt l l.length = numV (strI (nthT l 1).2.1) := by unfold genAt; rw [if_pos (by omega)]
          have hbn : bndAt l l.length = numV (strI (nthT l 2).2.1) := by unfold bndAt; rw [if_pos (by omega)]
          rw [← hgen, ← hbn] at HX
          generalize genAt l l.length = gg at *
          generalize bndAt l l.length = bb at *
          obtain ⟨ch, fh⟩ := blk_cells HHS.out.head
          obtain ⟨cp, fp⟩ := blk_cells HHS.out.spot
          have u0 := ch 0
          have u1 := ch 1
          have p0 := cp 0
          have p1 := cp 1
          obtain ⟨r1, r2, r3⟩ := four_putX HHS.out.head HHS.out.spot (.int .u32 gg) (.int .u32 bb) (.int .i64 0) (.int .i64 0)
          have HY := hide (HHS.out.bel.trans r3)
          have HY1 := hide r1
          have HY2 := hide r2
          clear r1 r2 r3 ch cp HHS h3 h4 hgen hbn
          go_wp2_with fail
          generalize (((wr.setCell ⟨w.heap.size, 0, none⟩ (.int .u32 gg)).setCell ⟨w.heap.size, 1, none⟩ (.int .u32 bb)).setCell ⟨w.heap.size + 1, 0, none⟩ (.int .i64 0)).setCell ⟨w.heap.size + 1, 1, none⟩ (.int .i64 0) = X at *
          obtain ⟨e1, _⟩ := blk_cells HY1.out
          obtain ⟨e2, _⟩ := blk_cells HY2.out
          have a0 := e1 0
          have a1 := e1 1
          have b0 := e2 0
          have b1 := e2 1
          refine bodyPost_ret (v := .tuple #[.agg #[.int .u32 gg, .int .u32 bb], .agg #[.int .i64 0, .int .i64 0]]) ?_ rfl ⟨by rw [HX.out], HY.out⟩
          simp [results, Tryz.results25, go_sem, a0, a1, b0, b1]
  · have he' : (er != 0) = true := by simp [he]
    rw [if_pos he] at hH
    subst hH
    have hba : Below w1.heap.size w1 (w1.alloc (.cells #[.int .i64 er, .int .i64 at_] 28)) := (Below.refl _ w1).alloc (Nat.le_refl _) _
    have hb1a := hb1.trans (hba.mono hb1.size)
    have kH1 := (hb1a.block _ (by omega)).trans kH
    have kS1 := (hb1a.block _ sS).trans kS
    have kP := heap_alloc_new w1 (.cells #[.int .i64 er, .int .i64 at_] 28)
    obtain ⟨ch, fh⟩ := blk_cells kH1
    obtain ⟨cp, fp⟩ := blk_cells kS1
    obtain ⟨ck, _⟩ := blk_cells kP
    obtain ⟨r1, r2, r3⟩ := four_drew kH1 kS1 (.int .u32 0) (.int .u32 0) (.int .i64 er) (.int .i64 at_)
    have hB1 := hB0.trans (hb1a.mono hB0.size)
    have HY := hide (hB1.trans r3)
    have HY1 := hide r1
    have HY2 := hide r2
    have HU := hide (And.intro (ch 0) (And.intro (ch 1) (And.intro (cp 0) (And.intro (cp 1) (And.intro (ck 0) (ck 1))))))
    have HFF := hide (And.intro fh fp)
    clear r1 r2 r3 ch cp ck kH1 kS1 kP hB1 fh fp hba hb1a hb1 hT hrow hv hfar g3 hIn kH kS hB0
    go_wp2_with fail
    generalize w1.alloc (.cells #[.int .i64 er, .int .i64 at_] 28) = W2 at *
    obtain ⟨u0, u1, p0, p1, v0, v1⟩ := HU.out
    obtain ⟨fh, fp⟩ := HFF.out
    have n1 : w1.heap.size ≠ w.heap.size := by omega
    have n2 : w1.heap.size ≠ w.heap.size + 1 := by omega
    clear HU HFF
    go_region
    generalize ((((W2.setCell ⟨w.heap.size, 0, none⟩ (.int .u32 0)).setCell ⟨w.heap.size, 1, none⟩ (.int .u32 0)).setCell ⟨w.heap.size + 1, 0, none⟩ (.int .i64 er)).setCell ⟨w.heap.size + 1, 1, none⟩ (.int .i64 at_)).drew = X at *
    clear u0 u1 p0 p1 v0 v1 fh fp
    go_wp2
    obtain ⟨e1, _⟩ := blk_cells HY1.out
    obtain ⟨e2, _⟩ := blk_cells HY2.out
    have a0 := e1 0
    have a1 := e1 1
    have b0 := e2 0
    have b1 := e2 1
    refine bodyPost_ret (v := .tuple #[.agg #[.int .u32 0, .int .u32 0], .agg #[.int .i64 er, .int .i64 at_]]) ?_ rfl ⟨rfl, HY.out⟩
    simp [results, Tryz.results25, go_sem, a0, a1, b0, b1]

end Go.Proofs.YtmobologlaeefaaGreat
